/-
  reseg: is a place inside a field; fields copied. Plain mathematics of spans: a normal form, put in, taken out, gaps, how many. What the small functions of package spans do; how spans are gone through. The closures of package spans: what each does to the variables that it captured.
-/
import Derived.Test.YtdaipfmckonfpaaJSentCounts04
import Derived.WalkKit
import Derived.Test.YtdaipfmckonfpaaJSentCounts01
import Derived.Outline
import Derived.Deep.RegionLaw
import Derived.Deep.AppendLies
namespace Go.Proofs.Ytdaipfmckonfpaa
open Go.RowKit

set_option maxRecDepth 100000 in
set_option maxHeartbeats 1600000 in
theorem each_gen {K : Nat} {caps : Array Value} {A : Option Addr} {L : List RowB} (n cap : Nat) (hcf : ∀ (args : Array Value) (w : World), (callFunc K args).run Try.prog w = .ok (.enter K args) w) (Inv : Nat → World → Prop) (Stop : World → Prop) (w : World) (hL : L.length = n) (hn : n ≤ 9223372036854775807) (h0 : Inv 0 w)
    (hsrc : ∀ k W, Inv k W → RSrc W A L)
    (hstep : ∀ k W r, L[k]? = some r → Inv k W → Calls Try.prog K (#[.int .i64 k, .slice r.A r.bs.length r.cap] ++ caps) W fun e W' => (e = .returned (.bool true) ∧ Inv (k + 1) W') ∨ (e = .returned (.bool false) ∧ Stop W')) :
    Calls Try.prog 141 #[.slice A n cap, .func (.func K) #[] caps] w fun e w' => (e = .returned (.bool true) ∧ Inv n w') ∨ (e = .returned (.bool false) ∧ Stop w') := by
  have HR := Lib.hid hsrc
  have HS := Lib.hid hstep
  have H0 := Lib.hid h0
  have HL := Lib.hid hL
  clear hsrc hstep h0 hL
  go_enter Try.func141, Try.ntmps141
  go_wp2
  refine wp_scope_jumps 0 (fun a' w' => ∃ k : Nat, k ≤ n ∧ Fr [some (.slice A n cap), some (.func (.func K) #[] caps), none, none, some (.bool false), some (.int .i64 k), none, none, none, none, none, none, none, none, none, none, none, none, none, none] a' ∧ Inv k w') (fun a' _ => n - (intOf (a'.tmps.getD 5 undef)).toNat) rfl ?_ ?_
  · rcases Nat.eq_zero_or_pos n with hk0 | hk0
    · subst hk0
      go_wp2
      go_step3
      go_wp2
      simp only [Exit.jump]
      go_ret
      exact .inl ⟨rfl, H0.out⟩
    · obtain ⟨ad, rfl, hcell⟩ := HR.out 0 w H0.out (by rw [HL.out]; exact hk0)
      obtain ⟨r, hy⟩ : ∃ r, L[0]? = some r := ⟨_, List.getElem?_eq_getElem (by rw [HL.out]; exact hk0)⟩
      have c0 : w.cell? ad = some (.slice r.A r.bs.length r.cap) := by have h9 := (hcell 0 r hy).1; rw [addr_zero] at h9; exact h9
      have HC := Lib.hid (HS.out 0 w r hy H0.out)
      have hk0i : (0 : Int) < (n : Int) := by omega
      clear hcell hy
      skip
      all_goals
        go_wp2
        go_step3
        go_wp2_with fail
        refine (HC.out).mono ?_
        rintro e w1 (⟨rfl, hi⟩ | ⟨rfl, hs⟩)
        · go_wp2_with fail
          go_step3
          refine ⟨rfl, 1, by omega, ?_, hi⟩
          simp only [Fr, Holes]
          repeat apply Exists.intro
          rfl
        · go_wp2_with fail
          simp only [Exit.jump]
          go_ret
          exact .inr ⟨rfl, hs⟩
  · rintro a' w' ⟨k, hk, hfr, hinv⟩
    simp only [Fr, Holes] at hfr
    repeat (obtain ⟨_, hfr⟩ := hfr)
    rcases Nat.lt_or_ge k n with hlt | hge
    · obtain ⟨ad, rfl, hcell⟩ := HR.out k w' hinv (by rw [HL.out]; omega)
      obtain ⟨r, hy⟩ : ∃ r, L[k]? = some r := ⟨_, List.getElem?_eq_getElem (by rw [HL.out]; exact hlt)⟩
      have c0 : w'.cell? (ad.add k) = some (.slice r.A r.bs.length r.cap) := (hcell k r hy).1
      have HC := Lib.hid (HS.out k w' r hy hinv)
      have HI := Lib.hid hinv
      clear hcell hy hinv
      skip
      all_goals
        go_wp2_with fail
        refine (HC.out).mono ?_
        rintro e w1 (⟨rfl, hi⟩ | ⟨rfl, hs⟩)
        · go_wp2_with fail
          go_step3
          refine ⟨rfl, ⟨k + 1, by omega, ?_, hi⟩, ?_⟩
          · simp only [Fr, Holes]
            repeat apply Exists.intro
            rfl
          · simp [intOf]
            omega
        · go_wp2_with fail
          simp only [Exit.jump]
          go_ret
          exact .inr ⟨rfl, hs⟩
    · obtain rfl : k = n := by omega
      go_wp2
      simp only [Exit.jump]
      go_ret
      exact .inl ⟨rfl, hinv⟩

theorem enters_copy (args : Array Value) (w : World) : (callFunc 167 args).run Try.prog w = .ok (.enter 167 args) w := enters Try.func167 (by kernel_rfl) rfl args w
set_option maxRecDepth 100000 in
set_option maxHeartbeats 800000 in
theorem copy1_any {B pb g n : Nat} {cs : List Value} {r : RowB} (k : Nat) (w : World) (hp : Row w pb 59 #[.slice (some ⟨g, 0, none⟩) n n]) (hg : Row w g 42 cs.toArray) (hn : cs.length = n) (hk : k < n) (hB : B ≤ w.heap.size) (hr : r.ok w) (hr0 : 0 < r.bs.length) (hr1 : r.bs.length ≤ 1000000) :
    Calls Try.prog 167 #[.int .i64 k, .slice r.A r.bs.length r.cap, .pointer (some ⟨pb, 0, none⟩)] w fun e w' => e = .returned (.bool true) ∧ ∃ A', RowB.mine B w' ⟨A', r.bs.length, r.bs⟩ ∧ Row w' g 42 (cs.set k (.slice A' r.bs.length r.bs.length)).toArray ∧ Only (fun b => b = g) w w' := by
  have HC := Lib.hid (fun W (hb : Below w.heap.size w W) => copied_f (A := r.A) (l := r.bs) w.heap.size r.bs.length r.cap W rfl hr0 hr1 (src_later hr.1 hb) hr.2.2.2 hb.size)
  have hne : pb ≠ g := hp.apart hg (by decide)
  have HP := Lib.hid hp
  have HG := Lib.hid hg
  have hc0 : w.cell? ⟨pb, 0, none⟩ = some (.slice (some ⟨g, 0, none⟩) n n) := hp.read rfl
  have hkI : (k : Int) < (n : Int) := by omega
  obtain ⟨x, hx⟩ : ∃ x, cs[k]? = some x := ⟨_, List.getElem?_eq_getElem (by omega)⟩
  have HX := Lib.hid hx
  clear hp hg hr hx
  generalize r.bs.length = m at *
  go_enter Try.func167, Try.ntmps167
  go_wp2
  have b0 := bl_drew (Below.refl w.heap.size w)
  go_region_held3 (fun w' => w'.cell? ⟨pb, 0, none⟩ = some (.slice (some ⟨g, 0, none⟩) n n)) (first | assumption | go_keep) ((go_at_call 168; (with_reducible refine (HC.out _ b0).mono ?_); rintro e w1 ⟨A1, rfl, hmi, hb1⟩; (have HM1 := Lib.hid hmi); (have HB1 := Lib.hid (b0.trans hb1)); have gp := HP.out.later HB1.out; have gg := HG.out.later HB1.out; have e0 := gp.read (i := 0) (x := .slice (some ⟨g, 0, none⟩) n n) rfl; have e1 := gg.read (i := k) (x := x) (by simpa using HX.out); have e2 := gg.free k; have e3 := (gp.only ((Only.refl (fun b => b = g) w1).set (p := ⟨g, k, none⟩) (.inl rfl) (.slice A1 m m)) hne).read (i := 0) (x := .slice (some ⟨g, 0, none⟩) n n) rfl; clear hmi hb1 gp gg))
  go_wp2
  go_ret
  have hS := ((Only.of_below HB1.out : Only (fun b => b = g) w w1).andThen ((Only.refl (fun b => b = g) w1).set (p := ⟨g, k, none⟩) (.inl rfl) (.slice A1 m m)) (fun _ _ h => h))
  refine ⟨rfl, A1, ?_, ?_, hS⟩
  · refine (HM1.out.only ((Only.refl (fun b => b = g) w1).set (p := ⟨g, k, none⟩) (.inl rfl) (.slice A1 m m)) (fun j cs' _ hj e => ?_)).down hB
    subst e
    have := HG.out.inside
    omega
  · have h1 := (HG.out.later HB1.out).written k (.slice A1 m m)
    rw [List.setIfInBounds_toArray] at h1
    exact h1
theorem make_rows2 (n : Nat) (h : n ≤ 1000) (w : World) :
    (Instr.makeSlice 59 (.int .i64 n) (.int .i64 n)).run Try.prog w = .ok (.slice (some ⟨w.heap.size, 0, none⟩) n n) (w.alloc (.cells (List.replicate n (Value.slice none 0 0)).toArray 42)) := by
  obtain ⟨i, hi, hz, hs, hb⟩ := info_parts Try.info42
  have h := run_make (P := Try.prog) w 59 42 i _ Try.underlying59 hi hz .i64 .i64 n n (by omega) (Int.le_refl _) (by rw [hb]; omega) (by omega)
  have e : madeCells #[Value.slice none 0 0] n = (List.replicate n (Value.slice none 0 0)).toArray := by
    apply Array.toList_inj.1
    rw [toList_madeCells_one]
  rw [h, hs, Nat.mul_one, Int.toNat_natCast, ← e]
  rfl
/-- the first k fields are copied -/
def CopyI (B : Nat) (w0 : World) (pb g n : Nat) (L : List RowB) (k : Nat) (W : World) : Prop :=
  ∃ M : List RowB, M.length = k ∧ texts M = (texts L).take k ∧ Row W pb 59 #[.slice (some ⟨g, 0, none⟩) n n] ∧ Row W g 42 (M.map RowB.v ++ List.replicate (n - k) (Value.slice none 0 0)).toArray ∧ (∀ r ∈ M, r.mine B W) ∧ Below B w0 W
theorem set_mid (xs : List Value) (n : Nat) (v x : Value) : (xs ++ List.replicate (n + 1) x).set xs.length v = xs ++ [v] ++ List.replicate n x := by
  rw [List.set_append_right _ _ (Nat.le_refl _), Nat.sub_self, List.replicate_succ, List.set_cons_zero]
  simp
set_option maxHeartbeats 400000 in
theorem each_copy {B pb g n cap : Nat} {A : Option Addr} {L : List RowB} (w : World) (hL : L.length = n) (hn : n ≤ 1000) (hs : ∀ W, Below B w W → RSrc W A L) (h0 : ∀ l ∈ lens L, 0 < l ∧ l ≤ 1000000) (hp : Row w pb 59 #[.slice (some ⟨g, 0, none⟩) n n]) (hg : Row w g 42 (List.replicate n (Value.slice none 0 0)).toArray) (hgB : B ≤ g) (hB : B ≤ w.heap.size) :
    Calls Try.prog 141 #[.slice A n cap, .func (.func 167) #[] #[.pointer (some ⟨pb, 0, none⟩)]] w fun e w' => e = .returned (.bool true) ∧ CopyI B w pb g n L n w' := by
  have hne : pb ≠ g := hp.apart hg (by decide)
  refine (each_gen (K := 167) (caps := #[.pointer (some ⟨pb, 0, none⟩)]) n cap enters_copy (CopyI B w pb g n L) (fun _ => False) w hL (by omega)
    ⟨[], rfl, by simp [texts], hp, by simpa using hg, fun r hr => (by cases hr), Below.refl _ _⟩ (fun k W h => (by obtain ⟨M, _, _, _, _, _, hb⟩ := h; exact hs W hb)) (fun k W r hr h => ?_)).mono ?_
  · obtain ⟨M, m1, m2, m3, m4, m5, m6⟩ := h
    have hk : k < n := by rw [← hL]; exact (List.getElem?_eq_some_iff.1 hr).1
    have hrok : r.ok W := by
      obtain ⟨ad, _, hc⟩ := hs W m6 (by omega)
      exact (hc k r hr).2
    obtain ⟨hl0, hl1⟩ := h0 r.bs.length (List.mem_of_getElem? (lens_at hr))
    refine (copy1_any (B := B) (r := r) k W m3 m4 (by simp [m1]; omega) hk (Nat.le_trans hB m6.size) hrok hl0 hl1).mono ?_
    rintro e W2 ⟨rfl, A', g1, g2, g3⟩
    refine .inl ⟨rfl, M ++ [⟨A', r.bs.length, r.bs⟩], by simp [m1], ?_, m3.only g3 hne, ?_, fun x hx => ?_, m6.trans (only_below g3 hgB (Nat.le_trans hB m6.size))⟩
    · have h1 := texts_at hr
      obtain ⟨hk2, h2⟩ := List.getElem?_eq_some_iff.1 h1
      rw [List.take_succ_eq_append_getElem hk2, h2, ← m2]
      unfold texts
      simp
    · have e1 : n - k = (n - (k + 1)) + 1 := by omega
      have e2 : k = (M.map RowB.v).length := by simp [m1]
      rw [e1] at g2
      have e3 := set_mid (M.map RowB.v) (n - (k + 1)) (Value.slice A' r.bs.length r.bs.length) (Value.slice none 0 0)
      rw [← e2] at e3
      rw [e3] at g2
      simpa [RowB.v] using g2
    · rw [List.mem_append, List.mem_singleton] at hx
      rcases hx with hx | rfl
      · exact (m5 x hx).only g3 (fun j cs hj _ e => hj.apart m4 (by decide) e)
      · exact g1
  · rintro e W (⟨rfl, h⟩ | ⟨_, h⟩)
    · exact ⟨rfl, h⟩
    · exact h.elim
set_option maxHeartbeats 400000 in
/-- fields in memory of their own -/
theorem copy_any {A : Option Addr} {L : List RowB} (n cap : Nat) (w : World) (hL : L.length = n) (hn : n ≤ 1000) (hs : RSrc w A L) (h0 : ∀ l ∈ lens L, 0 < l ∧ l ≤ 1000000) :
    Calls Try.prog 114 #[.slice A n cap] w fun e w' => ∃ g M, e = .returned (.slice (some ⟨g, 0, none⟩) n n) ∧ M.length = n ∧ texts M = texts L ∧ OwnR w.heap.size w' (.slice (some ⟨g, 0, none⟩) n n) M ∧ Below w.heap.size w w' := by
  have HM := make_rows2 n hn
  have HE := Lib.hid (fun W (hb : Below w.heap.size w W) x y => each_copy (pb := w.heap.size + 1) (g := w.heap.size) (B := w.heap.size) (cap := cap) W hL hn (fun W' hb' => hs.later (hb.trans hb')) h0 x y (Nat.le_refl _) hb.size)
  have HTL := Lib.hid (show (texts L).take n = texts L by rw [← hL, ← length_texts, List.take_length])
  clear hL hs h0
  have hrep : (List.replicate n (Value.slice none 0 0)).toArray = Array.replicate n (Value.slice none 0 0) := by simp
  go_enter Try.func114, Try.ntmps114
  go_wp2_with (go_at_call 141; refine (HE.out _ (bl_alloc (bl_alloc (Below.refl _ _) _) _) ?x1 ?x2).mono ?_; rotate_left 2; rintro e w2 ⟨rfl, M, m1, m2, m3, m4, m5, m6⟩; have hc := m3.read (i := 0) rfl; (have H1 := Lib.hid m1; have H2 := Lib.hid m2; have H4 := Lib.hid m4; have H5 := Lib.hid m5; have H6 := Lib.hid m6; clear m1 m2 m3 m4 m5 m6))
  case x1 => exact (by simpa using Row.made (w.alloc (.cells (List.replicate n (Value.slice none 0 0)).toArray 42)) 59 #[.slice (some ⟨w.heap.size, 0, none⟩) n n])
  case x2 => exact (by first | exact (Row.made _ _ _).more _ | (rw [hrep]; exact (Row.made _ _ _).more _) | simpa using (Row.made w 42 (List.replicate n (Value.slice none 0 0)).toArray).more (.cells #[.slice (some ⟨w.heap.size, 0, none⟩) n n] 59))
  go_ret
  refine ⟨w.heap.size, M, rfl, H1.out, by rw [H2.out, HTL.out], ⟨?_, H5.out⟩, (bl_alloc (bl_alloc (Below.refl _ _) _) _).trans H6.out⟩
  have hr := H4.out
  rw [Nat.sub_self, List.replicate_zero, List.append_nil] at hr
  have hl := H1.out
  rw [hl]
  exact ⟨by simp [hl], .inr ⟨w.heap.size, n, _, rfl, Nat.le_refl _, hr, Nat.le_refl _, by unfold maxLen; omega, by simp [hl], by simpa using List.take_of_length_le (by simp [hl])⟩⟩
end Go.Proofs.Ytdaipfmckonfpaa
namespace Go.Proofs.Ytdaipfmckonfpaa

/-- spans rising, none touches the next one, all from lo on -/
def Norm : Int → List (Int × Int) → Prop
  | _, [] => True
  | lo, y :: r => lo ≤ y.1 ∧ y.1 < y.2 ∧ y.2 ≤ 65536 ∧ Norm (y.2 + 1) r

theorem Norm.mono {lo lo' : Int} {L : List (Int × Int)} (h : Norm lo L) (hl : lo' ≤ lo) : Norm lo' L := by
  cases L with
  | nil => trivial
  | cons y r => exact ⟨by have := h.1; omega, h.2⟩
theorem Norm.mem {lo : Int} {L : List (Int × Int)} (h : Norm lo L) {y : Int × Int} (hy : y ∈ L) : lo ≤ y.1 ∧ y.1 < y.2 ∧ y.2 ≤ 65536 := by
  induction L generalizing lo with
  | nil => cases hy
  | cons z r ih =>
    obtain ⟨h1, h2, h3, h4⟩ := h
    rcases List.mem_cons.1 hy with rfl | hy
    · exact ⟨h1, h2, h3⟩
    · have := ih h4 hy; omega
def addStep (s : (Int × Int) × List (Int × Int) × List (Int × Int)) (y : Int × Int) : (Int × Int) × List (Int × Int) × List (Int × Int) :=
  if y.2 < s.1.1 then (s.1, s.2.1 ++ [y], s.2.2)
  else if s.1.2 < y.1 then (s.1, s.2.1, s.2.2 ++ [y])
  else ((min s.1.1 y.1, max s.1.2 y.2), s.2.1, s.2.2)
def addS (x : Int × Int) (L : List (Int × Int)) : (Int × Int) × List (Int × Int) × List (Int × Int) := L.foldl addStep (x, [], [])
def addF (x : Int × Int) (L : List (Int × Int)) : List (Int × Int) := (addS x L).2.1 ++ [(addS x L).1] ++ (addS x L).2.2
def addR : (Int × Int) → List (Int × Int) → List (Int × Int)
  | x, [] => [x]
  | x, y :: r => if y.2 < x.1 then y :: addR x r else if x.2 < y.1 then x :: y :: r else addR (min x.1 y.1, max x.2 y.2) r

theorem fold_behind {x : Int × Int} {A B : List (Int × Int)} : ∀ {r : List (Int × Int)} {lo : Int}, Norm lo r → x.2 < lo → x.1 < x.2 → r.foldl addStep (x, A, B) = (x, A, B ++ r) := by
  intro r
  induction r generalizing B with
  | nil => intros; simp
  | cons y r ih =>
    intro lo h h1 h2
    obtain ⟨a1, a2, a3, a4⟩ := h
    rw [List.foldl_cons]
    have e : addStep (x, A, B) y = (x, A, B ++ [y]) := by
      unfold addStep
      rw [if_neg (by simp; omega), if_pos (by simp; omega)]
    rw [e, ih a4 (by omega) h2, List.append_assoc]
    rfl
theorem addS_addR {A : List (Int × Int)} : ∀ {L : List (Int × Int)} {lo : Int} {x : Int × Int}, Norm lo L → x.1 < x.2 → (L.foldl addStep (x, A, [])).2.1 ++ [(L.foldl addStep (x, A, [])).1] ++ (L.foldl addStep (x, A, [])).2.2 = A ++ addR x L := by
  intro L
  induction L generalizing A with
  | nil => intros; simp [addR]
  | cons y r ih =>
    intro lo x h h2
    obtain ⟨a1, a2, a3, a4⟩ := h
    rw [List.foldl_cons]
    unfold addR
    by_cases c1 : y.2 < x.1
    · have e : addStep (x, A, []) y = (x, A ++ [y], []) := by unfold addStep; rw [if_pos (by simpa using c1)]
      rw [e, ih a4 h2, if_pos c1]
      simp
    · by_cases c2 : x.2 < y.1
      · have e : addStep (x, A, []) y = (x, A, [y]) := by
          unfold addStep
          rw [if_neg (by simpa using c1), if_pos (by simpa using c2)]
          rfl
        rw [e, fold_behind a4 (by omega) h2, if_neg c1, if_pos c2]
        simp
      · have e : addStep (x, A, []) y = ((min x.1 y.1, max x.2 y.2), A, []) := by
          unfold addStep
          rw [if_neg (by simpa using c1), if_neg (by simpa using c2)]
        rw [e, ih a4 (by simp; omega), if_neg c1, if_neg c2]
theorem addF_eq {lo : Int} {L : List (Int × Int)} {x : Int × Int} (h : Norm lo L) (hx : x.1 < x.2) : addF x L = addR x L := by
  have := addS_addR (A := []) h hx
  simpa [addF, addS] using this
theorem addR_norm : ∀ {L : List (Int × Int)} {lo : Int} {x : Int × Int}, Norm lo L → lo ≤ x.1 → x.1 < x.2 → x.2 ≤ 65536 → Norm lo (addR x L) := by
  intro L
  induction L with
  | nil => intro lo x _ h1 h2 h3; exact ⟨h1, h2, h3, trivial⟩
  | cons y r ih =>
    intro lo x h h1 h2 h3
    obtain ⟨a1, a2, a3, a4⟩ := h
    unfold addR
    by_cases c1 : y.2 < x.1
    · rw [if_pos c1]
      exact ⟨a1, a2, a3, ih a4 (by omega) h2 h3⟩
    · rw [if_neg c1]
      by_cases c2 : x.2 < y.1
      · rw [if_pos c2]
        exact ⟨h1, h2, h3, by omega, a2, a3, a4⟩
      · rw [if_neg c2]
        exact ih (a4.mono (by omega)) (by simp; omega) (by simp; omega) (by simp; omega)
theorem addR_len : ∀ {L : List (Int × Int)} {x : Int × Int}, (addR x L).length ≤ L.length + 1 := by
  intro L
  induction L with
  | nil => intro x; simp [addR]
  | cons y r ih =>
    intro x
    unfold addR
    split
    · simpa using ih
    · split
      · simp
      · have := ih (x := (min x.1 y.1, max x.2 y.2)); simp; omega

/-! taken out -/
def keepF (x : Int × Int) : List (Int × Int) := if x.1 < x.2 then [x] else []
def takeY (x y : Int × Int) : List (Int × Int) := keepF (y.1, min y.2 x.1) ++ keepF (max y.1 x.2, y.2)
def takeF (x : Int × Int) (L : List (Int × Int)) : List (Int × Int) := L.flatMap (takeY x)
theorem norm_keepF {lo lo' : Int} {x : Int × Int} {L : List (Int × Int)} (h : Norm lo' L) (h1 : x.1 < x.2 → lo ≤ x.1 ∧ x.2 < lo' ∧ x.2 ≤ 65536) (h2 : lo ≤ lo') : Norm lo (keepF x ++ L) := by
  unfold keepF
  split
  · rename_i hx
    obtain ⟨k1, k2, k3⟩ := h1 hx
    exact ⟨k1, hx, k3, h.mono (by omega)⟩
  · simpa using h.mono h2
theorem takeF_norm {x : Int × Int} (hx : x.1 < x.2) : ∀ {L : List (Int × Int)} {lo : Int}, Norm lo L → Norm lo (takeF x L) := by
  intro L
  induction L with
  | nil => intros; trivial
  | cons y r ih =>
    intro lo h
    obtain ⟨a1, a2, a3, a4⟩ := h
    have hr := ih a4
    show Norm lo (takeY x y ++ takeF x r)
    unfold takeY
    rw [List.append_assoc]
    have h2 : Norm (max (max lo x.2) (min y.1 (y.2 + 1))) (keepF (max y.1 x.2, y.2) ++ takeF x r) ∨ True := .inr trivial
    clear h2
    by_cases c : max y.1 x.2 < y.2
    · have h3 : Norm (max y.1 x.2) (keepF (max y.1 x.2, y.2) ++ takeF x r) := norm_keepF hr (fun _ => by simp; omega) (by omega)
      exact norm_keepF h3 (fun h => by simp at h ⊢; omega) (by omega)
    · have h3 : keepF (max y.1 x.2, y.2) = [] := by unfold keepF; rw [if_neg (by simpa using c)]
      rw [h3, List.nil_append]
      exact norm_keepF hr (fun h => by simp at h ⊢; omega) (by omega)
theorem keepF_len (x : Int × Int) : (keepF x).length ≤ 1 := by unfold keepF; split <;> simp
theorem keepF_none {x : Int × Int} (h : ¬ x.1 < x.2) : keepF x = [] := by unfold keepF; rw [if_neg h]
theorem takeF_len0 {x : Int × Int} (_hx : x.1 < x.2) : ∀ {L : List (Int × Int)} {lo : Int}, Norm lo L → x.1 ≤ lo → (takeF x L).length ≤ L.length := by
  intro L
  induction L with
  | nil => intros; simp [takeF]
  | cons y r ih =>
    intro lo h h1
    obtain ⟨a1, a2, a3, a4⟩ := h
    have := ih a4 (by omega)
    show (takeY x y ++ takeF x r).length ≤ _
    unfold takeY
    rw [keepF_none (by simp; omega)]
    have h2 := keepF_len (max y.1 x.2, y.2)
    simp
    omega
theorem takeF_len {x : Int × Int} (hx : x.1 < x.2) : ∀ {L : List (Int × Int)} {lo : Int}, Norm lo L → (takeF x L).length ≤ L.length + 1 := by
  intro L
  induction L with
  | nil => intros; simp [takeF]
  | cons y r ih =>
    intro lo h
    obtain ⟨a1, a2, a3, a4⟩ := h
    show (takeY x y ++ takeF x r).length ≤ _
    unfold takeY
    have h2 := keepF_len (max y.1 x.2, y.2)
    have h3 := keepF_len (y.1, min y.2 x.1)
    by_cases c : max y.1 x.2 < y.2
    · have := takeF_len0 hx a4 (by omega)
      simp
      omega
    · rw [keepF_none (x := (max y.1 x.2, y.2)) (by simpa using c)]
      have := ih a4
      simp
      omega

/-! asked -/
def srightB (x : Int × Int) : Bool := decide (0 ≤ x.1 ∧ x.2 ≤ 65536 ∧ x.1 < x.2)
theorem rightB_iff {x : Int × Int} : srightB x = true ↔ 0 ≤ x.1 ∧ x.2 ≤ 65536 ∧ x.1 < x.2 := by simp [srightB]
def hasF (x : Int × Int) (L : List (Int × Int)) : Bool := L.any fun y => decide (y.1 ≤ x.1 ∧ x.2 ≤ y.2)
def countF (L : List (Int × Int)) : Int := L.foldl (fun n y => n + (y.2 - y.1)) 0
theorem countF_acc (n : Int) (L : List (Int × Int)) : L.foldl (fun n y => n + (y.2 - y.1)) n = n + countF L := by
  unfold countF
  induction L generalizing n with
  | nil => simp
  | cons y r ih => rw [List.foldl_cons, List.foldl_cons, ih, ih (0 + _)]; omega
theorem countF_cons (y : Int × Int) (r : List (Int × Int)) : countF (y :: r) = (y.2 - y.1) + countF r := by
  have := countF_acc (0 + (y.2 - y.1)) r
  unfold countF at *
  rw [List.foldl_cons, this]
  omega
theorem countF_nil : countF [] = 0 := rfl
theorem countF_snoc (A : List (Int × Int)) (y : Int × Int) : countF (A ++ [y]) = countF A + (y.2 - y.1) := by
  unfold countF
  rw [List.foldl_append]
  rfl
/-- how many places below n are so -/
def cnt (f : Nat → Bool) : Nat → Nat
  | 0 => 0
  | n + 1 => cnt f n + if f n then 1 else 0
end Go.Proofs.Ytdaipfmckonfpaa
namespace Go.Proofs.Ytdaipfmckonfpaa
open Go.RowKit

theorem Try.info75 : (Try.prog.info? 75).map (fun i => (i.zero, i.size, i.bytes)) = some (some (.agg #[.int .i64 0, .int .i64 0]), 2, 16) := by kernel_rfl
theorem info75_parts : ∃ i, Try.prog.info? 75 = some i ∧ i.zero = some (.agg #[.int .i64 0, .int .i64 0]) ∧ i.size = 2 ∧ i.bytes = 16 := info_parts Try.info75

theorem sadd_zero_addr (g j : Nat) : (⟨g, 0, none⟩ : Addr).add j = ⟨g, j, none⟩ := by
  unfold Addr.add
  split
  · rename_i h
    rw [h]
  · simp
/-- a span as a value -/
def spv (y : Int × Int) : Value := .agg #[.int .i64 y.1, .int .i64 y.2]
/-- spans as cells -/
def spc (L : List (Int × Int)) : List Value := L.flatMap fun y => [.int .i64 y.1, .int .i64 y.2]
theorem spc_cons (y : Int × Int) (r : List (Int × Int)) : spc (y :: r) = .int .i64 y.1 :: .int .i64 y.2 :: spc r := rfl
theorem spc_append (A B : List (Int × Int)) : spc (A ++ B) = spc A ++ spc B := by simp [spc]
theorem length_spc (L : List (Int × Int)) : (spc L).length = L.length * 2 := by
  induction L with
  | nil => rfl
  | cons y r ih => rw [spc_cons]; simp [ih]; omega
theorem spc_one (L : List (Int × Int)) : ∀ v ∈ spc L, v.oneCell' = true := by
  intro v hv
  simp only [spc, List.mem_flatMap] at hv
  obtain ⟨y, _, hv⟩ := hv
  simp at hv
  rcases hv with rfl | rfl <;> rfl
theorem spc_at0 {L : List (Int × Int)} {i : Nat} {y : Int × Int} (h : L[i]? = some y) : (spc L)[i * 2]? = some (.int .i64 y.1) := by
  induction L generalizing i with
  | nil => simp at h
  | cons z r ih =>
    cases i with
    | zero => simp at h; subst h; rfl
    | succ i => rw [spc_cons, show (i + 1) * 2 = i * 2 + 1 + 1 by omega]; simpa using ih (by simpa using h)
theorem spc_at1 {L : List (Int × Int)} {i : Nat} {y : Int × Int} (h : L[i]? = some y) : (spc L)[i * 2 + 1]? = some (.int .i64 y.2) := by
  induction L generalizing i with
  | nil => simp at h
  | cons z r ih =>
    cases i with
    | zero => simp at h; subst h; rfl
    | succ i => rw [spc_cons, show (i + 1) * 2 + 1 = i * 2 + 1 + 1 + 1 by omega]; simpa using ih (by simpa using h)

set_option maxHeartbeats 400000 in
theorem some_any (y : Int × Int) (w : World) :
    Calls Try.prog 185 #[spv y] w fun e w' => e = .returned (.bool (decide (y.1 < y.2))) ∧ Below w.heap.size w w' := by
  unfold spv
  obtain ⟨a, b⟩ := y
  go_enter Try.func185, Try.ntmps185
  go_wp2
  go_ret
  exact ⟨rfl, bl_alloc (Below.refl _ _) _⟩

set_option maxHeartbeats 400000 in
theorem right_any (y : Int × Int) (w : World) :
    Calls Try.prog 147 #[spv y] w fun e w' => e = .returned (.bool (srightB y)) ∧ Below w.heap.size w w' := by
  obtain ⟨a, b⟩ := y
  by_cases h1 : 0 ≤ a
  · by_cases h2 : b ≤ 65536
    · have H := Lib.hid (show srightB (a, b) = decide (a < b) by simp [srightB, h1, h2])
      show Calls Try.prog 147 #[.agg #[.int .i64 a, .int .i64 b]] w _
      go_enter Try.func147, Try.ntmps147
      go_wp2_with (go_at_call 185; refine (some_any (a, b) _).mono ?_; rintro e w1 ⟨rfl, hb⟩)
      go_ret
      exact ⟨ret_bool (by rw [H.out]), bl_step (bl_alloc (Below.refl _ _) _) hb⟩
    · have H := Lib.hid (show srightB (a, b) = false by simp [srightB, h2])
      show Calls Try.prog 147 #[.agg #[.int .i64 a, .int .i64 b]] w _
      go_enter Try.func147, Try.ntmps147
      go_wp2
      go_ret
      exact ⟨ret_bool (by rw [H.out]), bl_alloc (Below.refl _ _) _⟩
  · have H := Lib.hid (show srightB (a, b) = false by simp [srightB, h1])
    show Calls Try.prog 147 #[.agg #[.int .i64 a, .int .i64 b]] w _
    go_enter Try.func147, Try.ntmps147
    go_wp2
    go_ret
    exact ⟨ret_bool (by rw [H.out]), bl_alloc (Below.refl _ _) _⟩

set_option maxHeartbeats 400000 in
theorem fault_arg (p : Nat) (y : Int × Int) (w : World) (h : srightB y = false) :
    Calls Try.prog 151 #[.pointer (some ⟨p, 0, none⟩), spv y] w fun e w' => e = .returned (.int .i64 1) ∧ Below w.heap.size w w' := by
  obtain ⟨a, b⟩ := y
  have H := Lib.hid h
  clear h
  show Calls Try.prog 151 #[_, .agg #[.int .i64 a, .int .i64 b]] w _
  go_enter Try.func151, Try.ntmps151
  go_wp2_with (go_at_call 147; refine (right_any (a, b) _).mono ?_; rintro e w1 ⟨rfl, hb⟩; rw [H.out])
  go_ret
  exact ⟨rfl, bl_step (bl_alloc (Below.refl _ _) _) hb⟩
set_option maxHeartbeats 400000 in
theorem fault_ok (p : Nat) (y : Int × Int) (w : World) (h : srightB y = true) :
    Calls Try.prog 151 #[.pointer (some ⟨p, 0, none⟩), spv y] w fun e w' => e = .returned (.int .i64 0) ∧ Below w.heap.size w w' := by
  obtain ⟨a, b⟩ := y
  have H := Lib.hid h
  clear h
  show Calls Try.prog 151 #[_, .agg #[.int .i64 a, .int .i64 b]] w _
  go_enter Try.func151, Try.ntmps151
  go_wp2_with (go_at_call 147; refine (right_any (a, b) _).mono ?_; rintro e w1 ⟨rfl, hb⟩; rw [H.out])
  go_ret
  exact ⟨rfl, bl_step (bl_alloc (Below.refl _ _) _) hb⟩

/-- the set at block p, whose slice value is sv, has these spans; all above block B -/
def SRep (B : Nat) (w : World) (p : Nat) (sv : Value) (L : List (Int × Int)) : Prop :=
  B ≤ p ∧ Row w p 204 #[sv] ∧ w.ownsRow B 75 2 sv L.length (spc L)

theorem SRep.only {B : Nat} {w v : World} {p : Nat} {sv : Value} {L : List (Int × Int)} {S : Nat → Prop} (h : SRep B w p sv L) (ho : Only S w v) (h1 : ¬ S p) (h2 : ∀ k, sv.ownBlock = some k → ¬ S k) : SRep B v p sv L :=
  ⟨h.1, h.2.1.only ho h1, own_only h.2.2 ho h2⟩
theorem SRep.later {B : Nat} {w v : World} {p : Nat} {sv : Value} {L : List (Int × Int)} (h : SRep B w p sv L) (hb : Below w.heap.size w v) : SRep B v p sv L :=
  h.only (S := fun _ => False) (.of_below hb) (fun h => h) (fun _ _ h => h)
theorem sown_shape {w : World} {B : Nat} {e size : Nat} {sv : Value} {n : Nat} {xs : List Value} (h : w.ownsRow B e size sv n xs) : ∃ A cap, sv = .slice A n cap ∧ n ≤ cap ∧ cap ≤ maxLen := by
  rcases h.2 with ⟨rfl, h0⟩ | ⟨g, cap, cur, rfl, _, _, h1, h2, _⟩
  · exact ⟨none, 0, by rw [h0], by omega, by simp [maxLen]⟩
  · exact ⟨_, cap, rfl, h1, h2⟩

set_option maxHeartbeats 400000 in
theorem become_any {B : Nat} {w : World} {p : Nat} {sv sv' : Value} {L L' : List (Int × Int)} (h : SRep B w p sv L) (h' : w.ownsRow B 75 2 sv' L'.length (spc L')) (hl : L'.length ≤ 2048) :
    Calls Try.prog 154 #[.pointer (some ⟨p, 0, none⟩), sv'] w fun e w' => e = .returned (.int .i64 0) ∧ SRep B w' p sv' L' ∧ Only (fun k => k = p) w w' := by
  have hap := own_apart h' h.2.1 (by decide)
  obtain ⟨A, cap, rfl, _, _⟩ := sown_shape h'
  have hf := h.2.1.free 0
  have hc : w.cell? ⟨p, 0, none⟩ = some sv := h.2.1.read rfl
  have HR := Lib.hid (show SRep B (w.setCell ⟨p, 0, none⟩ (.slice A L'.length cap)) p (.slice A L'.length cap) L' from
    ⟨h.1, h.2.1.written 0 _, own_only h' ((Only.refl (fun k => k = p) _).set (.inl rfl) _) (fun k hk hS => by subst hS; exact hap hk)⟩)
  have HO := Lib.hid (show Only (fun k => k = p) w (w.setCell ⟨p, 0, none⟩ (.slice A L'.length cap)) from (Only.refl (fun k => k = p) _).set (.inl rfl) _)
  clear h h' hap
  generalize L'.length = n at *
  go_enter Try.func154, Try.ntmps154
  go_wp2
  go_ret
  exact ⟨rfl, HR.out, HO.out⟩

set_option maxHeartbeats 400000 in
theorem each_nil (f : Value) (w : World) :
    Calls Try.prog 145 #[.pointer none, f] w fun e w' => e = .returned (.tuple #[]) ∧ w = w' := by
  go_enter Try.func145, Try.ntmps145
  go_wp2
  go_step3
  go_wp2
  rw [Exit.noGoto_ret]
  refine bodyPost_ret (results_none rfl _ _ _) rfl ?_
  exact ⟨rfl, rfl⟩

set_option maxRecDepth 100000 in
set_option maxHeartbeats 1600000 in
theorem seach_any {B p K : Nat} {caps : Array Value} {sv : Value} {L : List (Int × Int)} (hK : K = 186 ∨ K = 153 ∨ K = 150 ∨ K = 161 ∨ K = 146 ∨ K = 146) (Inv : Nat → World → Prop) (w : World) (h0 : Inv 0 w)
    (hrep : ∀ k W, Inv k W → SRep B W p sv L)
    (hstep : ∀ k W y, L[k]? = some y → Inv k W → Calls Try.prog K (#[spv y] ++ caps) W fun e W' => e = .returned (.tuple #[]) ∧ Inv (k + 1) W') :
    Calls Try.prog 145 #[.pointer (some ⟨p, 0, none⟩), .func (.func K) #[] caps] w fun e w' => e = .returned (.tuple #[]) ∧ Inv L.length w' := by
  obtain ⟨A, cap, rfl, hcap, hmax⟩ := sown_shape (hrep 0 w h0).2.2
  unfold maxLen at hmax
  have HR := Lib.hid hrep
  have HS := Lib.hid hstep
  have H0 := Lib.hid h0
  clear hrep hstep h0
  go_enter Try.func145, Try.ntmps145
  go_wp2
  refine wp_scope_jumps 0 (fun a' w' => ∃ k : Nat, k ≤ L.length ∧ Fr [some (.pointer (some ⟨p, 0, none⟩)), some (.func (.func K) #[] caps), none, none, some (.int .i64 k), none, none, none, none, none, none, none, none, none, none, none, none, none, none, none, none, none, none, none, none] a' ∧ Inv k w') (fun a' _ => L.length - (intOf (a'.tmps.getD 4 undef)).toNat) rfl ?_ ?_
  · have hc : w.cell? ⟨p, 0, none⟩ = some (.slice A L.length cap) := (HR.out 0 w H0.out).2.1.read rfl
    rcases Nat.eq_zero_or_pos L.length with hk0 | hk0
    · go_wp2
      go_step3
      go_wp2
      simp only [Exit.jump]
      go_end0
      exact ⟨rfl, by rw [hk0]; exact H0.out⟩
    · obtain ⟨g, cap', hv, hB, hg⟩ := (HR.out 0 w H0.out).2.2.form hk0
      injection hv with hA _ _
      subst hA
      obtain ⟨y, hy⟩ : ∃ y, L[0]? = some y := ⟨_, List.getElem?_eq_getElem hk0⟩
      have hcell := (HR.out 0 w H0.out).2.2.cells (g := g) rfl
      have c0 := hcell 0 _ (spc_at0 hy)
      have c1 := hcell 1 _ (spc_at1 hy)
      have HC := Lib.hid (HS.out 0 w y hy H0.out)
      simp [Addr.add] at c0 c1
      clear hcell hy
      rcases hK with rfl | rfl | rfl | rfl | rfl | rfl
      all_goals
        go_wp2
        go_step3
        go_wp2_with fail
        refine (HC.out).mono ?_
        rintro e w1 ⟨rfl, hi⟩
        go_wp2_with fail
        go_step3
        refine ⟨rfl, 1, by omega, ?_, hi⟩
        simp only [Fr, Holes]
        repeat apply Exists.intro
        rfl
  · rintro a' w' ⟨k, hk, hfr, hinv⟩
    simp only [Fr, Holes] at hfr
    repeat (obtain ⟨_, hfr⟩ := hfr)
    have hc : w'.cell? ⟨p, 0, none⟩ = some (.slice A L.length cap) := (HR.out k w' hinv).2.1.read rfl
    rcases Nat.lt_or_ge k L.length with hlt | hge
    · obtain ⟨g, cap', hv, hB, hg⟩ := (HR.out k w' hinv).2.2.form (by omega)
      injection hv with hA _ _
      subst hA
      obtain ⟨y, hy⟩ : ∃ y, L[k]? = some y := ⟨_, List.getElem?_eq_getElem hlt⟩
      have hcell := (HR.out k w' hinv).2.2.cells (g := g) rfl
      have c0 := hcell _ _ (spc_at0 hy)
      have c1 := hcell _ _ (spc_at1 hy)
      have HC := Lib.hid (HS.out k w' y hy hinv)
      have HI := Lib.hid hinv
      rw [sadd_zero_addr] at c0 c1
      clear hcell hy hinv
      rcases hK with rfl | rfl | rfl | rfl | rfl | rfl
      all_goals
        go_wp2_with fail
        refine (HC.out).mono ?_
        rintro e w1 ⟨rfl, hi⟩
        go_wp2_with fail
        go_step3
        refine ⟨rfl, ⟨k + 1, by omega, ?_, hi⟩, ?_⟩
        · simp only [Fr, Holes]
          repeat apply Exists.intro
          rfl
        · simp [intOf]; omega
    · obtain rfl : k = L.length := by omega
      go_wp2
      simp only [Exit.jump]
      go_end0
      exact ⟨rfl, hinv⟩
end Go.Proofs.Ytdaipfmckonfpaa
namespace Go.Proofs.Ytdaipfmckonfpaa
open Go.RowKit

/-- a keeper's variables: kb holds the pointer to vb, vb the slice of the spans G, whose memory lies from C on -/
def Kept (C kb vb : Nat) (G : List (Int × Int)) (w : World) : Prop :=
  kb < C ∧ vb < C ∧ Row w kb 206 #[.pointer (some ⟨vb, 0, none⟩)] ∧ ∃ sv, Row w vb 72 #[sv] ∧ w.ownsRow C 75 2 sv G.length (spc G)

theorem Kept.later {C kb vb : Nat} {G : List (Int × Int)} {w v : World} {S : Nat → Prop} (h : Kept C kb vb G w) (ho : Only S w v) (hS : ∀ k, S k → k ≠ kb ∧ k ≠ vb ∧ k < C) : Kept C kb vb G v := by
  obtain ⟨h1, h2, h3, sv, h4, h5⟩ := h
  exact ⟨h1, h2, h3.only ho fun hk => (hS _ hk).1 rfl, sv, h4.only ho fun hk => (hS _ hk).2.1 rfl, own_only h5 ho fun k hk hk' => by have := (h5.lt k hk).1; have := (hS _ hk').2.2; omega⟩

/-- what a keeper's call does -/
def KeepDone (C D kb vb : Nat) (G : List (Int × Int)) (w : World) (e : Ending) (w' : World) : Prop :=
  e = .returned (.tuple #[]) ∧ Kept C kb vb G w' ∧ Only (fun k => k = vb ∨ (C ≤ k ∧ k < D)) w w'

theorem keepF_yes {x : Int × Int} (h : x.1 < x.2) : keepF x = [x] := by unfold keepF; rw [if_pos h]

theorem new_pair (W : World) (u v : Value) (t : TypeId) : ∀ j x, [u, v][j]? = some x → (W.alloc (.cells #[u, v] t)).cell? ((⟨W.heap.size, 0, none⟩ : Addr).add j) = some x :=
  World.news_of_block (cs := #[u, v]) (heap_alloc_new W _)
theorem pair_one (a b : Int) : ∀ u ∈ [Value.int .i64 a, .int .i64 b], u.oneCell' = true := by
  intro u hu
  simp at hu
  rcases hu with rfl | rfl <;> rfl
theorem grown_row {w w' : World} {g : Nat} {t : TypeId} {cs : Array Value} {row : Option Nat} (h : Row w g t cs) (hg : w.grownBy w' row) (hr : row ≠ some g) : Row w' g t cs :=
  (hg.block g h.inside (fun e => hr e.symm)).trans h

theorem below_only {B : Nat} {w v : World} {S : Nat → Prop} (h : Below B w v) (hs : ∀ k, k < w.heap.size → ¬ S k → k < B) : Only S w v :=
  ⟨h.os, h.tape, h.output, h.size, fun k hk hn => h.block k (hs k hk hn)⟩

theorem keep_done {C D kb vb g cap : Nat} {G : List (Int × Int)} {w W W2 : World} {sv : Value} {a b : Int} {o : Obj} (h1 : kb < C) (h2 : vb < C) (hK : keepF (a, b) = [(a, b)]) (hb : Below w.heap.size w W)
    (hr1 : Row W kb 206 #[.pointer (some ⟨vb, 0, none⟩)])
    (hown : W2.ownsRow C 75 2 (.slice (some ⟨g, 0, none⟩) (G.length + 1) cap) (G.length + 1) (spc G ++ [.int .i64 a, .int .i64 b])) (hgrow : (W.alloc o).drew.grownBy W2 sv.ownBlock)
    (hblk : ∀ k, sv.ownBlock = some k → C ≤ k ∧ k < D) (hrv : Row W2 vb 72 #[sv]) (hrk : Row W2 kb 206 #[.pointer (some ⟨vb, 0, none⟩)]) :
    KeepDone C D kb vb (G ++ keepF (a, b)) w (.returned (.tuple #[])) (W2.setCell ⟨vb, 0, none⟩ (.slice (some ⟨g, 0, none⟩) (G.length + 1) cap)) := by
  have hne : kb ≠ vb := by
    rintro rfl
    unfold Row at hrv hrk
    rw [hrk] at hrv
    injection hrv with hrv
    injection hrv with _ hrv
    exact absurd hrv (by decide)
  have ho : Only (fun k => k = vb ∨ (C ≤ k ∧ k < D)) w W2 := ((below_only (S := fun k => k = vb ∨ (C ≤ k ∧ k < D)) hb (fun k hk _ => hk)).alloc o |>.drew).grown hgrow (fun k hk => .inl (.inr (hblk k hk)))
  refine ⟨rfl, ⟨h1, h2, hrk.elsewhere (p := ⟨vb, 0, none⟩) hne _, _, hrv.written 0 _, ?_⟩, ho.set (p := ⟨vb, 0, none⟩) (.inl (.inl rfl)) _⟩
  rw [hK, spc_append, List.length_append]
  exact own_only hown ((Only.refl (fun k => k = vb) _).set (p := ⟨vb, 0, none⟩) (.inl rfl) _) (fun k hk hS => by have := (hown.lt k hk).1; omega)

set_option maxHeartbeats 1600000 in
theorem keep_any {C kb vb : Nat} {G : List (Int × Int)} {w : World} (D : Nat) (x : Int × Int) (h : Kept C kb vb G w) (hD : ∀ sv k, Row w vb 72 #[sv] → sv.ownBlock = some k → k < D) (hC : C ≤ w.heap.size) (hl : G.length ≤ 100000) :
    Calls Try.prog 187 #[spv x, .pointer (some ⟨kb, 0, none⟩)] w (KeepDone C D kb vb (G ++ keepF x) w) := by
  obtain ⟨a, b⟩ := x
  obtain ⟨h1, h2, h3, sv, h4, h5⟩ := h
  have c1 : w.cell? ⟨kb, 0, none⟩ = some (.pointer (some ⟨vb, 0, none⟩)) := h3.read rfl
  have c2 : w.cell? ⟨vb, 0, none⟩ = some sv := h4.read rfl
  have f2 := h4.free 0
  by_cases hab : a < b
  · obtain ⟨i0, hi, hi0, hi1, hi2⟩ := info75_parts
    have HK := Lib.hid (keepF_yes (x := (a, b)) hab)
    show Calls Try.prog 187 #[.agg #[.int .i64 a, .int .i64 b], _] w _
    go_enter Try.func187, Try.ntmps187
    go_wp2_with (go_at_call 185; refine (some_any (a, b) _).mono ?_; rintro e w1 ⟨rfl, hb⟩)
    have hr1 := (h3.more (.cells #[.int .i64 a, .int .i64 b] 75)).later hb
    have hr2 := (h4.more (.cells #[.int .i64 a, .int .i64 b] 75)).later hb
    have hr3 := (Row.made w 75 #[.int .i64 a, .int .i64 b]).later hb
    have ho := own_only (S := fun _ => False) (h5.alloc (.cells #[.int .i64 a, .int .i64 b] 75)) (.of_below hb) (fun _ _ h => h)
    have hb' := bl_step (bl_alloc (Below.refl _ _) _) hb
    have hsz := hb'.size
    have hap : sv.ownBlock ≠ some vb := fun hk => by have := (h5.lt _ hk).1; omega
    have hblk : ∀ k, sv.ownBlock = some k → C ≤ k ∧ k < D := fun k hk => ⟨(h5.lt k hk).1, hD sv k h4 hk⟩
    have hapk : sv.ownBlock ≠ some kb := fun hk => by have := (h5.lt _ hk).1; omega
    have c1' : w1.cell? ⟨kb, 0, none⟩ = some (.pointer (some ⟨vb, 0, none⟩)) := hr1.read rfl
    have c2' : w1.cell? ⟨vb, 0, none⟩ = some sv := hr2.read rfl
    have f2' := hr2.free 0
    have c3 : w1.cell? ⟨w.heap.size, 0, none⟩ = some (.int .i64 a) := hr3.read rfl
    have c4 : w1.cell? ⟨w.heap.size, 1, none⟩ = some (.int .i64 b) := hr3.read rfl
    clear c1 c2 f2 h3 h4 h5
    have HR1 := Lib.hid hr1
    have HR2 := Lib.hid hr2
    have HB := Lib.hid hb'
    clear hr1 hr2 hr3 hb hb'
    have d1 := (HR1.out.more (.cells #[.int .i64 a, .int .i64 b] 75)).read (i := 0) rfl
    have d2 := (HR2.out.more (.cells #[.int .i64 a, .int .i64 b] 75)).read (i := 0) rfl
    clear hD
    go_region_law ((refine step_append_lies _ rfl (.tmp 8) (.tmp 10) 72 rfl C 75 i0 (.agg #[.int .i64 0, .int .i64 0]) 2 16 Try.underlying72 hi hi0 hi1 hi2 rfl (by omega) sv G.length (spc G) (by simp [Act.eval]) (ho.alloc _) ⟨w1.heap.size, 0, none⟩ 1 1 [.int .i64 a, .int .i64 b] (by simp [Act.eval]) rfl (new_pair _ _ _ _) (pair_one a b) (by omega) (by unfold maxLen; omega) (by omega) (by simp; omega) _ rfl ?_); intro g cap w2 hown hgrow hgg hg2; have hrv := grown_row (HR2.out.drawn.more (.cells #[.int .i64 a, .int .i64 b] 75)) hgrow hap; have fv := hrv.free 0; have cv := hrv.read (i := 0) rfl; have hrk := grown_row (HR1.out.drawn.more (.cells #[.int .i64 a, .int .i64 b] 75)) hgrow hapk; have ck := hrk.read (i := 0) rfl)
    all_goals
      go_end0
      exact keep_done h1 h2 HK.out HB.out HR1.out hown hgrow hblk hrv hrk
  · have HK := Lib.hid (keepF_none (x := (a, b)) hab)
    have H := Lib.hid (show Kept C kb vb G w from ⟨h1, h2, h3, sv, h4, h5⟩)
    show Calls Try.prog 187 #[.agg #[.int .i64 a, .int .i64 b], _] w _
    go_enter Try.func187, Try.ntmps187
    go_wp2_with (go_at_call 185; refine (some_any (a, b) _).mono ?_; rintro e w1 ⟨rfl, hb⟩; have HB := Lib.hid hb)
    go_end0
    have hb' := bl_step (bl_alloc (Below.refl _ _) _) HB.out
    refine ⟨rfl, ?_, .of_below hb'⟩
    rw [HK.out, List.append_nil]
    exact H.out.later (S := fun _ => False) (.of_below hb') (fun _ h => h.elim)
end Go.Proofs.Ytdaipfmckonfpaa
