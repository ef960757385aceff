/-
  reseg: a part's least, how many bytes a packet has, where a field ends. reseg: is a place inside a field; fields copied. reseg: the loop that cuts a packet's bytes into pieces. reseg: what is wrong with what is handed in; a part's FI.
-/
import Derived.Test.YtfgjlhklioijmaaJResegWhole03
import Derived.Test.YtfgjlhklioijmaaJResegWhole19
import Derived.Test.YtfgjlhklioijmaaJResegWhole10
namespace Go.Proofs.Ytfgjlhklioijmaa
open Go.RowKit

/-- how many bytes a part has at least -/
def leastR (wd : Int) : Int := if headA true wd = 0 then 0 else headA true wd + 1
set_option maxHeartbeats 400000 in
theorem rsleast_any (wd : Int) (w : World) : Calls Try.prog 108 #[.int .i64 wd] w fun e w' => e = .returned (.int .i64 (leastR wd)) ∧ w = w' := by
  have HD := Lib.hid (fun W => ahead_any true wd W)
  obtain ⟨h1, h2⟩ := headA_nonneg true wd
  unfold leastR
  generalize headA true wd = h at *
  by_cases h0 : h = 0
  · subst h0
    go_enter Try.func108, Try.ntmps108
    go_wp2_with (go_at_call 29; (with_reducible refine (HD.out _).mono ?_); rintro e w1 ⟨rfl, rfl⟩)
    go_ret
    exact ⟨rfl, rfl⟩
  · have h3 : (h == 0) = false := by simpa using h0
    rw [if_neg h0]
    go_enter Try.func108, Try.ntmps108
    go_wp2_with (go_at_call 29; (with_reducible refine (HD.out _).mono ?_); rintro e w1 ⟨rfl, rfl⟩)
    go_ret
    exact ⟨rfl, rfl⟩
/-- Data as a slice -/
theorem adata_len {A : Option Addr} {L : List RowB} (poll part last : Bool) (fi sn off : Int) (n cap : Nat) (w : World) (hL : L.length = n) (hn : n ≤ 9223372036854775807) (hs : RSrc w A L) (hm : (lens L).sum ≤ 1000000) :
    Calls Try.prog 31 #[.agg #[.bool poll, .int .i64 fi, .int .i64 sn, .bool part, .bool last, .int .i64 off, .slice A n cap]] w fun e w' => ∃ A' c', e = .returned (.slice A' (lens L).sum c') ∧ OwnY w.heap.size w' (.slice A' (lens L).sum c') (flat L) ∧ Below w.heap.size w w' :=
  (adata_any poll part last fi sn off n cap w hL hn hs hm).mono fun e w' h => by
    obtain ⟨v, rfl, ho, hbl⟩ := h
    obtain ⟨A', c', rfl, _⟩ := ho.form
    rw [length_flat] at *
    exact ⟨A', c', rfl, ho, hbl⟩
set_option maxHeartbeats 400000 in
theorem rssize_any {A : Option Addr} {L : List RowB} (poll part last : Bool) (fi sn off : Int) (n cap : Nat) (w : World) (hL : L.length = n) (hn : n ≤ 9223372036854775807) (hs : RSrc w A L) (hm : (lens L).sum ≤ 1000000) :
    Calls Try.prog 206 #[.agg #[.bool poll, .int .i64 fi, .int .i64 sn, .bool part, .bool last, .int .i64 off, .slice A n cap]] w fun e w' => e = .returned (.int .i64 ((lens L).sum : Nat)) ∧ Below w.heap.size w w' := by
  have HD := Lib.hid (fun W (hb : Below w.heap.size w W) => adata_len poll part last fi sn off n cap W hL hn (hs.later hb) hm)
  clear hs hL hm
  generalize (lens L).sum = d at *
  go_enter Try.func206, Try.ntmps206
  go_wp2_with (go_at_call 31; (with_reducible refine (HD.out _ (bl_alloc (Below.refl _ _) _)).mono ?_); rintro e w1 ⟨A', c', rfl, -, hb⟩)
  go_ret
  exact ⟨rfl, bl_step (bl_alloc (Below.refl _ _) _) hb⟩
set_option maxRecDepth 100000 in
set_option maxHeartbeats 1600000 in
theorem rsend_any {A : Option Addr} {L : List RowB} (p n cap : Nat) (w : World) (hL : L.length = n) (hn : n ≤ 1000) (hs : RSrc w A L) (hsum : (lens L).sum ≤ 1000000) (hp : p ≤ 1000000) :
    Calls Try.prog 268 #[.slice A n cap, .int .i64 p] w fun e w' => e = .returned (.int .i64 (endF (lens L) p : Nat)) ∧ w = w' := by
  have HS := Lib.hid hs
  have HL := Lib.hid hL
  have HM := Lib.hid (fun k => Nat.le_trans (sumTo_le (lens L) k) hsum)
  have HA := Lib.hid (show (lens L).sum ≤ p → endF (lens L) p = (lens L).sum from endF_all)
  have HN := Lib.hid (show sumTo (lens L) n = (lens L).sum by rw [← hL, ← length_lens, sumTo_all])
  clear hs hL hsum
  go_enter Try.func268, Try.ntmps268
  go_wp2
  go_loopw [5, 10] (fun s i wr => ∃ k : Nat, k ≤ n ∧ s = .int .i64 (sumTo (lens L) k : Nat) ∧ i = .int .i64 k ∧ Hid (sumTo (lens L) k ≤ p) ∧ w = wr) (fun _ i _ => n - (intOf i).toNat)
  case atStart => exact ⟨0, by omega, by simp [sumTo], rfl, Lib.hid (by simp [sumTo]), rfl⟩
  case round =>
    obtain ⟨k, hk, rfl, rfl, HP, rfl⟩ := hrel
    by_cases hlt : k < n
    · obtain ⟨ad, rfl, hc⟩ := HS.out (by rw [HL.out]; omega)
      obtain ⟨r, hr⟩ : ∃ r, L[k]? = some r := ⟨_, List.getElem?_eq_getElem (by rw [HL.out]; exact hlt)⟩
      have f0 := (hc k r hr).1
      have HT1 := Lib.hid (sumTo_succ (lens_at hr))
      have HE := Lib.hid (fun h => endF_to (p := p) (lens_at hr) HP.out h)
      have b1 := HM.out (k + 1)
      have b0 := HM.out k
      rw [HT1.out] at b1
      have hkI : (k : Int) < (n : Int) := by omega
      have hp0 := HP.out
      unfold RowB.v at f0
      generalize sumTo (lens L) k = s at *
      generalize hbl : r.bs.length = bl at *
      clear hc hr
      by_cases hpq : p < s + bl
      · have hpI : (p : Int) < (s : Int) + (bl : Int) := by omega
        have HQ := Lib.hid (HE.out hpq)
        clear hpq
        go_wp2
        go_ret
        exact ⟨by rw [HQ.out]; first | rfl | (congr 3; omega) | (simp; omega), rfl⟩
      · have hpI : ¬ (p : Int) < (s : Int) + (bl : Int) := by omega
        go_wp2
        go_roundw
        case rel => exact ⟨k + 1, by omega, by rw [HT1.out]; go_num, by go_num, Lib.hid (by rw [HT1.out]; omega), by first | rfl | trivial⟩
        case measure => simp [intOf]; omega
    · have hkn : k = n := by omega
      subst hkn
      have b0 := HM.out k
      have hp0 := HP.out
      rw [HN.out] at *
      have HQ := Lib.hid (HA.out hp0)
      go_wp2
      go_ret
      exact ⟨by rw [HQ.out]; rfl, rfl⟩
end Go.Proofs.Ytfgjlhklioijmaa
namespace Go.Proofs.Ytfgjlhklioijmaa
open Go.RowKit

set_option maxRecDepth 100000 in
set_option maxHeartbeats 1600000 in
theorem each_gen {K : Nat} {caps : Array Value} {A : Option Addr} {L : List RowB} (n cap : Nat) (hcf : ∀ (args : Array Value) (w : World), (callFunc K args).run Try.prog w = .ok (.enter K args) w) (Inv : Nat → World → Prop) (Stop : World → Prop) (w : World) (hL : L.length = n) (hn : n ≤ 9223372036854775807) (h0 : Inv 0 w)
    (hsrc : ∀ k W, Inv k W → RSrc W A L)
    (hstep : ∀ k W r, L[k]? = some r → Inv k W → Calls Try.prog K (#[.int .i64 k, .slice r.A r.bs.length r.cap] ++ caps) W fun e W' => (e = .returned (.bool true) ∧ Inv (k + 1) W') ∨ (e = .returned (.bool false) ∧ Stop W')) :
    Calls Try.prog 228 #[.slice A n cap, .func (.func K) #[] caps] w fun e w' => (e = .returned (.bool true) ∧ Inv n w') ∨ (e = .returned (.bool false) ∧ Stop w') := by
  have HR := Lib.hid hsrc
  have HS := Lib.hid hstep
  have H0 := Lib.hid h0
  have HL := Lib.hid hL
  clear hsrc hstep h0 hL
  go_enter Try.func228, Try.ntmps228
  go_wp2
  refine wp_scope_jumps 0 (fun a' w' => ∃ k : Nat, k ≤ n ∧ Fr [some (.slice A n cap), some (.func (.func K) #[] caps), none, none, some (.bool false), some (.int .i64 k), none, none, none, none, none, none, none, none, none, none, none, none, none, none] a' ∧ Inv k w') (fun a' _ => n - (intOf (a'.tmps.getD 5 undef)).toNat) rfl ?_ ?_
  · rcases Nat.eq_zero_or_pos n with hk0 | hk0
    · subst hk0
      go_wp2
      go_step3
      go_wp2
      simp only [Exit.jump]
      go_ret
      exact .inl ⟨rfl, H0.out⟩
    · obtain ⟨ad, rfl, hcell⟩ := HR.out 0 w H0.out (by rw [HL.out]; exact hk0)
      obtain ⟨r, hy⟩ : ∃ r, L[0]? = some r := ⟨_, List.getElem?_eq_getElem (by rw [HL.out]; exact hk0)⟩
      have c0 : w.cell? ad = some (.slice r.A r.bs.length r.cap) := by have h9 := (hcell 0 r hy).1; rw [addr_zero] at h9; exact h9
      have HC := Lib.hid (HS.out 0 w r hy H0.out)
      have hk0i : (0 : Int) < (n : Int) := by omega
      clear hcell hy
      skip
      all_goals
        go_wp2
        go_step3
        go_wp2_with fail
        refine (HC.out).mono ?_
        rintro e w1 (⟨rfl, hi⟩ | ⟨rfl, hs⟩)
        · go_wp2_with fail
          go_step3
          refine ⟨rfl, 1, by omega, ?_, hi⟩
          simp only [Fr, Holes]
          repeat apply Exists.intro
          rfl
        · go_wp2_with fail
          simp only [Exit.jump]
          go_ret
          exact .inr ⟨rfl, hs⟩
  · rintro a' w' ⟨k, hk, hfr, hinv⟩
    simp only [Fr, Holes] at hfr
    repeat (obtain ⟨_, hfr⟩ := hfr)
    rcases Nat.lt_or_ge k n with hlt | hge
    · obtain ⟨ad, rfl, hcell⟩ := HR.out k w' hinv (by rw [HL.out]; omega)
      obtain ⟨r, hy⟩ : ∃ r, L[k]? = some r := ⟨_, List.getElem?_eq_getElem (by rw [HL.out]; exact hlt)⟩
      have c0 : w'.cell? (ad.add k) = some (.slice r.A r.bs.length r.cap) := (hcell k r hy).1
      have HC := Lib.hid (HS.out k w' r hy hinv)
      have HI := Lib.hid hinv
      clear hcell hy hinv
      skip
      all_goals
        go_wp2_with fail
        refine (HC.out).mono ?_
        rintro e w1 (⟨rfl, hi⟩ | ⟨rfl, hs⟩)
        · go_wp2_with fail
          go_step3
          refine ⟨rfl, ⟨k + 1, by omega, ?_, hi⟩, ?_⟩
          · simp only [Fr, Holes]
            repeat apply Exists.intro
            rfl
          · simp [intOf]
            omega
        · go_wp2_with fail
          simp only [Exit.jump]
          go_ret
          exact .inr ⟨rfl, hs⟩
    · obtain rfl : k = n := by omega
      go_wp2
      simp only [Exit.jump]
      go_ret
      exact .inl ⟨rfl, hinv⟩

set_option maxHeartbeats 400000 in
theorem rsinside_any {A : Option Addr} {L : List RowB} (x n cap : Nat) (w : World) (hL : L.length = n) (hn : n ≤ 1000) (hs : RSrc w A L) (hsum : (lens L).sum ≤ 1000000) (hx : x ≤ (lens L).sum) :
    Calls Try.prog 269 #[.slice A n cap, .int .i64 x] w fun e w' => e = .returned (.bool (!edgeF (lens L) x)) ∧ w = w' := by
  rcases Nat.eq_zero_or_pos x with h0 | h0
  · subst h0
    rw [edgeF_zero]
    clear hs hL hsum hx
    go_enter Try.func269, Try.ntmps269
    go_wp2
    go_ret
    exact ⟨rfl, rfl⟩
  · have HE := rsend_any (x - 1) n cap w hL hn hs hsum (by omega)
    have hq : (((endF (lens L) (x - 1) : Nat) : Int) != (x : Int)) = !edgeF (lens L) x := by
      have h1 := edge_end h0 hx
      cases he : edgeF (lens L) x
      · rw [he] at h1
        simp
        intro h2
        have := h1.1 (by omega)
        cases this
      · rw [he] at h1
        have := h1.2 rfl
        simp
        omega
    rw [← hq, show ((x - 1 : Nat) : Int) = (x : Int) - 1 by omega] at *
    have HE := Lib.hid HE
    have hxI : (0 : Int) < (x : Int) := by omega
    have hx6 : (x : Int) ≤ 1000000 := by omega
    generalize ((endF (lens L) (x - 1) : Nat) : Int) = y at *
    clear hs hL hsum hx hq h0
    go_enter Try.func269, Try.ntmps269
    go_wp2_with (go_at_call 268; (with_reducible refine HE.out.mono ?_); rintro e w1 ⟨rfl, rfl⟩)
    go_ret
    exact ⟨rfl, rfl⟩
theorem enters_copy (args : Array Value) (w : World) : (callFunc 266 args).run Try.prog w = .ok (.enter 266 args) w := enters Try.func266 (by kernel_rfl) rfl args w
set_option maxRecDepth 100000 in
set_option maxHeartbeats 800000 in
theorem copy1_any {B pb g n : Nat} {cs : List Value} {r : RowB} (k : Nat) (w : World) (hp : Row w pb 22 #[.slice (some ⟨g, 0, none⟩) n n]) (hg : Row w g 30 cs.toArray) (hn : cs.length = n) (hk : k < n) (hB : B ≤ w.heap.size) (hr : r.ok w) (hr0 : 0 < r.bs.length) (hr1 : r.bs.length ≤ 1000000) :
    Calls Try.prog 266 #[.int .i64 k, .slice r.A r.bs.length r.cap, .pointer (some ⟨pb, 0, none⟩)] w fun e w' => e = .returned (.bool true) ∧ ∃ A', RowB.mine B w' ⟨A', r.bs.length, r.bs⟩ ∧ Row w' g 30 (cs.set k (.slice A' r.bs.length r.bs.length)).toArray ∧ Only (fun b => b = g) w w' := by
  have HC := Lib.hid (fun W (hb : Below w.heap.size w W) => copied_f (A := r.A) (l := r.bs) w.heap.size r.bs.length r.cap W rfl hr0 hr1 (src_later hr.1 hb) hr.2.2.2 hb.size)
  have hne : pb ≠ g := hp.apart hg (by decide)
  have HP := Lib.hid hp
  have HG := Lib.hid hg
  have hc0 : w.cell? ⟨pb, 0, none⟩ = some (.slice (some ⟨g, 0, none⟩) n n) := hp.read rfl
  have hkI : (k : Int) < (n : Int) := by omega
  obtain ⟨x, hx⟩ : ∃ x, cs[k]? = some x := ⟨_, List.getElem?_eq_getElem (by omega)⟩
  have HX := Lib.hid hx
  clear hp hg hr hx
  generalize r.bs.length = m at *
  go_enter Try.func266, Try.ntmps266
  go_wp2
  have b0 := bl_drew (Below.refl w.heap.size w)
  go_region_held3 (fun w' => w'.cell? ⟨pb, 0, none⟩ = some (.slice (some ⟨g, 0, none⟩) n n)) (first | assumption | go_keep) ((go_at_call 267; (with_reducible refine (HC.out _ b0).mono ?_); rintro e w1 ⟨A1, rfl, hmi, hb1⟩; (have HM1 := Lib.hid hmi); (have HB1 := Lib.hid (b0.trans hb1)); have gp := HP.out.later HB1.out; have gg := HG.out.later HB1.out; have e0 := gp.read (i := 0) (x := .slice (some ⟨g, 0, none⟩) n n) rfl; have e1 := gg.read (i := k) (x := x) (by simpa using HX.out); have e2 := gg.free k; have e3 := (gp.only ((Only.refl (fun b => b = g) w1).set (p := ⟨g, k, none⟩) (.inl rfl) (.slice A1 m m)) hne).read (i := 0) (x := .slice (some ⟨g, 0, none⟩) n n) rfl; clear hmi hb1 gp gg))
  go_wp2
  go_ret
  have hS := ((Only.of_below HB1.out : Only (fun b => b = g) w w1).andThen ((Only.refl (fun b => b = g) w1).set (p := ⟨g, k, none⟩) (.inl rfl) (.slice A1 m m)) (fun _ _ h => h))
  refine ⟨rfl, A1, ?_, ?_, hS⟩
  · refine (HM1.out.only ((Only.refl (fun b => b = g) w1).set (p := ⟨g, k, none⟩) (.inl rfl) (.slice A1 m m)) (fun j cs' _ hj e => ?_)).down hB
    subst e
    have := HG.out.inside
    omega
  · have h1 := (HG.out.later HB1.out).written k (.slice A1 m m)
    rw [List.setIfInBounds_toArray] at h1
    exact h1
theorem make_rows2 (n : Nat) (h : n ≤ 1000) (w : World) :
    (Instr.makeSlice 22 (.int .i64 n) (.int .i64 n)).run Try.prog w = .ok (.slice (some ⟨w.heap.size, 0, none⟩) n n) (w.alloc (.cells (List.replicate n (Value.slice none 0 0)).toArray 30)) := by
  obtain ⟨i, hi, hz, hs, hb⟩ := info_parts Try.info30
  have h := run_make (P := Try.prog) w 22 30 i _ Try.underlying22 hi hz .i64 .i64 n n (by omega) (Int.le_refl _) (by rw [hb]; omega) (by omega)
  have e : madeCells #[Value.slice none 0 0] n = (List.replicate n (Value.slice none 0 0)).toArray := by
    apply Array.toList_inj.1
    rw [toList_madeCells_one]
  rw [h, hs, Nat.mul_one, Int.toNat_natCast, ← e]
  rfl
/-- the first k fields are copied -/
def CopyI (B : Nat) (w0 : World) (pb g n : Nat) (L : List RowB) (k : Nat) (W : World) : Prop :=
  ∃ M : List RowB, M.length = k ∧ texts M = (texts L).take k ∧ Row W pb 22 #[.slice (some ⟨g, 0, none⟩) n n] ∧ Row W g 30 (M.map RowB.v ++ List.replicate (n - k) (Value.slice none 0 0)).toArray ∧ (∀ r ∈ M, r.mine B W) ∧ Below B w0 W
theorem set_mid (xs : List Value) (n : Nat) (v x : Value) : (xs ++ List.replicate (n + 1) x).set xs.length v = xs ++ [v] ++ List.replicate n x := by
  rw [List.set_append_right _ _ (Nat.le_refl _), Nat.sub_self, List.replicate_succ, List.set_cons_zero]
  simp
set_option maxHeartbeats 400000 in
theorem each_copy {B pb g n cap : Nat} {A : Option Addr} {L : List RowB} (w : World) (hL : L.length = n) (hn : n ≤ 1000) (hs : ∀ W, Below B w W → RSrc W A L) (h0 : ∀ l ∈ lens L, 0 < l ∧ l ≤ 1000000) (hp : Row w pb 22 #[.slice (some ⟨g, 0, none⟩) n n]) (hg : Row w g 30 (List.replicate n (Value.slice none 0 0)).toArray) (hgB : B ≤ g) (hB : B ≤ w.heap.size) :
    Calls Try.prog 228 #[.slice A n cap, .func (.func 266) #[] #[.pointer (some ⟨pb, 0, none⟩)]] w fun e w' => e = .returned (.bool true) ∧ CopyI B w pb g n L n w' := by
  have hne : pb ≠ g := hp.apart hg (by decide)
  refine (each_gen (K := 266) (caps := #[.pointer (some ⟨pb, 0, none⟩)]) n cap enters_copy (CopyI B w pb g n L) (fun _ => False) w hL (by omega)
    ⟨[], rfl, by simp [texts], hp, by simpa using hg, fun r hr => (by cases hr), Below.refl _ _⟩ (fun k W h => (by obtain ⟨M, _, _, _, _, _, hb⟩ := h; exact hs W hb)) (fun k W r hr h => ?_)).mono ?_
  · obtain ⟨M, m1, m2, m3, m4, m5, m6⟩ := h
    have hk : k < n := by rw [← hL]; exact (List.getElem?_eq_some_iff.1 hr).1
    have hrok : r.ok W := by
      obtain ⟨ad, _, hc⟩ := hs W m6 (by omega)
      exact (hc k r hr).2
    obtain ⟨hl0, hl1⟩ := h0 r.bs.length (List.mem_of_getElem? (lens_at hr))
    refine (copy1_any (B := B) (r := r) k W m3 m4 (by simp [m1]; omega) hk (Nat.le_trans hB m6.size) hrok hl0 hl1).mono ?_
    rintro e W2 ⟨rfl, A', g1, g2, g3⟩
    refine .inl ⟨rfl, M ++ [⟨A', r.bs.length, r.bs⟩], by simp [m1], ?_, m3.only g3 hne, ?_, fun x hx => ?_, m6.trans (only_below g3 hgB (Nat.le_trans hB m6.size))⟩
    · have h1 := texts_at hr
      obtain ⟨hk2, h2⟩ := List.getElem?_eq_some_iff.1 h1
      rw [List.take_succ_eq_append_getElem hk2, h2, ← m2]
      unfold texts
      simp
    · have e1 : n - k = (n - (k + 1)) + 1 := by omega
      have e2 : k = (M.map RowB.v).length := by simp [m1]
      rw [e1] at g2
      have e3 := set_mid (M.map RowB.v) (n - (k + 1)) (Value.slice A' r.bs.length r.bs.length) (Value.slice none 0 0)
      rw [← e2] at e3
      rw [e3] at g2
      simpa [RowB.v] using g2
    · rw [List.mem_append, List.mem_singleton] at hx
      rcases hx with hx | rfl
      · exact (m5 x hx).only g3 (fun j cs hj _ e => hj.apart m4 (by decide) e)
      · exact g1
  · rintro e W (⟨rfl, h⟩ | ⟨_, h⟩)
    · exact ⟨rfl, h⟩
    · exact h.elim
set_option maxHeartbeats 400000 in
/-- fields in memory of their own -/
theorem copy_any {A : Option Addr} {L : List RowB} (n cap : Nat) (w : World) (hL : L.length = n) (hn : n ≤ 1000) (hs : RSrc w A L) (h0 : ∀ l ∈ lens L, 0 < l ∧ l ≤ 1000000) :
    Calls Try.prog 207 #[.slice A n cap] w fun e w' => ∃ g M, e = .returned (.slice (some ⟨g, 0, none⟩) n n) ∧ M.length = n ∧ texts M = texts L ∧ OwnR w.heap.size w' (.slice (some ⟨g, 0, none⟩) n n) M ∧ Below w.heap.size w w' := by
  have HM := make_rows2 n hn
  have HE := Lib.hid (fun W (hb : Below w.heap.size w W) x y => each_copy (pb := w.heap.size + 1) (g := w.heap.size) (B := w.heap.size) (cap := cap) W hL hn (fun W' hb' => hs.later (hb.trans hb')) h0 x y (Nat.le_refl _) hb.size)
  have HTL := Lib.hid (show (texts L).take n = texts L by rw [← hL, ← length_texts, List.take_length])
  clear hL hs h0
  have hrep : (List.replicate n (Value.slice none 0 0)).toArray = Array.replicate n (Value.slice none 0 0) := by simp
  go_enter Try.func207, Try.ntmps207
  go_wp2_with (go_at_call 228; refine (HE.out _ (bl_alloc (bl_alloc (Below.refl _ _) _) _) ?x1 ?x2).mono ?_; rotate_left 2; rintro e w2 ⟨rfl, M, m1, m2, m3, m4, m5, m6⟩; have hc := m3.read (i := 0) rfl; (have H1 := Lib.hid m1; have H2 := Lib.hid m2; have H4 := Lib.hid m4; have H5 := Lib.hid m5; have H6 := Lib.hid m6; clear m1 m2 m3 m4 m5 m6))
  case x1 => exact (by simpa using Row.made (w.alloc (.cells (List.replicate n (Value.slice none 0 0)).toArray 30)) 22 #[.slice (some ⟨w.heap.size, 0, none⟩) n n])
  case x2 => exact (by first | exact (Row.made _ _ _).more _ | (rw [hrep]; exact (Row.made _ _ _).more _) | simpa using (Row.made w 30 (List.replicate n (Value.slice none 0 0)).toArray).more (.cells #[.slice (some ⟨w.heap.size, 0, none⟩) n n] 22))
  go_ret
  refine ⟨w.heap.size, M, rfl, H1.out, by rw [H2.out, HTL.out], ⟨?_, H5.out⟩, (bl_alloc (bl_alloc (Below.refl _ _) _) _).trans H6.out⟩
  have hr := H4.out
  rw [Nat.sub_self, List.replicate_zero, List.append_nil] at hr
  have hl := H1.out
  rw [hl]
  exact ⟨by simp [hl], .inr ⟨w.heap.size, n, _, rfl, Nat.le_refl _, hr, Nat.le_refl _, by unfold maxLen; omega, by simp [hl], by simpa using List.take_of_length_le (by simp [hl])⟩⟩
end Go.Proofs.Ytfgjlhklioijmaa
namespace Go.Proofs.Ytfgjlhklioijmaa
open Go.RowKit

/-- pieces of bytes that lie in one row -/
def partsAt (ad : Addr) (cap : Nat) (d : List Nat) : Nat → List Nat → List RowB
  | _, [] => []
  | s, m :: r => ⟨some (ad.add s), cap - s, (d.drop s).take m⟩ :: partsAt ad cap d (s + m) r
theorem partsAt_append (ad : Addr) (cap : Nat) (d : List Nat) (s : Nat) (P Q : List Nat) : partsAt ad cap d s (P ++ Q) = partsAt ad cap d s P ++ partsAt ad cap d (s + P.sum) Q := by
  induction P generalizing s with
  | nil => simp [partsAt]
  | cons m r ih => simp [partsAt, ih, Nat.add_assoc]
theorem partsAt_length (ad : Addr) (cap : Nat) (d : List Nat) (s : Nat) (P : List Nat) : (partsAt ad cap d s P).length = P.length := by
  induction P generalizing s with
  | nil => rfl
  | cons m r ih => simp [partsAt, ih]
theorem partsAt_texts (ad : Addr) (cap : Nat) (d : List Nat) (s : Nat) (P : List Nat) : texts (partsAt ad cap d s P) = slic (d.drop s) P := by
  induction P generalizing s with
  | nil => rfl
  | cons m r ih =>
    have := ih (s + m)
    unfold texts at this ⊢
    simp [partsAt, slic, this, List.drop_drop]
theorem partsAt_lens {ad : Addr} {cap : Nat} {d : List Nat} {s : Nat} {P : List Nat} (h : s + P.sum ≤ d.length) : lens (partsAt ad cap d s P) = P := by
  rw [lens_texts, partsAt_texts, slic_lens (by rw [List.length_drop]; omega)]
theorem src_drop0 {w : World} {ad : Addr} {d : List Nat} (s : Nat) (h : Src w (some ad) (bts d)) : Src w (some (ad.add s)) (bts (d.drop s)) := by
  have := src_dropc (c := 0) s (by simpa using h)
  simpa using this
theorem partsAt_ok {w : World} {ad : Addr} {cap : Nat} {d : List Nat} {s : Nat} {P : List Nat} (h : Src w (some ad) (bts d)) (hc : d.length ≤ cap) (hm : cap ≤ 9223372036854775807) (hb : ∀ b ∈ d, b < 256) : ∀ r ∈ partsAt ad cap d s P, r.ok w := by
  induction P generalizing s with
  | nil => intro r hr; cases hr
  | cons m q ih =>
    intro r hr
    simp only [partsAt, List.mem_cons] at hr
    rcases hr with rfl | hr
    · exact ⟨src_take m (src_drop0 s h), by simp [List.length_take, List.length_drop]; omega, by show cap - s ≤ _; omega, fun b hx => hb b (List.mem_of_mem_drop (List.mem_of_mem_take hx))⟩
    · exact ih r hr
/-- how far the loop is: the packet in memory, its bytes, the pieces -/
structure RsI (B : Nat) (w0 : World) (pk : Array Value) (ls d : List Nat) (a b : Nat) (room wd : Int) (p : Nat) (ad : Addr) (dc : Nat) (N : Nat) (v : Value) (w : World) : Prop where
  inv : CutI ls a b room wd N
  own : w.ownsRow B 30 1 v (pcs ls a N).length ((partsAt ad dc d a (pcs ls a N)).map RowB.v)
  data : OwnY B w (.slice (some ad) ls.sum dc) d
  len : d.length = ls.sum
  row : Row w p 24 pk
  below : Below B w0 w
section
variable {B : Nat} {w0 w v : World} {pk : Array Value} {ls d : List Nat} {a b : Nat} {room wd : Int} {p : Nat} {ad : Addr} {dc N : Nat} {x : Value}
theorem RsI.form (h : RsI B w0 pk ls d a b room wd p ad dc N x w) : ∃ A c, x = .slice A (pcs ls a N).length c ∧ (pcs ls a N).length ≤ c ∧ c ≤ 9223372036854775807 := by
  rcases h.own.2 with ⟨rfl, h0⟩ | ⟨g, cap, cur, rfl, _, _, h1, h2, _⟩
  · exact ⟨none, 0, by rw [h0], by omega, by omega⟩
  · exact ⟨_, cap, rfl, h1, by unfold maxLen at h2; exact h2⟩
theorem own_block2 {B e n : Nat} {w : World} {x : Value} {xs : List Value} (h : w.ownsRow B e 1 x n xs) {k : Nat} (hk : x.ownBlock = some k) : ∃ cs, Row w k e cs := by
  rcases h.2 with ⟨rfl, _⟩ | ⟨g, cap, cur, rfl, _, hh, _⟩
  · simp [Value.ownBlock] at hk
  · have e1 : g = k := by simpa [Value.ownBlock] using hk
    subst e1
    exact ⟨cur, hh⟩
theorem RsI.next (h : RsI B w0 pk ls d a b room wd p ad dc N x w) (hB : B ≤ w.heap.size) (hk : (pcs ls a N).length ≤ 1000) (m : Nat) (hi : CutI ls a b room wd (N + m)) (hp : pcs ls a (N + m) = pcs ls a N ++ [m]) (hm : m ≤ ls.sum - (a + N)) :
    ∃ A c w3, (Builtin.append_ #[22, 22] 22 #[x, .slice (some ⟨w.heap.size, 0, none⟩) 1 1]).run Try.prog (w.alloc (.cells #[.slice (some (ad.add (a + N))) m (dc - (a + N))] 30)) = .ok (.slice A ((pcs ls a N).length + 1) c) w3 ∧
      RsI B w0 pk ls d a b room wd p ad dc (N + m) (.slice A ((pcs ls a N).length + 1) c) w3 := by
  have hs : (pcs ls a N).sum = N := pcs_sum ls a N
  obtain ⟨g, c, w3, h1, h2, h3⟩ := app_row h.own hB ⟨some (ad.add (a + N)), dc - (a + N), (d.drop (a + N)).take m⟩ (by omega)
  have hl : ((d.drop (a + N)).take m).length = m := by rw [List.length_take, List.length_drop, h.len]; omega
  simp only [hl] at h1
  refine ⟨_, c, w3, h1, hi, ?_, h.data.only h3 (fun k hk hS => ?_), h.len, h.row.only h3 (own_apart h.own h.row (by decide)), h.below.trans (own_only_below h.own h3 hB)⟩
  · rw [hp, partsAt_append, hs, List.map_append, List.length_append]
    exact h2
  · obtain ⟨cs, hr⟩ := own_block2 h.data hk
    exact own_apart h.own hr (by decide) hS
end
/-- what the loop tells -/
def CutAnsR (ls d : List Nat) (a b : Nat) (room wd : Int) (w : World) (e : Ending) (w' : World) : Prop :=
  ∃ N A c M, e = .returned (.tuple #[.slice A M.length c, .int .i64 ((a + N : Nat) : Int)]) ∧ CutN ls a b room wd N ∧ lens M = pcs ls a N ∧ texts M = slic (d.drop a) (pcs ls a N) ∧ M.length ≤ c ∧ c ≤ 9223372036854775807 ∧ RSrc w' A M ∧ Below w.heap.size w w'
theorem RsI.done {w0 w : World} {pk : Array Value} {ls d : List Nat} {a b : Nat} {room wd : Int} {p : Nat} {ad : Addr} {dc N q : Nat} {A : Option Addr} {c k : Nat} (h : RsI w0.heap.size w0 pk ls d a b room wd p ad dc N (.slice A k c) w) (hc : CutN ls a b room wd N) (hq : q = a + N) (hab : b ≤ d.length) (hd : d.length ≤ dc) (hdm : dc ≤ 9223372036854775807) (hb : ∀ x ∈ d, x < 256) :
    CutAnsR ls d a b room wd w0 (.returned (.tuple #[.slice A k c, .int .i64 (q : Int)])) w := by
  subst hq
  obtain ⟨A', c', e, h1, h2⟩ := h.form
  injection e with e1 e2 e3
  subst e1 e2 e3
  have hs : (pcs ls a N).sum = N := pcs_sum ls a N
  refine ⟨N, A, c, partsAt ad dc d a (pcs ls a N), by rw [partsAt_length], hc, partsAt_lens (by rw [hs]; have := hc.1; omega), partsAt_texts _ _ _ _ _, by rw [partsAt_length]; exact h1, h2, ?_, h.below⟩
  intro h0
  rcases h.own.2 with ⟨e, h9⟩ | ⟨g, cap, cur, e, _⟩
  · rw [partsAt_length] at h0; omega
  · injection e with e1 e2 e3
    subst e1
    exact ⟨_, rfl, fun j r hr => ⟨h.own.cells (g := g) rfl j _ (by rw [List.getElem?_map, hr]; rfl), partsAt_ok h.data.src hd hdm hb r (List.mem_of_getElem? hr)⟩⟩
set_option maxRecDepth 100000 in
set_option maxHeartbeats 6400000 in
theorem rscut_any {A : Option Addr} {L : List RowB} (poll part last : Bool) (fi sn off : Int) (n cap a b : Nat) (room wd : Int) (w : World) (hL : L.length = n) (hn : n ≤ 24) (hs : RSrc w A L) (hp : ∀ l ∈ lens L, 0 < l) (hsum : (lens L).sum ≤ 1000000) (hab : a < b) (hb : b ≤ (lens L).sum) (hr0 : -10 ≤ room) (hr1 : room ≤ 4096) :
    Calls Try.prog 208 #[.agg #[.bool poll, .int .i64 fi, .int .i64 sn, .bool part, .bool last, .int .i64 off, .slice A n cap], .int .i64 a, .int .i64 b, .int .i64 room, .int .i64 wd] w (CutAnsR (lens L) (flat L) a b room wd w) := by
  have HDA := Lib.hid (fun W (hb : Below w.heap.size w W) => adata_len poll part last fi sn off n cap W hL (by omega) (hs.later hb) hsum)
  have HEN := Lib.hid (fun (q : Nat) W (hq : q ≤ 1000000) (hb : Below w.heap.size w W) => rsend_any q n cap W hL (by omega) (hs.later hb) hsum hq)
  have HSZ := Lib.hid (fun (k : Nat) W => size_any (k : Int) wd W)
  have hby : ∀ x ∈ flat L, x < 256 := by
    intro x hx
    unfold flat texts at hx
    rw [List.mem_flatten] at hx
    obtain ⟨l, hl, hx⟩ := hx
    obtain ⟨r, hr, rfl⟩ := List.mem_map.1 hl
    obtain ⟨k, hk⟩ := List.getElem?_of_mem hr
    obtain ⟨ad, _, hc⟩ := hs (by have := (List.getElem?_eq_some_iff.1 hk).1; omega)
    exact (hc k r hk).2.2.2.2 x hx
  have HBY := Lib.hid hby
  have HP := Lib.hid hp
  have h24 : (lens L).length ≤ 24 := by rw [length_lens, hL]; exact hn
  have HDL := Lib.hid (length_flat L)
  clear hs hp hby hL
  generalize lens L = ls at *
  generalize flat L = d at *
  go_enter Try.func208, Try.ntmps208
  go_wp2
  refine wp_scope_through 0 (fun a' w' => ∃ (N q : Nat) (v : Value) (ad : Addr) (dc : Nat), Fr [some (.agg #[.bool poll, .int .i64 fi, .int .i64 sn, .bool part, .bool last, .int .i64 off, .slice A n cap]), some (.int .i64 a), some (.int .i64 b), some (.int .i64 room), some (.int .i64 wd), some (.pointer (some ⟨w.heap.size, 0, none⟩)), none, none, none, none, some (.slice none 0 0), some (.int .i64 0), some (.slice (some ad) ls.sum dc), some v, some (.int .i64 q), none, none, none, none, none, none, none, none, none, none, none, none, none, none, none, none, none, none, none, none, none, none, none, none, none, none, none, none, none, none, none, none, none, none, none, none, none, none, none, none, none, none, none, none, none, none, none, none, none] a' ∧ q ≤ 1000000 ∧ Hid (q = a + N) ∧ Hid (RsI w.heap.size w #[.bool poll, .int .i64 fi, .int .i64 sn, .bool part, .bool last, .int .i64 off, .slice A n cap] ls d a b room wd w.heap.size ad dc N v w')) (fun a' _ => 1000000 - (intOf (a'.tmps.getD 14 undef)).toNat) rfl ?_ ?_
  · intro hrest
    go_wp2_with (go_at_call 31; (with_reducible refine (HDA.out _ (bl_alloc (Below.refl _ _) _)).mono ?_); rintro e w1 ⟨A1, c1, rfl, ho1, hb1⟩; obtain ⟨ad, rfl, _⟩ := ho1.src (by rw [length_bts, HDL.out]; omega); (have HO1 := Lib.hid ho1); (have HB1 := Lib.hid hb1); clear ho1 hb1)
    go_step3
    rename_i Q9 K9 h9
    refine h9 _ _ (hrest _ _ ⟨0, a, .slice none 0 0, ad, c1, ?_, by omega, Lib.hid rfl, Lib.hid ⟨CutI.zero (by omega), ?_, HO1.out.down (by simp), HDL.out, (Row.made w _ _).later HB1.out, bl_step (bl_alloc (Below.refl _ _) _) HB1.out⟩⟩)
    · simp only [Fr, Holes]
      repeat apply Exists.intro
      rfl
    · exact World.ownsRow_nil _ _ _ _
  · rintro a' w' ⟨N, q, v, ad, dc, hfr, hq6, HQ, HI⟩
    simp only [Fr, Holes] at hfr
    repeat (obtain ⟨_, hfr⟩ := hfr)
    obtain ⟨Av, cv, rfl, hv1, hv2⟩ := HI.out.form
    have HE := Lib.hid (HEN.out q w' hq6 HI.out.below)
    have hz := sizeF_nonneg ((pcs ls a N).length : Int) wd
    have hsl : (pcs ls a N).length ≤ 24 := Nat.le_trans (pcs_len HP.out (by have := HI.out.inv.1; omega)) h24
    have HS2 := Lib.hid (fun W => HSZ.out (pcs ls a N).length W)
    have hc6 := HI.out.row.read (i := 6) (x := .slice A n cap) rfl
    have he := endF_le ls q
    generalize hk : (pcs ls a N).length = k at *
    generalize hzz : sizeF (k : Int) wd = z at *
    generalize hee : endF ls q = ee at *
    have hq1 : q ≤ b := by have := HQ.out; have := HI.out.inv.1; omega
    have hq0 : a ≤ q := by have := HQ.out; omega
    have HZ := Lib.hid hzz
    have HEE := Lib.hid hee
    have HK := Lib.hid hk
    have hdc : ls.sum ≤ dc ∧ dc ≤ 9223372036854775807 := by
      obtain ⟨A', c', e, h1, h2⟩ := HI.out.data.form
      injection e with e1 e2 e3
      unfold maxLen at h2
      rw [HI.out.len] at h1
      omega
    obtain ⟨hdc1, hdc2⟩ := hdc
    have HDN := Lib.hid (fun hc => HI.out.done (q := q) hc HQ.out (by rw [HI.out.len]; exact hb) (by rw [HI.out.len]; exact hdc1) hdc2 HBY.out)
    have HBW := Lib.hid HI.out.below.size
    clear hzz hee hk HSZ HEN
    have HLT := Lib.hid (fun (h : q < b) => (show a + N < b by have := HQ.out; omega))
    by_cases hb1 : q < b
    · by_cases hk24 : k < 24
      · have hbI : (q : Int) < b := by omega
        have hkI : (k : Int) < 24 := by omega
        by_cases hm : min (room - ((q : Int) - a) - z) (min (b : Int) ee - q) ≤ 0
        · have HC := Lib.hid (show CutN ls a b room wd N from HI.out.inv.stop HP.out h24 hb (HLT.out hb1) (by
            have h1 := (endF_in (ls := ls) (p := q) (by omega)).1
            rw [HEE.out] at h1
            rw [HK.out, HZ.out]
            have h2 := HQ.out
            omega))
          have hmI : ¬ (0 : Int) < min (room - ((q : Int) - a) - z) (min (b : Int) ee - q) := by omega
          clear hm
          go_wp2_with (first
            | (go_at_call 187; (with_reducible refine (HS2.out _).mono ?_); rintro e w1 ⟨rfl, rfl⟩)
            | (go_at_call 268; (with_reducible refine HE.out.mono ?_); rintro e w1 ⟨rfl, rfl⟩))
          simp only [Exit.jump]
          exact bodyPost_ret (v := .tuple #[.slice Av k cv, .int .i64 q]) (by simp [results, Try.results208, go_sem]) rfl (HDN.out HC.out)
        · obtain ⟨m, hmE⟩ : ∃ m : Nat, min (room - ((q : Int) - a) - z) (min (b : Int) ee - q) = (m : Int) := ⟨(min (room - ((q : Int) - a) - z) (min (b : Int) ee - q)).toNat, by omega⟩
          have hm0 : 0 < m := by omega
          have hNX := HI.out.inv.next hb (HLT.out hb1) (by rw [HK.out]; exact hk24) (n := m) hm0 (by rw [HK.out, HZ.out]; have := HQ.out; omega) (by have := HQ.out; omega) (by rw [← HQ.out, HEE.out]; omega) (by rw [HK.out, HZ.out, ← HQ.out, HEE.out]; have := HQ.out; omega)
          obtain ⟨A2, c2, w2, hrun, hst⟩ := HI.out.next (Nat.le_trans HBW.out (Nat.le_refl _)) (by rw [HK.out]; omega) m hNX.1 hNX.2 (by have := HQ.out; omega)
          rw [HK.out, ← HQ.out] at hrun
          rw [HK.out] at hst
          have HST := Lib.hid hst
          have hqm : q + m ≤ b := by omega
          have hmI : (0 : Int) < (m : Int) := by omega
          clear hNX hst hm
          go_wp2_with (first
            | (go_at_call 187; (with_reducible refine (HS2.out _).mono ?_); rintro e w1 ⟨rfl, rfl⟩)
            | (go_at_call 268; (with_reducible refine HE.out.mono ?_); rintro e w1 ⟨rfl, rfl⟩)
            | (at_builtin; refine wpList_run rfl (.tmp 50) (.tmp 57) 22 rfl (.slice Av k cv) (.slice (some ⟨w'.heap.size, 0, none⟩) 1 1) (by rfl) (by rfl) hrun ?_))
          go_step3
          refine ⟨rfl, ⟨N + m, q + m, _, ad, dc, ?_, by omega, Lib.hid (by have := HQ.out; omega), HST⟩, ?_⟩
          · simp only [Fr, Holes]
            repeat apply Exists.intro
            rfl
          · simp [intOf]
            omega
      · have HC := Lib.hid (HI.out.inv.full HP.out h24 hb (HLT.out hb1) (by rw [HK.out]; omega))
        have hbI : (q : Int) < b := by omega
        have hkI : ¬ (k : Int) < 24 := by omega
        go_wp2
        simp only [Exit.jump]
        exact bodyPost_ret (v := .tuple #[.slice Av k cv, .int .i64 q]) (by simp [results, Try.results208, go_sem]) rfl (HDN.out HC.out)
    · have HC := Lib.hid (HI.out.inv.end (by have := HQ.out; omega))
      have hbI : ¬ (q : Int) < b := by omega
      go_wp2
      simp only [Exit.jump]
      exact bodyPost_ret (v := .tuple #[.slice Av k cv, .int .i64 q]) (by simp [results, Try.results208, go_sem]) rfl (HDN.out HC.out)
end Go.Proofs.Ytfgjlhklioijmaa
namespace Go.Proofs.Ytfgjlhklioijmaa
open Go.RowKit

theorem cells_pk {w : World} {g : Nat} {t : TypeId} {a b c d e f s : Value} (hr : Row w g t #[a, b, c, d, e, f, s]) :
    w.cell? ⟨g, 0, none⟩ = some a ∧ w.cell? ⟨g, 1, none⟩ = some b ∧ w.cell? ⟨g, 2, none⟩ = some c ∧ w.cell? ⟨g, 3, none⟩ = some d ∧ w.cell? ⟨g, 4, none⟩ = some e ∧ w.cell? ⟨g, 5, none⟩ = some f ∧ w.cell? ⟨g, 6, none⟩ = some s :=
  ⟨hr.read rfl, hr.read rfl, hr.read rfl, hr.read rfl, hr.read rfl, hr.read rfl, hr.read rfl⟩
/-- what is wrong with what is handed in -/
def faultR (part last : Bool) (fi sn off : Int) (ls : List Nat) (a b grant wd : Int) : Int :=
  if part = true ∨ amdF part last fi sn off ls wd = 0 then 3 else if grant < 0 ∨ 4096 < grant then 1 else if a < 0 ∨ b ≤ a ∨ (ls.sum : Int) < b then 1 else 0
set_option maxRecDepth 100000 in
set_option maxHeartbeats 3200000 in
theorem rsfault_any {A : Option Addr} {L : List RowB} (poll part last : Bool) (fi sn off : Int) (n cap : Nat) (a b grant wd : Int) (w : World) (hL : L.length = n) (hn : n ≤ 9223372036854775807) (hs : RSrc w A L) (hm : ∀ m ∈ lens L, m ≤ 9223372036854775807) (hsum : (lens L).sum ≤ 1000000) :
    Calls Try.prog 205 #[.agg #[.bool poll, .int .i64 fi, .int .i64 sn, .bool part, .bool last, .int .i64 off, .slice A n cap], .int .i64 a, .int .i64 b, .int .i64 grant, .int .i64 wd] w fun e w' => e = .returned (.int .i64 (faultR part last fi sn off (lens L) a b grant wd)) ∧ Below w.heap.size w w' := by
  have HR := Lib.hid (fun W (hb : Below w.heap.size w W) => aright_any (A := A) poll part last fi sn off wd n cap W hL hn (hs.later hb) hm)
  have HZ := Lib.hid (fun W (hb : Below w.heap.size w W) => rssize_any (A := A) poll part last fi sn off n cap W hL hn (hs.later hb) hsum)
  have HF := Lib.hid (show faultR part last fi sn off (lens L) a b grant wd = if part = true ∨ amdF part last fi sn off (lens L) wd = 0 then 3 else if grant < 0 ∨ 4096 < grant then 1 else if a < 0 ∨ b ≤ a ∨ ((lens L).sum : Int) < b then 1 else 0 from rfl)
  have hnn := amdF_nonneg part last fi sn off (lens L) wd
  generalize faultR part last fi sn off (lens L) a b grant wd = F at *
  generalize amdF part last fi sn off (lens L) wd = z at *
  generalize (lens L).sum = d at *
  clear hs hL hm
  have RW0 := Lib.hid (Row.made w 24 #[.bool poll, .int .i64 fi, .int .i64 sn, .bool part, .bool last, .int .i64 off, .slice A n cap])
  have HB0 := Lib.hid (bl_alloc (Below.refl w.heap.size w) (.cells #[.bool poll, .int .i64 fi, .int .i64 sn, .bool part, .bool last, .int .i64 off, .slice A n cap] 24))
  cases part
  · by_cases hz : z = 0
    · have HQ := Lib.hid (show F = 3 by rw [HF.out, if_pos (.inr hz)])
      have hz0 : decide (0 < z) = false := by simp; omega
      rw [hz0] at HR
      clear HF
      go_enter Try.func205, Try.ntmps205
      go_wp2_with (go_at_call 26; (with_reducible refine (HR.out _ HB0.out).mono ?_); rintro e w1 ⟨rfl, hb1⟩; (have HB1 := Lib.hid (bl_step HB0.out hb1)); clear hb1)
      go_ret
      exact ⟨by rw [HQ.out]; rfl, HB1.out⟩
    · have hz0 : decide (0 < z) = true := by simp; omega
      rw [hz0] at HR
      have HF2 := Lib.hid (show F = if grant < 0 ∨ 4096 < grant then 1 else if a < 0 ∨ b ≤ a ∨ (d : Int) < b then 1 else 0 by rw [HF.out, if_neg (by simp; exact hz)])
      clear HF hz hz0
      have key : ∀ b1 b2 b3 b4 b5 : Bool, decide (grant < 0) = b1 → decide (4096 < grant) = b2 → decide (a < 0) = b3 → decide (b ≤ a) = b4 → decide ((d : Int) < b) = b5 → (F = if b1 || b2 then 1 else if b3 || (b4 || b5) then 1 else 0) → Calls Try.prog 205 #[.agg #[.bool poll, .int .i64 fi, .int .i64 sn, .bool false, .bool last, .int .i64 off, .slice A n cap], .int .i64 a, .int .i64 b, .int .i64 grant, .int .i64 wd] w fun e w' => e = .returned (.int .i64 F) ∧ Below w.heap.size w w' := by
        intro b1 b2 b3 b4 b5 h1 h2 h3 h4 h5 hF
        have HQ := Lib.hid hF
        clear HF2 hF
        have arm : True := trivial
        cases b1 <;> (first | (cases b2 <;> (first | (cases b3 <;> (first | (cases b4 <;> (first | (cases b5) | skip)) | skip)) | skip)) | skip)
        all_goals
          go_enter Try.func205, Try.ntmps205
          go_wp2_with (first
            | (go_at_call 26; (with_reducible refine (HR.out _ HB0.out).mono ?_); rintro e w1 ⟨rfl, hb1⟩; (have HB1 := Lib.hid (bl_step HB0.out hb1)); (have RW1 := RW0.out.later hb1); obtain ⟨c0, c1, c2, c3, c4, c5, c6⟩ := cells_pk RW1; clear hb1 RW1)
            | (go_at_call 206; (with_reducible refine (HZ.out _ HB1.out).mono ?_); rintro e w2 ⟨rfl, hb2⟩; (have HB2 := Lib.hid (HB1.out.trans (hb2.mono HB1.out.size))); clear hb2))
          go_ret
          exact ⟨by rw [HQ.out]; rfl, by first | exact HB2.out | exact HB1.out⟩
      refine key _ _ _ _ _ rfl rfl rfl rfl rfl ?_
      rw [HF2.out]
      simp only [Bool.or_eq_true, decide_eq_true_iff]
  · have HQ := Lib.hid (show F = 3 by rw [HF.out, if_pos (.inl rfl)])
    go_enter Try.func205, Try.ntmps205
    go_wp2
    go_ret
    exact ⟨by rw [HQ.out]; rfl, HB0.out⟩
set_option maxRecDepth 100000 in
set_option maxHeartbeats 6400000 in
theorem rscutfi_any {A : Option Addr} {L : List RowB} (poll part last : Bool) (fi sn off : Int) (n cap a e : Nat) (w : World) (hL : L.length = n) (hn : n ≤ 1000) (hs : RSrc w A L) (hsum : (lens L).sum ≤ 1000000) (ha : a ≤ (lens L).sum) (he : e ≤ (lens L).sum) (hf0 : 0 ≤ fi) (hf3 : fi ≤ 3) :
    Calls Try.prog 209 #[.agg #[.bool poll, .int .i64 fi, .int .i64 sn, .bool part, .bool last, .int .i64 off, .slice A n cap], .int .i64 a, .int .i64 e] w fun x w' => x = .returned (.int .i64 (fiC (lens L) fi a e)) ∧ Below w.heap.size w w' := by
  have HA := Lib.hid (fun W (hb : Below w.heap.size w W) => rsinside_any (A := A) a n cap W hL hn (hs.later hb) hsum ha)
  have HE := Lib.hid (fun W (hb : Below w.heap.size w W) => rsinside_any (A := A) e n cap W hL hn (hs.later hb) hsum he)
  have HZ := Lib.hid (fun W (hb : Below w.heap.size w W) => rssize_any (A := A) poll part last fi sn off n cap W hL (by omega) (hs.later hb) hsum)
  have hF : fiC (lens L) fi a e = (if edgeF (lens L) a = false ∨ a = 0 ∧ 2 ≤ fi then 2 else 0) + (if edgeF (lens L) e = false ∨ e = (lens L).sum ∧ fi % 2 = 1 then 1 else 0) := rfl
  generalize fiC (lens L) fi a e = F at *
  generalize edgeF (lens L) a = ea at *
  generalize edgeF (lens L) e = ee at *
  generalize (lens L).sum = d at *
  clear hs hL hsum
  have key : ∀ z s : Bool, ((a : Int) == 0) = z → ((e : Int) == (d : Int)) = s → (F = (if ea = false ∨ z = true ∧ 2 ≤ fi then 2 else 0) + (if ee = false ∨ s = true ∧ fi % 2 = 1 then 1 else 0)) → Calls Try.prog 209 #[.agg #[.bool poll, .int .i64 fi, .int .i64 sn, .bool part, .bool last, .int .i64 off, .slice A n cap], .int .i64 a, .int .i64 e] w fun x w' => x = .returned (.int .i64 F) ∧ Below w.heap.size w w' := by
    intro z s h1 h2 hq
    have HQ := Lib.hid hq
    clear hF hq
    have HB0 := Lib.hid (bl_alloc (Below.refl w.heap.size w) (.cells #[.bool poll, .int .i64 fi, .int .i64 sn, .bool part, .bool last, .int .i64 off, .slice A n cap] 24))
    have hfi : fi = 0 ∨ fi = 1 ∨ fi = 2 ∨ fi = 3 := by omega
    clear hf0 hf3 ha he
    rcases hfi with rfl | rfl | rfl | rfl
    all_goals
      cases ea <;> cases ee <;> cases z <;> cases s
      all_goals
        go_enter Try.func209, Try.ntmps209
        go_wp2_with (first
          | (go_at_call 269; (with_reducible refine (HA.out _ HB0.out).mono ?_); rintro x w1 ⟨rfl, rfl⟩)
          | (go_at_call 269; (with_reducible refine (HE.out _ HB0.out).mono ?_); rintro x w1 ⟨rfl, rfl⟩)
          | (go_at_call 206; (with_reducible refine (HZ.out _ HB0.out).mono ?_); rintro x w2 ⟨rfl, hb2⟩; (have HB2 := Lib.hid (bl_step HB0.out hb2)); (have RW1 := (Row.made w 24 _).later hb2); obtain ⟨c0, c1, c2, c3, c4, c5, c6⟩ := cells_pk RW1; clear hb2 RW1))
        go_ret
        exact ⟨by rw [HQ.out]; rfl, by first | exact HB2.out | exact HB0.out⟩
  refine key _ _ rfl rfl ?_
  rw [hF]
  have e1 : (((a : Int) == 0) = true) = (a = 0) := by simp
  have e2 : (((e : Int) == (d : Int)) = true) = (e = d) := by simp; omega
  simp only [e1, e2]
end Go.Proofs.Ytfgjlhklioijmaa
