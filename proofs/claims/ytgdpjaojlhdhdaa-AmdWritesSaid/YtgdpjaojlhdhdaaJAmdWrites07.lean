/-
  Rows of bytes as they came in; how they are gone through. How many bytes fields have; whether two are equal. Fields' bytes, one behind the other.
-/
import Derived.Test.YtgdpjaojlhdhdaaJAmdWrites02
import Derived.Test.YtgdpjaojlhdhdaaJAmdWrites05
import Derived.Test.YtgdpjaojlhdhdaaJAmdWrites06
import Derived.Laws.Strings
namespace Go.Proofs.Ytgdpjaojlhdhdaa
open Go.RowKit


/-- bytes that lie in a row of rows -/
structure RowB where
  A : Option Addr
  cap : Nat
  bs : List Nat
def RowB.ok (W : World) (r : RowB) : Prop := Src W r.A (bts r.bs) ∧ r.bs.length ≤ r.cap ∧ r.cap ≤ 9223372036854775807 ∧ ∀ b ∈ r.bs, b < 256
def RowB.v (r : RowB) : Value := .slice r.A r.bs.length r.cap
def RSrc (W : World) (A : Option Addr) (L : List RowB) : Prop :=
  0 < L.length → ∃ ad, A = some ad ∧ ∀ k r, L[k]? = some r → W.cell? (ad.add k) = some r.v ∧ r.ok W
def lens (L : List RowB) : List Nat := L.map fun r => r.bs.length
def texts (L : List RowB) : List (List Nat) := L.map fun r => r.bs
theorem length_lens (L : List RowB) : (lens L).length = L.length := by simp [lens]
theorem lens_at {L : List RowB} {k : Nat} {r : RowB} (h : L[k]? = some r) : (lens L)[k]? = some r.bs.length := by simp [lens, h]
theorem src_later {w v : World} {A : Option Addr} {xs : List Value} (h : Src w A xs) (hb : Below w.heap.size w v) : Src v A xs := by
  intro h0
  obtain ⟨ad, rfl, hc⟩ := h h0
  exact ⟨ad, rfl, fun j u hu => cell_below hb (hc j u hu)⟩
theorem RowB.ok.later {w v : World} {r : RowB} (h : r.ok w) (hb : Below w.heap.size w v) : r.ok v := ⟨src_later h.1 hb, h.2⟩
theorem RSrc.later {w v : World} {A : Option Addr} {L : List RowB} (h : RSrc w A L) (hb : Below w.heap.size w v) : RSrc v A L := by
  intro h0
  obtain ⟨ad, hA, hc⟩ := h h0
  exact ⟨ad, hA, fun k r hr => ⟨cell_below hb (hc k r hr).1, (hc k r hr).2.later hb⟩⟩
theorem RSrc.take {w : World} {A : Option Addr} {L : List RowB} (h : RSrc w A L) (n : Nat) : RSrc w A (L.take n) := by
  intro h0
  obtain ⟨ad, hA, hc⟩ := h (by rw [List.length_take] at h0; omega)
  refine ⟨ad, hA, fun k r hr => hc k r ?_⟩
  rw [List.getElem?_take] at hr
  split at hr
  · exact hr
  · cases hr

theorem enters {f : FuncId} {fn : Func} {c : Code} (hf : Try.prog.funcs[f]? = some fn) (hname : (fn.name == "runtime.NumGoroutine") = false) (hb : fn.body = some c) (args : Array Value) (w : World) :
    (callFunc f args).run Try.prog w = .ok (.enter f args) w := by
  have h1 : fn.name ≠ "runtime.NumGoroutine" := by simpa using hname
  simp [callFunc, hf, h1, hb]
theorem addr_zero (ad : Addr) : ad.add 0 = ad := by simp [Addr.add]

set_option maxRecDepth 100000 in
set_option maxHeartbeats 1600000 in
theorem each_any {K : Nat} {caps : Array Value} {A : Option Addr} {L : List RowB} (n cap : Nat) (hcf : ∀ (args : Array Value) (w : World), (callFunc K args).run Try.prog w = .ok (.enter K args) w) (Inv : Nat → World → Prop) (Stop : World → Prop) (w : World) (hL : L.length = n) (hn : n ≤ 9223372036854775807) (h0 : Inv 0 w)
    (hsrc : ∀ k W, Inv k W → RSrc W A L)
    (hstep : ∀ k W r, L[k]? = some r → Inv k W → Calls Try.prog K (#[.int .i64 k, .slice r.A r.bs.length r.cap] ++ caps) W fun e W' => (e = .returned (.bool true) ∧ Inv (k + 1) W') ∨ (e = .returned (.bool false) ∧ Stop W')) :
    Calls Try.prog 290 #[.slice A n cap, .func (.func K) #[] caps] w fun e w' => (e = .returned (.bool true) ∧ Inv n w') ∨ (e = .returned (.bool false) ∧ Stop w') := by
  have HR := Lib.hid hsrc
  have HS := Lib.hid hstep
  have H0 := Lib.hid h0
  have HL := Lib.hid hL
  clear hsrc hstep h0 hL
  go_enter Try.func290, Try.ntmps290
  go_wp2
  refine wp_scope_jumps 0 (fun a' w' => ∃ k : Nat, k ≤ n ∧ Fr [some (.slice A n cap), some (.func (.func K) #[] caps), none, none, some (.bool false), some (.int .i64 k), none, none, none, none, none, none, none, none, none, none, none, none, none, none] a' ∧ Inv k w') (fun a' _ => n - (intOf (a'.tmps.getD 5 undef)).toNat) rfl ?_ ?_
  · rcases Nat.eq_zero_or_pos n with hk0 | hk0
    · subst hk0
      go_wp2
      go_step3
      go_wp2
      simp only [Exit.jump]
      go_ret
      exact .inl ⟨rfl, H0.out⟩
    · obtain ⟨ad, rfl, hcell⟩ := HR.out 0 w H0.out (by rw [HL.out]; exact hk0)
      obtain ⟨r, hy⟩ : ∃ r, L[0]? = some r := ⟨_, List.getElem?_eq_getElem (by rw [HL.out]; exact hk0)⟩
      have c0 : w.cell? ad = some (.slice r.A r.bs.length r.cap) := by have h9 := (hcell 0 r hy).1; rw [addr_zero] at h9; exact h9
      have HC := Lib.hid (HS.out 0 w r hy H0.out)
      have hk0i : (0 : Int) < (n : Int) := by omega
      clear hcell hy
      skip
      all_goals
        go_wp2
        go_step3
        go_wp2_with fail
        refine (HC.out).mono ?_
        rintro e w1 (⟨rfl, hi⟩ | ⟨rfl, hs⟩)
        · go_wp2_with fail
          go_step3
          refine ⟨rfl, 1, by omega, ?_, hi⟩
          simp only [Fr, Holes]
          repeat apply Exists.intro
          rfl
        · go_wp2_with fail
          simp only [Exit.jump]
          go_ret
          exact .inr ⟨rfl, hs⟩
  · rintro a' w' ⟨k, hk, hfr, hinv⟩
    simp only [Fr, Holes] at hfr
    repeat (obtain ⟨_, hfr⟩ := hfr)
    rcases Nat.lt_or_ge k n with hlt | hge
    · obtain ⟨ad, rfl, hcell⟩ := HR.out k w' hinv (by rw [HL.out]; omega)
      obtain ⟨r, hy⟩ : ∃ r, L[k]? = some r := ⟨_, List.getElem?_eq_getElem (by rw [HL.out]; exact hlt)⟩
      have c0 : w'.cell? (ad.add k) = some (.slice r.A r.bs.length r.cap) := (hcell k r hy).1
      have HC := Lib.hid (HS.out k w' r hy hinv)
      have HI := Lib.hid hinv
      clear hcell hy hinv
      skip
      all_goals
        go_wp2_with fail
        refine (HC.out).mono ?_
        rintro e w1 (⟨rfl, hi⟩ | ⟨rfl, hs⟩)
        · go_wp2_with fail
          go_step3
          refine ⟨rfl, ⟨k + 1, by omega, ?_, hi⟩, ?_⟩
          · simp only [Fr, Holes]
            repeat apply Exists.intro
            rfl
          · simp [intOf]
            omega
        · go_wp2_with fail
          simp only [Exit.jump]
          go_ret
          exact .inr ⟨rfl, hs⟩
    · obtain rfl : k = n := by omega
      go_wp2
      simp only [Exit.jump]
      go_ret
      exact .inl ⟨rfl, hinv⟩
end Go.Proofs.Ytgdpjaojlhdhdaa
namespace Go.Proofs.Ytgdpjaojlhdhdaa
open Go.RowKit


theorem longest_b (b : Bool) (w : World) : Calls Try.prog 292 #[.bool b] w fun e w' => e = .returned (.int .i64 (if b then 4000 else 2047)) ∧ w = w' := by
  cases b
  · go_enter Try.func292, Try.ntmps292
    go_wp2
    go_ret
    exact ⟨rfl, rfl⟩
  · go_enter Try.func292, Try.ntmps292
    go_wp2
    go_ret
    exact ⟨rfl, rfl⟩

/-- a field's length is added, if it may be -/
def Size1 (n k m ps : Nat) (sz : Int) (w : World) (e : Ending) (w' : World) : Prop :=
  (okAt n k m = true ∧ e = .returned (.bool true) ∧ Row w' ps 3 #[.int .i64 (sz + m)] ∧ Only (fun b => b = ps) w w') ∨ (okAt n k m = false ∧ e = .returned (.bool false) ∧ w = w')
set_option maxRecDepth 100000 in
set_option maxHeartbeats 1600000 in
theorem size1_any {pl ps n cap : Nat} {A Af : Option Addr} {sz : Int} (k m c : Nat) (w : World) (hl : Row w pl 40 #[.slice A n cap]) (hs : Row w ps 3 #[.int .i64 sz]) (hk : k < n) (hn : n ≤ 24) (h0 : 0 ≤ sz) (h1 : sz ≤ 1000000) (hm : m ≤ 9223372036854775807) :
    Calls Try.prog 291 #[.int .i64 k, .slice Af m c, .pointer (some ⟨pl, 0, none⟩), .pointer (some ⟨ps, 0, none⟩)] w (Size1 n k m ps sz w) := by
  have hcl : w.cell? ⟨pl, 0, none⟩ = some (.slice A n cap) := hl.read rfl
  have hcs : w.cell? ⟨ps, 0, none⟩ = some (.int .i64 sz) := hs.read rfl
  have hfs := hs.free 0
  have HROW := Lib.hid (hs.written 0 (.int .i64 (sz + m)))
  have HON := Lib.hid ((Only.refl (fun b => b = ps) w).set (p := ⟨ps, 0, none⟩) (.inl rfl) (.int .i64 (sz + m)))
  clear hs hl
  rcases Nat.eq_zero_or_pos m with hm0 | hm0
  · have HF := Lib.hid (show okAt n k m = false by unfold okAt; rw [decide_eq_false (by omega)]; rfl)
    subst hm0
    go_enter Try.func291, Try.ntmps291
    go_wp2
    go_ret
    exact .inr ⟨HF.out, rfl, rfl⟩
  · have hm1 : ¬ (m : Int) < 1 := by omega
    have hn1 : (1 : Int) ≤ n := by omega
    by_cases hl : k + 1 = n
    · have hb : ((k : Int) == (n : Int) - 1) = true := by simp; omega
      rcases Nat.lt_or_ge 4000 m with h4 | h4
      · have HF := Lib.hid (show okAt n k m = false by unfold okAt; rw [if_pos hl, decide_eq_false (show ¬ m ≤ 4000 by omega)]; simp)
        have h4' : (4000 : Int) < m := by omega
        clear hl
        go_enter Try.func291, Try.ntmps291
        go_wp2_with (go_at_call 292; refine (longest_b true _).mono ?_; rintro e w1 ⟨rfl, rfl⟩)
        go_ret
        exact .inr ⟨HF.out, rfl, rfl⟩
      · have HF := Lib.hid (show okAt n k m = true by unfold okAt; rw [if_pos hl, decide_eq_true h4, decide_eq_true (show 1 ≤ m by omega)]; rfl)
        have h4' : ¬ (4000 : Int) < m := by omega
        clear hl
        go_enter Try.func291, Try.ntmps291
        go_wp2_with (go_at_call 292; refine (longest_b true _).mono ?_; rintro e w1 ⟨rfl, rfl⟩)
        go_ret
        exact .inl ⟨HF.out, rfl, HROW.out, HON.out⟩
    · have hb : ((k : Int) == (n : Int) - 1) = false := by simp; omega
      rcases Nat.lt_or_ge 2047 m with h4 | h4
      · have HF := Lib.hid (show okAt n k m = false by unfold okAt; rw [if_neg hl, decide_eq_false (show ¬ m ≤ 2047 by omega)]; simp)
        have h4' : (2047 : Int) < m := by omega
        clear hl
        go_enter Try.func291, Try.ntmps291
        go_wp2_with (go_at_call 292; refine (longest_b false _).mono ?_; rintro e w1 ⟨rfl, rfl⟩)
        go_ret
        exact .inr ⟨HF.out, rfl, rfl⟩
      · have HF := Lib.hid (show okAt n k m = true by unfold okAt; rw [if_neg hl, decide_eq_true h4, decide_eq_true (show 1 ≤ m by omega)]; rfl)
        have h4' : ¬ (2047 : Int) < m := by omega
        clear hl
        go_enter Try.func291, Try.ntmps291
        go_wp2_with (go_at_call 292; refine (longest_b false _).mono ?_; rintro e w1 ⟨rfl, rfl⟩)
        go_ret
        exact .inl ⟨HF.out, rfl, HROW.out, HON.out⟩

/-- .. while fields are gone through -/
structure SizeInv (B pl ps n cap : Nat) (A : Option Addr) (sz : Int) (ls : List Nat) (w : World) (k : Nat) (w' : World) : Prop where
  box : Row w' pl 40 #[.slice A n cap]
  sum : Row w' ps 3 #[.int .i64 (sz + sumTo ls k)]
  ok : okTo ls k = true
  below : Below B w w'
theorem only_below {B : Nat} {w w' : World} {p : Nat} (h : Only (fun b => b = p) w w') (hp : B ≤ p) (hB : B ≤ w.heap.size) : Below B w w' := h.below hB (fun k hk hk' => by omega)
theorem each_size {A : Option Addr} {L : List RowB} {B pl ps n cap : Nat} {sz : Int} (w : World) (hL : L.length = n) (hn : n ≤ 24) (hs : ∀ W, Below B w W → RSrc W A L) (hm : ∀ m ∈ lens L, m ≤ 9223372036854775807) (hz0 : 0 ≤ sz) (hz1 : sz ≤ 46)
    (hB : B ≤ w.heap.size) (hps : B ≤ ps) (hne : ps ≠ pl) (h1 : Row w pl 40 #[.slice A n cap]) (h2 : Row w ps 3 #[.int .i64 sz]) :
    Calls Try.prog 290 #[.slice A n cap, .func (.func 291) #[] #[.pointer (some ⟨pl, 0, none⟩), .pointer (some ⟨ps, 0, none⟩)]] w fun e w' =>
      (e = .returned (.bool true) ∧ SizeInv B pl ps n cap A sz (lens L) w n w') ∨ (e = .returned (.bool false) ∧ okTo (lens L) n = false ∧ Below B w w') := by
  have hll : (lens L).length = n := by rw [length_lens, hL]
  refine each_any (K := 291) (caps := #[.pointer (some ⟨pl, 0, none⟩), .pointer (some ⟨ps, 0, none⟩)]) n cap (fun a W => enters Try.func291 (by kernel_rfl) rfl a W)
        (SizeInv B pl ps n cap A sz (lens L) w) (fun W' => okTo (lens L) n = false ∧ Below B w W') w hL (by omega)
        ⟨h1, by rw [sumTo_zero]; simpa using h2, okTo_zero _, Below.refl _ _⟩ (fun k W' hi => hs W' hi.below)
        (fun k W' r hr hi => ?_)
  have hk : k < n := by rw [← hL]; exact (List.getElem?_eq_some_iff.1 hr).1
  have hm9 : r.bs.length ≤ 9223372036854775807 := hm _ (List.mem_of_getElem? (lens_at hr))
  have hst := sumTo_bound hi.ok (by rw [hll]; omega)
  have hB' : B ≤ W'.heap.size := Nat.le_trans hB hi.below.size
  refine (size1_any (Af := r.A) (c := r.cap) k r.bs.length W' hi.box hi.sum hk hn (by omega) (by omega) hm9).mono ?_
  rintro e W2 (⟨g1, rfl, g2, g3⟩ | ⟨g1, rfl, rfl⟩)
  · refine .inl ⟨rfl, hi.box.only g3 (fun h => hne h.symm), ?_, ?_, hi.below.trans (only_below g3 hps hB')⟩
    · rw [sumTo_succ (lens_at hr)]
      have e9 : sz + ((sumTo (lens L) k + r.bs.length : Nat) : Int) = sz + (sumTo (lens L) k : Int) + (r.bs.length : Int) := by omega
      rw [e9]
      exact g2
    · rw [okTo_at (lens_at hr) hi.ok, hll, g1]
  · refine .inr ⟨rfl, ?_, hi.below⟩
    refine okTo_later (k := k + 1) ?_ (by omega)
    rw [okTo_at (lens_at hr) hi.ok, hll, g1]

set_option maxRecDepth 100000 in
set_option maxHeartbeats 1600000 in
theorem fsize_any {A : Option Addr} {L : List RowB} (n cap : Nat) (wd : Int) (w : World) (hL : L.length = n) (hn : n ≤ 9223372036854775807) (hs : RSrc w A L) (hm : ∀ m ∈ lens L, m ≤ 9223372036854775807) :
    Calls Try.prog 184 #[.slice A n cap, .int .i64 wd] w fun e w' => e = .returned (.int .i64 (szF (lens L) wd)) ∧ Below w.heap.size w w' := by
  have hll : (lens L).length = n := by rw [length_lens, hL]
  rcases Nat.eq_zero_or_pos n with h0 | h0
  · have HF := Lib.hid (show szF (lens L) wd = 0 by unfold szF; rw [if_neg (by omega)])
    subst h0
    clear hL hll hs hm
    go_enter Try.func184, Try.ntmps184
    go_wp2
    go_ret
    exact ⟨by rw [HF.out]; rfl, bl_alloc (Below.refl _ _) _⟩
  · have h0' : ¬ (n : Int) < 1 := by omega
    rcases Nat.lt_or_ge 24 n with h1 | h1
    · have HF := Lib.hid (show szF (lens L) wd = 0 by unfold szF; rw [if_neg (by omega)])
      have h1' : (24 : Int) < n := by omega
      clear hL hll hs hm
      go_enter Try.func184, Try.ntmps184
      go_wp2
      go_ret
      exact ⟨by rw [HF.out]; rfl, bl_alloc (Below.refl _ _) _⟩
    · have h1' : ¬ (24 : Int) < n := by omega
      have HF := Lib.hid (show szF (lens L) wd = if okTo (lens L) n = true then sizeF ((n : Int) - 1) wd + (lens L).sum else 0 by
        unfold szF
        rw [hll]
        by_cases h9 : okTo (lens L) n = true
        · rw [if_pos ⟨by omega, by omega, h9⟩, if_pos h9]
        · rw [if_neg (fun h => h9 h.2.2), if_neg h9])
      have HZ := Lib.hid (fun W => size_any ((n : Int) - 1) wd W)
      have hz := sizeF_nonneg ((n : Int) - 1) wd
      generalize sizeF ((n : Int) - 1) wd = sz at *
      obtain ⟨hz0, hz1⟩ := hz
      have HSUM := Lib.hid (show sumTo (lens L) n = (lens L).sum by rw [← hll]; exact sumTo_all _)
      have HE := Lib.hid (fun W hb (x1 : Row W w.heap.size 40 #[.slice A n cap]) x2 => each_size (B := w.heap.size) (pl := w.heap.size) (ps := w.heap.size + 1) (cap := cap) (sz := sz) W hL h1 (fun W' hb' => hs.later (Below.trans hb hb')) hm hz0 hz1 (Below.size hb) (by omega) (by omega) x1 x2)
      clear hL hll hs hm
      go_enter Try.func184, Try.ntmps184
      go_wp2_with (first
        | (go_at_call 250; refine (HZ.out _).mono ?_; rintro e w1 ⟨rfl, rfl⟩)
        | (go_at_call 290; refine (HE.out _ ?b ?x1 ?x2).mono ?_; rotate_left 3; rintro e w2 (⟨rfl, hi⟩ | ⟨rfl, hi, hb⟩); (have hc := hi.sum.read (i := 0) rfl; have HI := Lib.hid hi; clear hi); rotate_left 1; (have HI := Lib.hid hi; have HB := Lib.hid hb; clear hi hb); rotate_left 1))
      case b => exact bl_alloc (bl_alloc (Below.refl _ _) _) _
      case x1 => exact (Row.made _ _ _).more _
      case x2 => exact (by simpa using Row.made (w.alloc (.cells #[.slice A n cap] 40)) 3 #[.int .i64 sz])
      · go_ret
        refine ⟨?_, (bl_alloc (bl_alloc (Below.refl _ _) _) _).trans HI.out.below⟩
        rw [HF.out, if_pos HI.out.ok, ← HSUM.out]
        rfl
      · go_ret
        refine ⟨?_, (bl_alloc (bl_alloc (Below.refl _ _) _) _).trans HB.out⟩
        rw [HF.out, if_neg (by rw [HI.out]; decide)]
        rfl

theorem conv_src {w : World} {A : Option Addr} {l : List Nat} (n c : Nat) (hl : l.length = n) (h : Src w A (bts l)) (hb : ∀ b ∈ l, b < 256) : (convert 30 9 (.slice A n c)).run Try.prog w = .ok (.string (strOf l)) w := by
  subst hl
  cases A with
  | none =>
    have hl : l.length = 0 := by
      rcases Nat.eq_zero_or_pos l.length with h0 | h0
      · exact h0
      · obtain ⟨ad, h1, _⟩ := h (by rw [length_bts]; exact h0)
        cases h1
    have e : l = [] := List.eq_nil_of_length_eq_zero hl
    subst e
    exact run_convert_bytes_nil w 30 5 Try.underlying30 Try.underlying5 0 c 9 Try.underlying9
  | some ad =>
    have hx := run_convert_bytes_back (P := Try.prog) w 30 9 5 ad c (l.map UInt8.ofNat) Try.underlying30 Try.underlying5 Try.underlying9 (fun j hj => by
      have hj' : j < l.length := by simpa using hj
      have h1 : (bts l)[j]? = some (.int .u8 (l[j] : Nat)) := bts_at (List.getElem?_eq_getElem hj')
      obtain ⟨ad', h2, h3⟩ := h (by rw [length_bts]; omega)
      injection h2 with h2
      subst h2
      rw [h3 j _ h1, List.getElem_map]
      have h4 : (UInt8.ofNat l[j]).toNat = l[j] := UInt8.toNat_ofNat_of_lt' (hb _ (List.getElem_mem hj'))
      rw [h4])
    rw [List.length_map] at hx
    exact hx
theorem strOf_inj {a b : List Nat} (ha : ∀ x ∈ a, x < 256) (hb : ∀ x ∈ b, x < 256) (h : strOf a = strOf b) : a = b := by
  unfold strOf at h
  injection h with h
  have h1 : a.map UInt8.ofNat = b.map UInt8.ofNat := by
    have := congrArg Array.toList h
    simpa using this
  have h2 := congrArg (List.map UInt8.toNat) h1
  rw [List.map_map, List.map_map] at h2
  have e : ∀ l : List Nat, (∀ x ∈ l, x < 256) → l.map (UInt8.toNat ∘ UInt8.ofNat) = l := fun l hl => by
    have : l.map (UInt8.toNat ∘ UInt8.ofNat) = l.map id := List.map_congr_left fun x hx => UInt8.toNat_ofNat_of_lt' (hl x hx)
    rw [this, List.map_id]
  rw [e a ha, e b hb] at h2
  exact h2
theorem strOf_list (a : List Nat) : (strOf a).toList = a.map UInt8.ofNat := ByteArray.toList_mk _
theorem strOf_beq {a b : List Nat} (ha : ∀ x ∈ a, x < 256) (hb : ∀ x ∈ b, x < 256) : ((strOf a).toList == (strOf b).toList) = decide (a = b) := by
  rw [Bool.eq_iff_iff, decide_eq_true_iff, beq_iff_eq]
  refine ⟨fun h => strOf_inj ha hb ?_, fun h => by rw [h]⟩
  rw [strOf_list, strOf_list] at h
  unfold strOf
  rw [h]
set_option maxHeartbeats 400000 in
theorem equal_any {A B : Option Addr} {a b : List Nat} (n m c d : Nat) (w : World) (hn : a.length = n) (hm : b.length = m) (hA : Src w A (bts a)) (hB : Src w B (bts b)) (ha : ∀ x ∈ a, x < 256) (hb : ∀ x ∈ b, x < 256) :
    Calls Try.prog 294 #[.slice A n c, .slice B m d] w fun e w' => e = .returned (.bool (decide (a = b))) ∧ w = w' := by
  have c1 := conv_src n c hn hA ha
  have c2 := conv_src m d hm hB hb
  have HQ := Lib.hid (strOf_beq ha hb)
  clear hn hm hA hB ha hb
  go_enter Try.func294, Try.ntmps294
  go_wp2
  go_ret
  exact ⟨ret_bool HQ.out, rfl⟩

set_option maxHeartbeats 400000 in
theorem same1_any {pb nb capb : Nat} {ad : Addr} {r r' : RowB} (k : Nat) (w : World) (hp : Row w pb 40 #[.slice (some ad) nb capb]) (hc : w.cell? (ad.add k) = some r'.v) (hr : r.ok w) (hr' : r'.ok w) (hk : k < nb) :
    Calls Try.prog 293 #[.int .i64 k, .slice r.A r.bs.length r.cap, .pointer (some ⟨pb, 0, none⟩)] w fun e w' => e = .returned (.bool (decide (r.bs = r'.bs))) ∧ w = w' := by
  have hcb : w.cell? ⟨pb, 0, none⟩ = some (.slice (some ad) nb capb) := hp.read rfl
  have hc' : w.cell? (ad.add k) = some (.slice r'.A r'.bs.length r'.cap) := hc
  have HE := Lib.hid (equal_any r.bs.length r'.bs.length r.cap r'.cap w rfl rfl hr.1 hr'.1 hr.2.2.2 hr'.2.2.2)
  clear hp hc hr hr'
  generalize decide (r.bs = r'.bs) = q at *
  generalize r.bs.length = n1 at *
  generalize r'.bs.length = n2 at *
  go_enter Try.func293, Try.ntmps293
  go_wp2_with (go_at_call 294; refine HE.out.mono ?_; rintro e w1 ⟨rfl, rfl⟩)
  go_ret
  exact ⟨rfl, rfl⟩

/-- fields are the same so far -/
def sameTo (a b : List (List Nat)) (k : Nat) : Prop := ∀ j, j < k → a[j]? = b[j]?
theorem texts_at {L : List RowB} {k : Nat} {r : RowB} (h : L[k]? = some r) : (texts L)[k]? = some r.bs := by simp [texts, h]
theorem length_texts (L : List RowB) : (texts L).length = L.length := by simp [texts]
theorem sameTo_all {a b : List (List Nat)} (hl : a.length = b.length) (h : sameTo a b a.length) : a = b := by
  apply List.ext_getElem?
  intro j
  rcases Nat.lt_or_ge j a.length with h1 | h1
  · exact h j h1
  · rw [List.getElem?_eq_none h1, List.getElem?_eq_none (by omega)]
theorem ret_b {a b : Bool} (h : a = b) : Ending.returned (.bool a) = .returned (.bool b) := by rw [h]
theorem each_same {A B : Option Addr} {L M : List RowB} {pb n cap capb : Nat} (w : World) (hL : L.length = n) (hM : M.length = n) (hn : n ≤ 9223372036854775807) (hs : RSrc w A L) (hs' : RSrc w B M) (hp : Row w pb 40 #[.slice B n capb]) :
    Calls Try.prog 290 #[.slice A n cap, .func (.func 293) #[] #[.pointer (some ⟨pb, 0, none⟩)]] w fun e w' => e = .returned (.bool (decide (texts L = texts M))) ∧ w = w' := by
  refine (each_any (K := 293) (caps := #[.pointer (some ⟨pb, 0, none⟩)]) n cap (fun a W => enters Try.func293 (by kernel_rfl) rfl a W) (fun k W => sameTo (texts L) (texts M) k ∧ w = W) (fun W => texts L ≠ texts M ∧ w = W) w hL hn
    ⟨fun j hj => by omega, rfl⟩ (fun k W h => by rw [← h.2]; exact hs) (fun k W r hr h => ?_)).mono ?_
  · obtain ⟨h1, rfl⟩ := h
    have hk : k < n := by rw [← hL]; exact (List.getElem?_eq_some_iff.1 hr).1
    obtain ⟨ad, rfl, hc⟩ := hs' (by omega)
    obtain ⟨r', hr'⟩ : ∃ r', M[k]? = some r' := ⟨_, List.getElem?_eq_getElem (by omega)⟩
    obtain ⟨ad2, _, hc2⟩ := hs (by omega)
    refine (same1_any k w hp (hc k r' hr').1 (hc2 k r hr).2 (hc k r' hr').2 hk).mono ?_
    rintro e W2 ⟨rfl, rfl⟩
    by_cases he : r.bs = r'.bs
    · refine .inl ⟨ret_b (decide_eq_true he), fun j hj => ?_, rfl⟩
      rcases Nat.lt_or_ge j k with h2 | h2
      · exact h1 j h2
      · obtain rfl : j = k := by omega
        rw [texts_at hr, texts_at hr', he]
    · refine .inr ⟨ret_b (decide_eq_false he), fun h2 => he ?_, rfl⟩
      have h3 := texts_at hr
      rw [h2, texts_at hr'] at h3
      injection h3 with h3
      exact h3.symm
  · rintro e W (⟨rfl, h, rfl⟩ | ⟨rfl, h, rfl⟩)
    · exact ⟨ret_b (decide_eq_true (sameTo_all (by rw [length_texts, length_texts, hL, hM]) (by rw [length_texts, hL]; exact h))).symm, rfl⟩
    · exact ⟨ret_b (decide_eq_false h).symm, rfl⟩
set_option maxRecDepth 100000 in
set_option maxHeartbeats 400000 in
theorem fsame_any {A B : Option Addr} {L M : List RowB} (n m cap capb : Nat) (w : World) (hL : L.length = n) (hM : M.length = m) (hn : n ≤ 9223372036854775807) (hs : RSrc w A L) (hs' : RSrc w B M) :
    Calls Try.prog 187 #[.slice A n cap, .slice B m capb] w fun e w' => e = .returned (.bool (decide (texts L = texts M))) ∧ Below w.heap.size w w' := by
  by_cases h : n = m
  · subst h
    have HE := Lib.hid (fun W (hb : Below w.heap.size w W) (x : Row W w.heap.size 40 #[.slice B n capb]) => each_same (cap := cap) W hL hM hn (hs.later hb) (hs'.later hb) x)
    clear hL hM hs hs'
    generalize decide (texts L = texts M) = q at *
    have hnn : ((n : Int) == (n : Int)) = true := by simp
    go_enter Try.func187, Try.ntmps187
    go_wp2_with (go_at_call 290; refine (HE.out _ (bl_alloc (Below.refl _ _) _) (Row.made _ _ _)).mono ?_; rintro e w2 ⟨rfl, rfl⟩)
    go_ret
    exact ⟨rfl, bl_alloc (Below.refl _ _) _⟩
  · have HF := Lib.hid (show decide (texts L = texts M) = false from decide_eq_false fun h1 => h (by have := congrArg List.length h1; rw [length_texts, length_texts] at this; omega))
    have hnm : ((n : Int) == (m : Int)) = false := by simp; omega
    clear hL hM hs hs' h
    go_enter Try.func187, Try.ntmps187
    go_wp2
    go_ret
    exact ⟨by rw [HF.out]; rfl, bl_alloc (Below.refl _ _) _⟩
end Go.Proofs.Ytgdpjaojlhdhdaa
namespace Go.Proofs.Ytgdpjaojlhdhdaa
open Go.RowKit


theorem own_later2 {B : Nat} {e : TypeId} {size n : Nat} {w v : World} {x : Value} {xs : List Value} (h : w.ownsRow B e size x n xs) (hb : Below w.heap.size w v) : v.ownsRow B e size x n xs :=
  own_only h (S := fun _ => False) (.of_below hb) (fun _ _ h => h)
/-- bytes of the call's own -/
def OwnY (B : Nat) (w : World) (v : Value) (l : List Nat) : Prop := w.ownsRow B 5 1 v l.length (bts l)
section
variable {B : Nat} {w w' : World} {v : Value} {l : List Nat}
theorem OwnY.form (h : OwnY B w v l) : ∃ A c, v = .slice A l.length c ∧ l.length ≤ c ∧ c ≤ maxLen := by
  rcases h.2 with ⟨rfl, h0⟩ | ⟨g, cap, cur, rfl, _, _, h1, h2, _⟩
  · exact ⟨none, 0, by rw [h0], by omega, by simp [maxLen]⟩
  · exact ⟨_, cap, rfl, h1, h2⟩
theorem OwnY.src {A : Option Addr} {n c : Nat} (h : OwnY B w (.slice A n c) l) : Src w A (bts l) := by
  obtain ⟨A', c', e, _⟩ := h.form
  injection e with e1 e2 e3
  subst e1 e2 e3
  exact src_own h
theorem OwnY.only {S : Nat → Prop} (h : OwnY B w v l) (ho : Only S w w') (hS : ∀ k, v.ownBlock = some k → ¬ S k) : OwnY B w' v l := own_only h ho hS
theorem OwnY.later (h : OwnY B w v l) (hb : Below w.heap.size w w') : OwnY B w' v l := own_later2 h hb
theorem OwnY.down {B' : Nat} (h : OwnY B w v l) (hb : B' ≤ B) : OwnY B' w v l := own_down h hb
theorem OwnY.conv (h : OwnY B w v l) (hb : ∀ b ∈ l, b < 256) : (convert 30 9 v).run Try.prog w = .ok (.string (strOf l)) w := conv_own h hb
end
theorem own_only_below {B : Nat} {w w' : World} {v : Value} {e n : Nat} {xs : List Value} (h : w.ownsRow B e 1 v n xs) (ho : Only (fun k => v.ownBlock = some k) w w') (hB : B ≤ w.heap.size) : Below B w w' :=
  ho.below hB fun k hk hk' => by have := (h.lt k hk').1; omega

set_option maxRecDepth 100000 in
theorem app_bytes {B : Nat} {W : World} {v : Value} {l y : List Nat} {A : Option Addr} (m c : Nat) (hv : OwnY B W v l) (hB : B ≤ W.heap.size) (hs : Src W A (bts y)) (hm : y.length = m) (hlm : l.length + m ≤ 1000000000) :
    ∃ A' c' W', (Builtin.append_ #[30, 30] 30 #[v, .slice A m c]).run Try.prog W = .ok (.slice A' (l.length + m) c') W' ∧ OwnY B W' (.slice A' (l.length + m) c') (l ++ y) ∧ Below B W W' ∧ Only (fun k => v.ownBlock = some k) W W' ∧ ((Value.slice A' (l.length + m) c').ownBlock = v.ownBlock ∨ (Value.slice A' (l.length + m) c').ownBlock = some W.heap.size) := by
  obtain ⟨i0, hi, hi0, hi1, hi2⟩ := info5_parts
  subst hm
  have key : ∃ v' W', (Builtin.append_ #[30, 30] 30 #[v, .slice A y.length c]).run Try.prog W = .ok v' W' ∧ W'.ownsRow B 5 1 v' (l.length + y.length) (bts l ++ bts y) ∧ W.grownBy W' v.ownBlock ∧ (v'.ownBlock = v.ownBlock ∨ v'.ownBlock = some W.heap.size) := by
    cases A with
    | none =>
      have h0 : y.length = 0 := by
        rcases Nat.eq_zero_or_pos y.length with h0 | h0
        · exact h0
        · obtain ⟨ad, h1, _⟩ := hs (by rw [length_bts]; exact h0)
          cases h1
      have e : y = [] := List.eq_nil_of_length_eq_zero h0
      subst e
      refine ⟨v, W, ?_, (by have h := hv; unfold OwnY at h; simpa [bts] using h), World.grownBy.refl _ _, .inl rfl⟩
      rcases hv.2 with ⟨rfl, h9⟩ | ⟨g, cap, cur, rfl, _, _, hnc, _⟩
      · rw [h9] at *
        simp [Builtin.append_, run_underlying Try.underlying30, sizeOf, typeInfo, hi, Builtin.lenOf, Builtin.firstCells]
      · simp [Builtin.append_, run_underlying Try.underlying30, sizeOf, typeInfo, hi, Builtin.lenOf, Builtin.firstCells, hnc, storeCells]
    | some ad =>
      obtain ⟨v', w', hrun, h2, h3, _, h5⟩ := run_append_own_at (P := Try.prog) W B 30 30 5 i0 _ 1 1 Try.underlying30 hi hi0 hi1 hi2 rfl (by omega) v l.length (bts l) hv ad y.length c (bts y) (by rw [length_bts, Nat.mul_one]) (fun j u hu => by
        have h0 : 0 < (bts y).length := by have := (List.getElem?_eq_some_iff.1 hu).1; omega
        obtain ⟨ad2, h1, h2⟩ := hs h0
        injection h1 with h1
        subst h1
        exact h2 j u hu) (bts_one y) (by unfold maxLen; omega) (by omega) hB
      exact ⟨v', w', hrun, h2, h3, h5⟩
  obtain ⟨v', W', h1, h2, h3, h4⟩ := key
  have hon := (Only.refl (fun k => v.ownBlock = some k) W).grown h3 (fun k hk => .inl hk)
  have ho : OwnY B W' v' (l ++ y) := by unfold OwnY; rw [List.length_append, bts_append]; exact h2
  obtain ⟨A', c', rfl, _⟩ := ho.form
  rw [List.length_append] at *
  exact ⟨A', c', W', h1, ho, own_only_below hv hon hB, hon, h4⟩

set_option maxRecDepth 100000 in
set_option maxHeartbeats 400000 in
theorem behind1_any {B pb : Nat} {v : Value} {l y : List Nat} {A : Option Addr} (k : Int) (m c : Nat) (w : World) (hp : Row w pb 30 #[v]) (hpb : B ≤ pb) (hv : OwnY B w v l) (hB : B ≤ w.heap.size) (hs : Src w A (bts y)) (hm : y.length = m) (hlm : l.length + m ≤ 1000000000) :
    Calls Try.prog 327 #[.int .i64 k, .slice A m c, .pointer (some ⟨pb, 0, none⟩)] w fun e w' => e = .returned (.bool true) ∧ ∃ v', Row w' pb 30 #[v'] ∧ OwnY B w' v' (l ++ y) ∧ Below B w w' := by
  obtain ⟨A', c', W', hrun, hown, hbl, hon, hat⟩ := app_bytes m c hv hB hs hm hlm
  obtain ⟨A0, c0, rfl, _⟩ := hv.form
  have hap := own_apart hv hp (by decide)
  have hcp : w.cell? ⟨pb, 0, none⟩ = some (.slice A0 l.length c0) := hp.read rfl
  have hp2 : Row W' pb 30 #[.slice A0 l.length c0] := hp.only hon hap
  have hcp2 := hp2.free 0
  have hcp3 : W'.cell? ⟨pb, 0, none⟩ = some (.slice A0 l.length c0) := hp2.read rfl
  have hap2 := own_apart hown hp2 (by decide)
  have HE := Lib.hid (show ∃ v', Row (W'.setCell ⟨pb, 0, none⟩ (.slice A' (l.length + m) c')) pb 30 #[v'] ∧ OwnY B (W'.setCell ⟨pb, 0, none⟩ (.slice A' (l.length + m) c')) v' (l ++ y) ∧ Below B w (W'.setCell ⟨pb, 0, none⟩ (.slice A' (l.length + m) c')) from
    ⟨_, hp2.written 0 _, hown.only ((Only.refl (fun k => k = pb) W').set (p := ⟨pb, 0, none⟩) (.inl rfl) _) (fun k hk e => by subst e; exact hap2 hk), hbl.trans ((Below.refl _ _).setCell hpb _)⟩)
  clear hown hbl hon hat hap hp2 hap2 hp hv hs hm
  generalize l.length + m = n2 at *
  generalize l.length = n1 at *
  go_enter Try.func327, Try.ntmps327
  go_wp2_with (at_builtin; refine wpList_run rfl (.tmp 6) (.tmp 7) 30 rfl (.slice A0 n1 c0) (.slice A m c) (by rfl) (by rfl) hrun ?_)
  go_ret
  exact ⟨rfl, HE.out⟩

/-- the first k fields' bytes -/
def flatTo (L : List RowB) (k : Nat) : List Nat := ((texts L).take k).flatten
def flat (L : List RowB) : List Nat := (texts L).flatten
theorem flatTo_zero (L : List RowB) : flatTo L 0 = [] := by simp [flatTo]
theorem flatTo_all {L : List RowB} {n : Nat} (h : L.length = n) : flatTo L n = flat L := by
  unfold flatTo flat
  rw [List.take_of_length_le (by rw [length_texts]; omega)]
theorem flatTo_succ {L : List RowB} {k : Nat} {r : RowB} (h : L[k]? = some r) : flatTo L (k + 1) = flatTo L k ++ r.bs := by
  have h1 := texts_at h
  obtain ⟨hk, h2⟩ := List.getElem?_eq_some_iff.1 h1
  unfold flatTo
  rw [List.take_succ_eq_append_getElem hk, List.flatten_append, h2]
  simp
theorem length_flatTo (L : List RowB) (k : Nat) : (flatTo L k).length = sumTo (lens L) k := by
  induction k with
  | zero => simp [flatTo, sumTo]
  | succ k ih =>
    rcases Nat.lt_or_ge k L.length with h | h
    · have h1 : L[k]? = some L[k] := List.getElem?_eq_getElem h
      rw [flatTo_succ h1, sumTo_succ (lens_at h1), List.length_append, ih]
    · have h2 : flatTo L (k + 1) = flatTo L k := by
        unfold flatTo
        rw [List.take_of_length_le (by rw [length_texts]; omega), List.take_of_length_le (by rw [length_texts]; omega)]
      have h3 : sumTo (lens L) (k + 1) = sumTo (lens L) k := by
        unfold sumTo
        rw [List.take_of_length_le (by rw [length_lens]; omega), List.take_of_length_le (by rw [length_lens]; omega)]
      rw [h2, h3, ih]
theorem length_flat (L : List RowB) : (flat L).length = (lens L).sum := by
  rw [← flatTo_all rfl, length_flatTo, ← length_lens, sumTo_all]

theorem each_behind {B pb n cap : Nat} {v : Value} {l : List Nat} {A : Option Addr} {L : List RowB} (w : World) (hL : L.length = n) (hn : n ≤ 9223372036854775807) (hs : ∀ W, Below B w W → RSrc W A L) (hp : Row w pb 30 #[v]) (hpb : B ≤ pb) (hv : OwnY B w v l) (hB : B ≤ w.heap.size) (hm : l.length + (lens L).sum ≤ 1000000000) :
    Calls Try.prog 290 #[.slice A n cap, .func (.func 327) #[] #[.pointer (some ⟨pb, 0, none⟩)]] w fun e w' => e = .returned (.bool true) ∧ ∃ v', Row w' pb 30 #[v'] ∧ OwnY B w' v' (l ++ flat L) ∧ Below B w w' := by
  refine (each_any (K := 327) (caps := #[.pointer (some ⟨pb, 0, none⟩)]) n cap (fun a W => enters Try.func327 (by kernel_rfl) rfl a W) (fun k W => ∃ v', Row W pb 30 #[v'] ∧ OwnY B W v' (l ++ flatTo L k) ∧ Below B w W) (fun _ => False) w hL hn
    ⟨v, hp, by rw [flatTo_zero, List.append_nil]; exact hv, Below.refl _ _⟩ (fun k W h => by obtain ⟨_, _, _, h⟩ := h; exact hs W h) (fun k W r hr h => ?_)).mono ?_
  · obtain ⟨v1, h1, h2, h3⟩ := h
    have hk : k < n := by rw [← hL]; exact (List.getElem?_eq_some_iff.1 hr).1
    obtain ⟨ad, rfl, hc⟩ := hs W h3 (by omega)
    have hle := sumTo_le (lens L) (k + 1)
    rw [sumTo_succ (lens_at hr)] at hle
    refine (behind1_any (k : Int) r.bs.length r.cap W h1 hpb h2 (Nat.le_trans hB h3.size) (hc k r hr).2.1 rfl (by rw [List.length_append, length_flatTo]; omega)).mono ?_
    rintro e W2 ⟨rfl, v2, g1, g2, g3⟩
    exact .inl ⟨rfl, v2, g1, by rw [flatTo_succ hr, ← List.append_assoc]; exact g2, h3.trans g3⟩
  · rintro e W (⟨rfl, v', h1, h2, h3⟩ | ⟨_, h⟩)
    · rw [flatTo_all hL] at h2
      exact ⟨rfl, v', h1, h2, h3⟩
    · exact h.elim
set_option maxHeartbeats 400000 in
theorem behind_any {B : Nat} {v : Value} {l : List Nat} {A : Option Addr} {L : List RowB} (n cap : Nat) (w : World) (hL : L.length = n) (hn : n ≤ 9223372036854775807) (hs : ∀ W, Below B w W → RSrc W A L) (hv : OwnY B w v l) (hB : B ≤ w.heap.size) (hm : l.length + (lens L).sum ≤ 1000000000) :
    Calls Try.prog 287 #[v, .slice A n cap] w fun e w' => ∃ v', e = .returned v' ∧ OwnY B w' v' (l ++ flat L) ∧ Below B w w' := by
  obtain ⟨A0, c0, rfl, _⟩ := hv.form
  have HE := Lib.hid (fun W (hb : Below w.heap.size w W) (x : Row W w.heap.size 30 #[.slice A0 l.length c0]) => each_behind (B := B) (cap := cap) W hL hn (fun W' hb' => hs W' ((hb.mono hB).trans hb')) x hB (hv.later hb) (Nat.le_trans hB hb.size) hm)
  clear hL hs hv hm
  generalize l.length = n1 at *
  go_enter Try.func287, Try.ntmps287
  go_wp2_with (go_at_call 290; refine (HE.out _ (bl_alloc (Below.refl _ _) _) (Row.made _ _ _)).mono ?_; rintro e w2 ⟨rfl, v', h1, h2, h3⟩; have hc := h1.read (i := 0) rfl; obtain ⟨A2, c2, hv2, _⟩ := h2.form; generalize (l ++ flat L).length = n2 at hv2; subst hv2; (have H2 := Lib.hid h2; have H3 := Lib.hid h3; clear h2 h3))
  go_ret
  exact ⟨_, rfl, H2.out, ((bl_alloc (Below.refl _ _) _).mono hB).trans H3.out⟩

theorem make_cap (n : Nat) (h : n ≤ 1000000) (w : World) :
    (Instr.makeSlice 30 (.int .i64 0) (.int .i64 (n : Int))).run Try.prog w = .ok (.slice (some ⟨w.heap.size, 0, none⟩) 0 n) (w.alloc (.cells (zeros n).toArray 5)) := by
  obtain ⟨i, hi, hz, hs, hb⟩ := info5_parts
  have h := run_make (P := Try.prog) w 30 5 i _ Try.underlying30 hi hz .i64 .i64 0 n (Int.le_refl _) (by omega) (by rw [hb]; omega) (by omega)
  rw [h, hs, Nat.mul_one, Int.toNat_natCast, ← made_zeros]
  rfl
theorem own_cap (n : Nat) (h : n ≤ 1000000) (w : World) (B : Nat) (hB : B ≤ w.heap.size) : OwnY B (w.alloc (.cells (zeros n).toArray 5)) (.slice (some ⟨w.heap.size, 0, none⟩) 0 n) [] :=
  ⟨by simp [bts], .inr ⟨w.heap.size, n, _, rfl, hB, heap_alloc_new _ _, Nat.zero_le _, by unfold maxLen; omega, by simp [zeros], by simp [bts]⟩⟩

set_option maxHeartbeats 400000 in
theorem join1_any {pb : Nat} {s : Int} {A : Option Addr} (k : Int) (m c : Nat) (w : World) (hp : Row w pb 3 #[.int .i64 s]) (h0 : 0 ≤ s) (h1 : s ≤ 1000000) (hm : m ≤ 1000000) :
    Calls Try.prog 295 #[.int .i64 k, .slice A m c, .pointer (some ⟨pb, 0, none⟩)] w fun e w' => e = .returned (.bool true) ∧ Row w' pb 3 #[.int .i64 (s + m)] ∧ Only (fun b => b = pb) w w' := by
  have hc : w.cell? ⟨pb, 0, none⟩ = some (.int .i64 s) := hp.read rfl
  have hf := hp.free 0
  have HROW := Lib.hid (hp.written 0 (.int .i64 (s + m)))
  have HON := Lib.hid ((Only.refl (fun b => b = pb) w).set (p := ⟨pb, 0, none⟩) (.inl rfl) (.int .i64 (s + m)))
  clear hp
  go_enter Try.func295, Try.ntmps295
  go_wp2
  go_ret
  exact ⟨rfl, HROW.out, HON.out⟩
theorem each_join {B pb n cap : Nat} {A : Option Addr} {L : List RowB} (w : World) (hL : L.length = n) (hn : n ≤ 9223372036854775807) (hs : ∀ W, Below B w W → RSrc W A L) (hp : Row w pb 3 #[.int .i64 0]) (hpb : B ≤ pb) (hB : B ≤ w.heap.size) (hm : (lens L).sum ≤ 1000000) :
    Calls Try.prog 290 #[.slice A n cap, .func (.func 295) #[] #[.pointer (some ⟨pb, 0, none⟩)]] w fun e w' => e = .returned (.bool true) ∧ Row w' pb 3 #[.int .i64 (((lens L).sum : Nat) : Int)] ∧ Below B w w' := by
  refine (each_any (K := 295) (caps := #[.pointer (some ⟨pb, 0, none⟩)]) n cap (fun a W => enters Try.func295 (by kernel_rfl) rfl a W) (fun k W => Row W pb 3 #[.int .i64 ((sumTo (lens L) k : Nat) : Int)] ∧ Below B w W) (fun _ => False) w hL hn
    ⟨by rw [sumTo_zero]; exact hp, Below.refl _ _⟩ (fun k W h => hs W h.2) (fun k W r hr h => ?_)).mono ?_
  · obtain ⟨h2, h3⟩ := h
    have hle := sumTo_le (lens L) (k + 1)
    rw [sumTo_succ (lens_at hr)] at hle
    refine (join1_any (k : Int) r.bs.length r.cap W h2 (by omega) (by omega) (by omega)).mono ?_
    rintro e W2 ⟨rfl, g1, g2⟩
    refine .inl ⟨rfl, ?_, h3.trans (only_below g2 hpb (Nat.le_trans hB h3.size))⟩
    rw [sumTo_succ (lens_at hr)]
    have e9 : ((sumTo (lens L) k + r.bs.length : Nat) : Int) = (sumTo (lens L) k : Int) + (r.bs.length : Int) := by omega
    rw [e9]
    exact g1
  · rintro e W (⟨rfl, h2, h3⟩ | ⟨_, h⟩)
    · have e9 : sumTo (lens L) n = (lens L).sum := by rw [← hL, ← length_lens, sumTo_all]
      rw [e9] at h2
      exact ⟨rfl, h2, h3⟩
    · exact h.elim
set_option maxHeartbeats 800000 in
theorem join_any {A : Option Addr} {L : List RowB} (n cap : Nat) (w : World) (hL : L.length = n) (hn : n ≤ 9223372036854775807) (hs : RSrc w A L) (hm : (lens L).sum ≤ 1000000) :
    Calls Try.prog 188 #[.slice A n cap] w fun e w' => ∃ v', e = .returned v' ∧ OwnY w.heap.size w' v' (flat L) ∧ Below w.heap.size w w' := by
  have HE := Lib.hid (fun W (hb : Below w.heap.size w W) x => each_join (pb := w.heap.size) (B := w.heap.size) (cap := cap) W hL hn (fun W' hb' => hs.later (hb.trans hb')) x (Nat.le_refl _) hb.size hm)
  have HM := make_cap (lens L).sum hm
  have HC := Lib.hid (fun W => own_cap (lens L).sum hm W w.heap.size)
  have HBH := Lib.hid (fun W v (hb : Below w.heap.size w W) hv => behind_any (B := w.heap.size) (l := []) n cap (v := v) W hL hn (fun W' hb' => hs.later (hb.trans hb')) hv hb.size (by simpa using (by omega : (lens L).sum ≤ 1000000000)))
  have hs0 : (0 : Int) ≤ (((lens L).sum : Nat) : Int) := by omega
  clear hL hs hm
  generalize (lens L).sum = q at *
  go_enter Try.func188, Try.ntmps188
  go_wp2_with (first
    | (go_at_call 290; refine (HE.out _ (bl_alloc (Below.refl _ _) _) (Row.made _ _ _)).mono ?_; rintro e w2 ⟨rfl, h2, h3⟩; have hc := h2.read (i := 0) rfl; (have H3 := Lib.hid ((bl_alloc (Below.refl _ _) _).trans h3); clear h2 h3))
    | (go_at_call 287; refine (HBH.out _ _ (bl_alloc H3.out _) (HC.out w2 H3.out.size)).mono ?_; rintro e w4 ⟨v', rfl, h4, h5⟩; rw [List.nil_append] at h4; obtain ⟨A2, c2, hv2, _⟩ := h4.form; generalize (flat L).length = n2 at hv2; subst hv2; (have H4 := Lib.hid h4; have H5 := Lib.hid h5; clear h4 h5)))
  go_ret
  exact ⟨_, rfl, H4.out, (bl_alloc H3.out _).trans H5.out⟩
end Go.Proofs.Ytgdpjaojlhdhdaa
