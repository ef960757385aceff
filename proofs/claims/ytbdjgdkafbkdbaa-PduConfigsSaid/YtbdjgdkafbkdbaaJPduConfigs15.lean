/-
  How many bytes fields have; whether two are equal. StatusBack: the law walked.
-/
import Derived.Test.YtbdjgdkafbkdbaaJPduConfigs12
import Derived.Laws.Strings
namespace Go.Proofs.Ytbdjgdkafbkdbaa
open Go.RowKit


theorem longest_b (b : Bool) (w : World) : Calls Try.prog 200 #[.bool b] w fun e w' => e = .returned (.int .i64 (if b then 4000 else 2047)) ∧ w = w' := by
  cases b
  · go_enter Try.func200, Try.ntmps200
    go_wp2
    go_ret
    exact ⟨rfl, rfl⟩
  · go_enter Try.func200, Try.ntmps200
    go_wp2
    go_ret
    exact ⟨rfl, rfl⟩

/-- a field's length is added, if it may be -/
def Size1 (n k m ps : Nat) (sz : Int) (w : World) (e : Ending) (w' : World) : Prop :=
  (okAt n k m = true ∧ e = .returned (.bool true) ∧ Row w' ps 3 #[.int .i64 (sz + m)] ∧ Only (fun b => b = ps) w w') ∨ (okAt n k m = false ∧ e = .returned (.bool false) ∧ w = w')
set_option maxRecDepth 100000 in
set_option maxHeartbeats 1600000 in
theorem size1_any {pl ps n cap : Nat} {A Af : Option Addr} {sz : Int} (k m c : Nat) (w : World) (hl : Row w pl 57 #[.slice A n cap]) (hs : Row w ps 3 #[.int .i64 sz]) (hk : k < n) (hn : n ≤ 24) (h0 : 0 ≤ sz) (h1 : sz ≤ 1000000) (hm : m ≤ 9223372036854775807) :
    Calls Try.prog 199 #[.int .i64 k, .slice Af m c, .pointer (some ⟨pl, 0, none⟩), .pointer (some ⟨ps, 0, none⟩)] w (Size1 n k m ps sz w) := by
  have hcl : w.cell? ⟨pl, 0, none⟩ = some (.slice A n cap) := hl.read rfl
  have hcs : w.cell? ⟨ps, 0, none⟩ = some (.int .i64 sz) := hs.read rfl
  have hfs := hs.free 0
  have HROW := Lib.hid (hs.written 0 (.int .i64 (sz + m)))
  have HON := Lib.hid ((Only.refl (fun b => b = ps) w).set (p := ⟨ps, 0, none⟩) (.inl rfl) (.int .i64 (sz + m)))
  clear hs hl
  rcases Nat.eq_zero_or_pos m with hm0 | hm0
  · have HF := Lib.hid (show okAt n k m = false by unfold okAt; rw [decide_eq_false (by omega)]; rfl)
    subst hm0
    go_enter Try.func199, Try.ntmps199
    go_wp2
    go_ret
    exact .inr ⟨HF.out, rfl, rfl⟩
  · have hm1 : ¬ (m : Int) < 1 := by omega
    have hn1 : (1 : Int) ≤ n := by omega
    by_cases hl : k + 1 = n
    · have hb : ((k : Int) == (n : Int) - 1) = true := by simp; omega
      rcases Nat.lt_or_ge 4000 m with h4 | h4
      · have HF := Lib.hid (show okAt n k m = false by unfold okAt; rw [if_pos hl, decide_eq_false (show ¬ m ≤ 4000 by omega)]; simp)
        have h4' : (4000 : Int) < m := by omega
        clear hl
        go_enter Try.func199, Try.ntmps199
        go_wp2_with (go_at_call 200; refine (longest_b true _).mono ?_; rintro e w1 ⟨rfl, rfl⟩)
        go_ret
        exact .inr ⟨HF.out, rfl, rfl⟩
      · have HF := Lib.hid (show okAt n k m = true by unfold okAt; rw [if_pos hl, decide_eq_true h4, decide_eq_true (show 1 ≤ m by omega)]; rfl)
        have h4' : ¬ (4000 : Int) < m := by omega
        clear hl
        go_enter Try.func199, Try.ntmps199
        go_wp2_with (go_at_call 200; refine (longest_b true _).mono ?_; rintro e w1 ⟨rfl, rfl⟩)
        go_ret
        exact .inl ⟨HF.out, rfl, HROW.out, HON.out⟩
    · have hb : ((k : Int) == (n : Int) - 1) = false := by simp; omega
      rcases Nat.lt_or_ge 2047 m with h4 | h4
      · have HF := Lib.hid (show okAt n k m = false by unfold okAt; rw [if_neg hl, decide_eq_false (show ¬ m ≤ 2047 by omega)]; simp)
        have h4' : (2047 : Int) < m := by omega
        clear hl
        go_enter Try.func199, Try.ntmps199
        go_wp2_with (go_at_call 200; refine (longest_b false _).mono ?_; rintro e w1 ⟨rfl, rfl⟩)
        go_ret
        exact .inr ⟨HF.out, rfl, rfl⟩
      · have HF := Lib.hid (show okAt n k m = true by unfold okAt; rw [if_neg hl, decide_eq_true h4, decide_eq_true (show 1 ≤ m by omega)]; rfl)
        have h4' : ¬ (2047 : Int) < m := by omega
        clear hl
        go_enter Try.func199, Try.ntmps199
        go_wp2_with (go_at_call 200; refine (longest_b false _).mono ?_; rintro e w1 ⟨rfl, rfl⟩)
        go_ret
        exact .inl ⟨HF.out, rfl, HROW.out, HON.out⟩

/-- .. while fields are gone through -/
structure SizeInv (B pl ps n cap : Nat) (A : Option Addr) (sz : Int) (ls : List Nat) (w : World) (k : Nat) (w' : World) : Prop where
  box : Row w' pl 57 #[.slice A n cap]
  sum : Row w' ps 3 #[.int .i64 (sz + sumTo ls k)]
  ok : okTo ls k = true
  below : Below B w w'
theorem only_below {B : Nat} {w w' : World} {p : Nat} (h : Only (fun b => b = p) w w') (hp : B ≤ p) (hB : B ≤ w.heap.size) : Below B w w' := h.below hB (fun k hk hk' => by omega)
theorem each_size {A : Option Addr} {L : List RowB} {B pl ps n cap : Nat} {sz : Int} (w : World) (hL : L.length = n) (hn : n ≤ 24) (hs : ∀ W, Below B w W → RSrc W A L) (hm : ∀ m ∈ lens L, m ≤ 9223372036854775807) (hz0 : 0 ≤ sz) (hz1 : sz ≤ 46)
    (hB : B ≤ w.heap.size) (hps : B ≤ ps) (hne : ps ≠ pl) (h1 : Row w pl 57 #[.slice A n cap]) (h2 : Row w ps 3 #[.int .i64 sz]) :
    Calls Try.prog 198 #[.slice A n cap, .func (.func 199) #[] #[.pointer (some ⟨pl, 0, none⟩), .pointer (some ⟨ps, 0, none⟩)]] w fun e w' =>
      (e = .returned (.bool true) ∧ SizeInv B pl ps n cap A sz (lens L) w n w') ∨ (e = .returned (.bool false) ∧ okTo (lens L) n = false ∧ Below B w w') := by
  have hll : (lens L).length = n := by rw [length_lens, hL]
  refine each_any (K := 199) (caps := #[.pointer (some ⟨pl, 0, none⟩), .pointer (some ⟨ps, 0, none⟩)]) n cap (.inl rfl)
        (SizeInv B pl ps n cap A sz (lens L) w) (fun W' => okTo (lens L) n = false ∧ Below B w W') w hL (by omega)
        ⟨h1, by rw [sumTo_zero]; simpa using h2, okTo_zero _, Below.refl _ _⟩ (fun k W' hi => hs W' hi.below)
        (fun k W' r hr hi => ?_)
  have hk : k < n := by rw [← hL]; exact (List.getElem?_eq_some_iff.1 hr).1
  have hm9 : r.bs.length ≤ 9223372036854775807 := hm _ (List.mem_of_getElem? (lens_at hr))
  have hst := sumTo_bound hi.ok (by rw [hll]; omega)
  have hB' : B ≤ W'.heap.size := Nat.le_trans hB hi.below.size
  refine (size1_any (Af := r.A) (c := r.cap) k r.bs.length W' hi.box hi.sum hk hn (by omega) (by omega) hm9).mono ?_
  rintro e W2 (⟨g1, rfl, g2, g3⟩ | ⟨g1, rfl, rfl⟩)
  · refine .inl ⟨rfl, hi.box.only g3 (fun h => hne h.symm), ?_, ?_, hi.below.trans (only_below g3 hps hB')⟩
    · rw [sumTo_succ (lens_at hr)]
      have e9 : sz + ((sumTo (lens L) k + r.bs.length : Nat) : Int) = sz + (sumTo (lens L) k : Int) + (r.bs.length : Int) := by omega
      rw [e9]
      exact g2
    · rw [okTo_at (lens_at hr) hi.ok, hll, g1]
  · refine .inr ⟨rfl, ?_, hi.below⟩
    refine okTo_later (k := k + 1) ?_ (by omega)
    rw [okTo_at (lens_at hr) hi.ok, hll, g1]

set_option maxRecDepth 100000 in
set_option maxHeartbeats 1600000 in
theorem fsize_any {A : Option Addr} {L : List RowB} (n cap : Nat) (wd : Int) (w : World) (hL : L.length = n) (hn : n ≤ 9223372036854775807) (hs : RSrc w A L) (hm : ∀ m ∈ lens L, m ≤ 9223372036854775807) :
    Calls Try.prog 188 #[.slice A n cap, .int .i64 wd] w fun e w' => e = .returned (.int .i64 (szF (lens L) wd)) ∧ Below w.heap.size w w' := by
  have hll : (lens L).length = n := by rw [length_lens, hL]
  rcases Nat.eq_zero_or_pos n with h0 | h0
  · have HF := Lib.hid (show szF (lens L) wd = 0 by unfold szF; rw [if_neg (by omega)])
    subst h0
    clear hL hll hs hm
    go_enter Try.func188, Try.ntmps188
    go_wp2
    go_ret
    exact ⟨by rw [HF.out]; rfl, bl_alloc (Below.refl _ _) _⟩
  · have h0' : ¬ (n : Int) < 1 := by omega
    rcases Nat.lt_or_ge 24 n with h1 | h1
    · have HF := Lib.hid (show szF (lens L) wd = 0 by unfold szF; rw [if_neg (by omega)])
      have h1' : (24 : Int) < n := by omega
      clear hL hll hs hm
      go_enter Try.func188, Try.ntmps188
      go_wp2
      go_ret
      exact ⟨by rw [HF.out]; rfl, bl_alloc (Below.refl _ _) _⟩
    · have h1' : ¬ (24 : Int) < n := by omega
      have HF := Lib.hid (show szF (lens L) wd = if okTo (lens L) n = true then sizeF ((n : Int) - 1) wd + (lens L).sum else 0 by
        unfold szF
        rw [hll]
        by_cases h9 : okTo (lens L) n = true
        · rw [if_pos ⟨by omega, by omega, h9⟩, if_pos h9]
        · rw [if_neg (fun h => h9 h.2.2), if_neg h9])
      have HZ := Lib.hid (fun W => size_any ((n : Int) - 1) wd W)
      have hz := sizeF_nonneg ((n : Int) - 1) wd
      generalize sizeF ((n : Int) - 1) wd = sz at *
      obtain ⟨hz0, hz1⟩ := hz
      have HSUM := Lib.hid (show sumTo (lens L) n = (lens L).sum by rw [← hll]; exact sumTo_all _)
      have HE := Lib.hid (fun W hb (x1 : Row W w.heap.size 57 #[.slice A n cap]) x2 => each_size (B := w.heap.size) (pl := w.heap.size) (ps := w.heap.size + 1) (cap := cap) (sz := sz) W hL h1 (fun W' hb' => hs.later (Below.trans hb hb')) hm hz0 hz1 (Below.size hb) (by omega) (by omega) x1 x2)
      clear hL hll hs hm
      go_enter Try.func188, Try.ntmps188
      go_wp2_with (first
        | (go_at_call 137; refine (HZ.out _).mono ?_; rintro e w1 ⟨rfl, rfl⟩)
        | (go_at_call 198; refine (HE.out _ ?b ?x1 ?x2).mono ?_; rotate_left 3; rintro e w2 (⟨rfl, hi⟩ | ⟨rfl, hi, hb⟩); (have hc := hi.sum.read (i := 0) rfl; have HI := Lib.hid hi; clear hi); rotate_left 1; (have HI := Lib.hid hi; have HB := Lib.hid hb; clear hi hb); rotate_left 1))
      case b => exact bl_alloc (bl_alloc (Below.refl _ _) _) _
      case x1 => exact (Row.made _ _ _).more _
      case x2 => exact (by simpa using Row.made (w.alloc (.cells #[.slice A n cap] 57)) 3 #[.int .i64 sz])
      · go_ret
        refine ⟨?_, (bl_alloc (bl_alloc (Below.refl _ _) _) _).trans HI.out.below⟩
        rw [HF.out, if_pos HI.out.ok, ← HSUM.out]
        rfl
      · go_ret
        refine ⟨?_, (bl_alloc (bl_alloc (Below.refl _ _) _) _).trans HB.out⟩
        rw [HF.out, if_neg (by rw [HI.out]; decide)]
        rfl

theorem conv_src {w : World} {A : Option Addr} {l : List Nat} (n c : Nat) (hl : l.length = n) (h : Src w A (bts l)) (hb : ∀ b ∈ l, b < 256) : (convert 61 9 (.slice A n c)).run Try.prog w = .ok (.string (strOf l)) w := by
  subst hl
  cases A with
  | none =>
    have hl : l.length = 0 := by
      rcases Nat.eq_zero_or_pos l.length with h0 | h0
      · exact h0
      · obtain ⟨ad, h1, _⟩ := h (by rw [length_bts]; exact h0)
        cases h1
    have e : l = [] := List.eq_nil_of_length_eq_zero hl
    subst e
    exact run_convert_bytes_nil w 61 5 Try.underlying61 Try.underlying5 0 c 9 Try.underlying9
  | some ad =>
    have hx := run_convert_bytes_back (P := Try.prog) w 61 9 5 ad c (l.map UInt8.ofNat) Try.underlying61 Try.underlying5 Try.underlying9 (fun j hj => by
      have hj' : j < l.length := by simpa using hj
      have h1 : (bts l)[j]? = some (.int .u8 (l[j] : Nat)) := bts_at (List.getElem?_eq_getElem hj')
      obtain ⟨ad', h2, h3⟩ := h (by rw [length_bts]; omega)
      injection h2 with h2
      subst h2
      rw [h3 j _ h1, List.getElem_map]
      have h4 : (UInt8.ofNat l[j]).toNat = l[j] := UInt8.toNat_ofNat_of_lt' (hb _ (List.getElem_mem hj'))
      rw [h4])
    rw [List.length_map] at hx
    exact hx
theorem strOf_inj {a b : List Nat} (ha : ∀ x ∈ a, x < 256) (hb : ∀ x ∈ b, x < 256) (h : strOf a = strOf b) : a = b := by
  unfold strOf at h
  injection h with h
  have h1 : a.map UInt8.ofNat = b.map UInt8.ofNat := by
    have := congrArg Array.toList h
    simpa using this
  have h2 := congrArg (List.map UInt8.toNat) h1
  rw [List.map_map, List.map_map] at h2
  have e : ∀ l : List Nat, (∀ x ∈ l, x < 256) → l.map (UInt8.toNat ∘ UInt8.ofNat) = l := fun l hl => by
    have : l.map (UInt8.toNat ∘ UInt8.ofNat) = l.map id := List.map_congr_left fun x hx => UInt8.toNat_ofNat_of_lt' (hl x hx)
    rw [this, List.map_id]
  rw [e a ha, e b hb] at h2
  exact h2
theorem strOf_list (a : List Nat) : (strOf a).toList = a.map UInt8.ofNat := ByteArray.toList_mk _
theorem strOf_beq {a b : List Nat} (ha : ∀ x ∈ a, x < 256) (hb : ∀ x ∈ b, x < 256) : ((strOf a).toList == (strOf b).toList) = decide (a = b) := by
  rw [Bool.eq_iff_iff, decide_eq_true_iff, beq_iff_eq]
  refine ⟨fun h => strOf_inj ha hb ?_, fun h => by rw [h]⟩
  rw [strOf_list, strOf_list] at h
  unfold strOf
  rw [h]
/-- fields are the same so far -/
def sameTo (a b : List (List Nat)) (k : Nat) : Prop := ∀ j, j < k → a[j]? = b[j]?
theorem texts_at {L : List RowB} {k : Nat} {r : RowB} (h : L[k]? = some r) : (texts L)[k]? = some r.bs := by simp [texts, h]
theorem length_texts (L : List RowB) : (texts L).length = L.length := by simp [texts]
theorem sameTo_all {a b : List (List Nat)} (hl : a.length = b.length) (h : sameTo a b a.length) : a = b := by
  apply List.ext_getElem?
  intro j
  rcases Nat.lt_or_ge j a.length with h1 | h1
  · exact h j h1
  · rw [List.getElem?_eq_none h1, List.getElem?_eq_none (by omega)]
theorem ret_b {a b : Bool} (h : a = b) : Ending.returned (.bool a) = .returned (.bool b) := by rw [h]
end Go.Proofs.Ytbdjgdkafbkdbaa
namespace Go.Proofs.Ytbdjgdkafbkdbaa
open Go.RowKit

theorem eqMs_refl (L : List MissM) : eqMs L L = true := by
  induction L with
  | nil => rfl
  | cons m t ih => simp [eqMs, ih, (eqM_iff m m).2 rfl]
theorem sread_yes {A : Option Addr} {bs : List Nat} {M : List MissM} {a : Int} (x n cap : Nat) (w : World) (hn : bs.length = n) (hm : n ≤ 8192) (hc : n ≤ cap) (hs : Src w A (bts bs)) (hb : ∀ b ∈ bs, b < 256) (h : stRd bs x = (0, a, M)) :
    Calls Try.prog 60 #[.slice A n cap, .int .i64 x] w fun e w' => ∃ A' c, e = .returned (.tuple #[.agg #[.int .i64 a, .slice A' M.length c], .int .i64 0]) ∧ M.length ≤ c ∧ c ≤ 9223372036854775807 ∧ MSrc w' A' M ∧ Below w.heap.size w w' := by
  refine (sread_any x n cap w hn hm hc hs hb).mono ?_
  rintro e w' ⟨h1, h2, _⟩
  rw [h] at h2
  obtain ⟨A', c, e1, e2, e3, e4⟩ := h2 rfl
  exact ⟨A', c, e1, e2, e3, e4, h1⟩
theorem sread_err {A : Option Addr} {bs : List Nat} {M : List MissM} {a c : Int} (x n cap : Nat) (w : World) (hn : bs.length = n) (hm : n ≤ 8192) (hc : n ≤ cap) (hs : Src w A (bts bs)) (hb : ∀ b ∈ bs, b < 256) (h : stRd bs x = (c, a, M)) (h0 : c ≠ 0) :
    Calls Try.prog 60 #[.slice A n cap, .int .i64 x] w fun e w' => e = .returned (.tuple #[.agg #[.int .i64 0, .slice none 0 0], .int .i64 c]) ∧ Below w.heap.size w w' := by
  refine (sread_any x n cap w hn hm hc hs hb).mono ?_
  rintro e w' ⟨h1, _, h3⟩
  rw [h] at h3
  exact ⟨h3 h0, h1⟩
theorem swrite_zero (x : Nat) (w : World) (hk : okS (x : Int) = true) : Calls Try.prog 52 #[.agg #[.int .i64 0, .slice none 0 0], .int .i64 x] w fun e w' => ∃ g n, e = .returned (.tuple #[.slice (some ⟨g, 0, none⟩) n n, .int .i64 0]) ∧ Below w.heap.size w w' := by
  have hr0 : rightB ((0 : Nat) : Int) [] x = true := by
    rcases okS_nat hk with h | h
    · obtain rfl : x = 10 := by omega
      decide +kernel
    · obtain rfl : x = 16 := by omega
      decide +kernel
  refine (stwrite_ok (A := none) (L := []) 0 x 0 0 w rfl (fun h => absurd h (by decide)) hr0).mono ?_
  rintro e w' ⟨g, rfl, _, _, hb⟩
  exact ⟨g, _, rfl, hb⟩
theorem cells2x {w : World} {g : Nat} {t : TypeId} {a b : Value} (hr : Row w g t #[a, b]) : w.cell? ⟨g, 0, none⟩ = some a ∧ w.cell? ⟨g, 1, none⟩ = some b := ⟨hr.read rfl, hr.read rfl⟩
set_option maxRecDepth 100000 in
set_option maxHeartbeats 1600000 in
theorem sread_kind {A : Option Addr} (x : Int) (n cap : Nat) (w : World) (h : okS x = false) :
    Calls Try.prog 60 #[.slice A n cap, .int .i64 x] w fun e w' => e = .returned (.tuple #[.agg #[.int .i64 0, .slice none 0 0], .int .i64 9]) ∧ Below w.heap.size w w' := by
  have HM := Lib.hid (fun W => smay_any x W)
  rw [h] at HM
  have HF : Calls Try.prog 112 #[.slice A n cap, .int .i64 x] (w.alloc (.cells #[.int .i64 0, .slice none 0 0] 81)) fun e w' => e = .returned (.int .i64 9) ∧ w.alloc (.cells #[.int .i64 0, .slice none 0 0] 81) = w' := by
    generalize w.alloc (.cells #[.int .i64 0, .slice none 0 0] 81) = W
    clear h
    go_enter Try.func112, Try.ntmps112
    go_wp2_with (go_at_call 96; refine (HM.out _).mono ?_; rintro e w1 ⟨rfl, rfl⟩)
    go_ret
    exact ⟨rfl, rfl⟩
  have HFH := Lib.hid HF
  have ROW := Lib.hid (Row.made w 81 #[.int .i64 0, .slice none 0 0])
  obtain ⟨⟨c0, c1⟩, f0, f1⟩ := cells2 ROW.out
  clear h HF
  go_enter Try.func60, Try.ntmps60
  go_wp2
  refine st_scope_through 0 (fun _ _ => False) (fun _ _ => 0) rfl (fun _ => ?_) (fun _ _ h => h.elim)
  go_wp2_with (go_at_call 112; (with_reducible refine HFH.out.mono ?_); rintro e w1 ⟨rfl, rfl⟩)
  simp only [Exit.jump]
  obtain ⟨dd, hdd⟩ := understat_parts
  refine bodyPost_ret (st_results_two rfl _ _ w.heap.size 81 #[.int .i64 0, .slice none 0 0] dd rfl ROW.out hdd Try.infostat) rfl ?_
  exact ⟨rfl, bl_alloc (Below.refl _ _) _⟩
set_option maxRecDepth 100000 in
set_option maxHeartbeats 6400000 in
theorem stback_kind {A Bd : Option Addr} {L : List MissM} {bs : List Nat} (ack : Int) (x : Int) (n cap nb cb : Nat) (w : World) (hn : n ≤ 60) (hL : L.length = n) (_hcap : n ≤ cap) (_hcm : cap ≤ 9223372036854775807) (hs : MSrc w A L) (hnb : nb ≤ 400) (hB : bs.length = nb) (hcb : nb ≤ cb) (hsb : Src w Bd (bts bs)) (hb : ∀ b ∈ bs, b < 256) (hk : okS x = false) :
    Calls Try.prog 6 #[.agg #[.int .i64 ack, .slice A n cap], .slice Bd nb cb, .int .i64 x] w fun e w' => e = .returned (.bool true) ∧ Below w.heap.size w w' := by
  have ROW0 := Lib.hid (Row.made w 81 #[.int .i64 ack, .slice A n cap])
  have HB0 := Lib.hid (bl_alloc (Below.refl w.heap.size w) (.cells #[.int .i64 ack, .slice A n cap] 81))
  have hn60 : ¬ (60 : Int) < n := by omega
  have hnb4 : ¬ (400 : Int) < nb := by omega
  have hn60' : decide ((60 : Int) < n) = false := decide_eq_false hn60
  have hnb4' : decide ((400 : Int) < nb) = false := decide_eq_false hnb4
  have hw : rightB ack L x = false := by unfold rightB; rw [hk]; rfl
  have hw0 : rightB 0 [] x = false := by unfold rightB; rw [hk]; rfl
  have HW1 := Lib.hid (fun W (hb : Below w.heap.size w W) => stwrite_bad ack x n cap W hL (by omega) (hs.later hb) hw)
  have HW2 := Lib.hid (fun W => stwrite_bad (A := none) (L := []) 0 x 0 0 W rfl (by omega) (fun h => absurd h (by decide)) hw0)
  have HRD := Lib.hid (fun W => sread_kind (A := Bd) x nb cb W hk)
  rw [hk] at HW1 HW2
  simp only [Bool.false_eq_true, if_false] at HW1 HW2
  clear hs hsb hb hL hB hk hw hw0 hn hnb hn60 hnb4
  go_enter Try.func6, Try.ntmps6
  go_wp2_with (first
    | (go_at_call 52; (with_reducible refine (HW1.out _ HB0.out).mono ?_); rintro e w1 ⟨rfl, hb1⟩; (have HB1 := Lib.hid (bl_step HB0.out hb1); clear hb1))
    | (go_at_call 60; (with_reducible refine (HRD.out _).mono ?_); rintro e w2 ⟨rfl, hb2⟩; (have HB2 := Lib.hid (bl_step HB1.out hb2); have HB2A := Lib.hid (bl_alloc HB2.out (.cells #[.int .i64 0, .slice none 0 0] 81)); clear hb2))
    | (go_at_call 52; (with_reducible refine (HW2.out _).mono ?_); rintro e w3 ⟨rfl, hb3⟩; (have HB3 := Lib.hid (bl_step HB2A.out hb3); clear hb3))
    | (go_at_call 50; (with_reducible refine (stalive_any _).mono ?_); rintro e w4 ⟨rfl, hb4⟩; (have HB4 := Lib.hid (bl_step HB3.out hb4); clear hb4)))
  go_ret
  exact ⟨rfl, HB4.out⟩
set_option maxRecDepth 100000 in
set_option maxHeartbeats 6400000 in
theorem stback_w1r1 {A Bd : Option Addr} {L : List MissM} {bs : List Nat} (ack : Nat) (x : Nat) (n cap nb cb : Nat) (w : World) (hn : n ≤ 60) (hL : L.length = n) (_hcap : n ≤ cap) (_hcm : cap ≤ 9223372036854775807) (hs : MSrc w A L) (hnb : nb ≤ 400) (hB : bs.length = nb) (hcb : nb ≤ cb) (hsb : Src w Bd (bts bs)) (hb : ∀ b ∈ bs, b < 256) (hk : okS x = true) (hw : rightB ack L x = true) (hr : (stRd bs x).1 = 0) :
    Calls Try.prog 6 #[.agg #[.int .i64 ack, .slice A n cap], .slice Bd nb cb, .int .i64 x] w fun e w' => e = .returned (.bool true) ∧ Below w.heap.size w w' := by
  have ROW0 := Lib.hid (Row.made w 81 #[.int .i64 ack, .slice A n cap])
  have HB0 := Lib.hid (bl_alloc (Below.refl w.heap.size w) (.cells #[.int .i64 ack, .slice A n cap] 81))
  have hn60 : ¬ (60 : Int) < n := by omega
  have hnb4 : ¬ (400 : Int) < nb := by omega
  have hn60' : decide ((60 : Int) < n) = false := decide_eq_false hn60
  have hnb4' : decide ((400 : Int) < nb) = false := decide_eq_false hnb4
  have HW1 := Lib.hid (fun W (hb : Below w.heap.size w W) => stwrite_ok ack x n cap W hL (hs.later hb) hw)
  have HSZ := Lib.hid (fun W (hb : Below w.heap.size w W) => ssize_any ack x n cap W hL (by omega) (hs.later hb))
  rw [← st_len hw] at HSZ
  have hst := st_back hw
  have hlen : (stBytes ack L x).length ≤ 8192 := by
    have h1 := len_stBytes ack L x
    obtain ⟨_, hok, _, hl, _⟩ := rightB_parts hw
    have h2 := (bitsS_bd hok L).2
    have := (rightB_parts hw).1
    omega
  have HRD1 := Lib.hid (fun W g (hrow : Row W g 5 (bts (stBytes ack L x)).toArray) => sread_yes (A := some ⟨g, 0, none⟩) (bs := stBytes ack L x) x _ (stBytes ack L x).length W rfl hlen (Nat.le_refl _) (row_src hrow) (pack_small _) hst)
  unfold StWAns at HW1
  rw [hL] at HRD1
  have HAS := Lib.hid (fun W (hb : Below w.heap.size w W) => sas_any ack n cap W hL hn (hs.later hb))
  have HAT := Lib.hid (fun W A2 c2 (h : MSrc W A2 L) => sas_any (A := A2) ack n c2 W hL hn h)
  have HSM := Lib.hid (fun W A1 A2 c1 c2 (h1 : MSrc W A1 L) (h2 : MSrc W A2 L) => rssame_any (A := A1) (B := A2) ack ack n n c1 c2 W hL hL (by omega) h1 h2)
  rw [show eqS ack L ack L = true from by unfold eqS; rw [eqMs_refl]; simp] at HSM
  have HLL := Lib.hid hL
  generalize hsb0 : stBytes ack L x = sby at *
  obtain ⟨c0, a0, M, hrd⟩ : ∃ c a M, stRd bs x = (c, a, M) := ⟨_, _, _, rfl⟩
  rw [hrd] at hr
  simp only at hr
  subst hr
  obtain ⟨hm1, hm2⟩ := st_write hb hrd
  obtain ⟨a, rfl⟩ : ∃ a : Nat, a0 = a := ⟨a0.toNat, by have := ((okn_nat (rightB_parts hm1).1).1 (rightB_parts hm1).2.2.1).1; omega⟩
  have HRD := Lib.hid (fun W (hb1 : Below w.heap.size w W) => sread_yes (A := Bd) (bs := bs) x nb cb W hB (by omega) hcb (st_src_later hsb hb1) hb hrd)
  have HW2 := Lib.hid (fun W A2 c2 (h : MSrc W A2 M) => stwrite_ok (A := A2) (L := M) a x M.length c2 W rfl h hm1)
  have HRI := Lib.hid (fun W A2 c2 (h : MSrc W A2 M) => sright_any (A := A2) (L := M) a x M.length c2 W rfl (by have := (rightB_parts hm1).2.2.2.1; omega) h)
  rw [hm1] at HRI
  unfold StWAns at HW2
  rw [hm2, hB] at HW2
  have HCV := Lib.hid (fun W (hb1 : Below w.heap.size w W) => conv_src nb cb hB (st_src_later hsb hb1) hb)
  have HCW := Lib.hid (fun W g (hrow : Row W g 5 (bts bs).toArray) => conv_str (c := bs.length) hrow hb)
  rw [hB] at HCW
  clear hs hsb hb hL hB hk hw hn hnb hn60 hnb4 hrd  hst hlen hsb0
  clear hm1 hm2
  go_enter Try.func6, Try.ntmps6
  go_wp2_with (first
    | (go_at_call 52; (with_reducible refine (HW1.out _ HB0.out).mono ?_); rintro e w1 ⟨g1, rfl, hg1, hr1, hb1⟩; (have HB1 := Lib.hid (bl_step HB0.out hb1); have ROW1 := Lib.hid (ROW0.out.later hb1); have HR1 := Lib.hid (HRD1.out _ _ hr1); clear hb1 hr1 hg1))
    | (go_at_call 60; (with_reducible refine HR1.out.mono ?_); rintro e w2 ⟨A2, c2, rfl, hc2, hcm2, hs2, hb2⟩; (have HB2 := Lib.hid (bl_alloc (bl_step HB1.out hb2) (.cells #[.int .i64 ack, .slice A2 n c2] 81)); have ROW2 := Lib.hid ((ROW1.out.later hb2).more (.cells #[.int .i64 ack, .slice A2 n c2] 81)); have HS2 := Lib.hid (hs2.later (bl_alloc (Below.refl _ _) (.cells #[.int .i64 ack, .slice A2 n c2] 81))); have ROWT := Lib.hid (Row.made w2 81 #[.int .i64 ack, .slice A2 n c2]); clear hb2 hs2)))
  generalize w2.alloc (.cells #[.int .i64 ack, .slice A2 n c2] 81) = W2 at *
  generalize w2.heap.size = q at *
  obtain ⟨d0, d1⟩ := cells2x ROW2.out.drawn
  obtain ⟨d2, d3⟩ := cells2x ROWT.out.drawn
  go_region_held3 (fun w' => w'.cell? ⟨w.heap.size, 0, none⟩ = some (.int .i64 ack) ∧ w'.cell? ⟨w.heap.size, 1, none⟩ = some (.slice A n cap) ∧ w'.cell? ⟨q, 0, none⟩ = some (.int .i64 ack) ∧ w'.cell? ⟨q, 1, none⟩ = some (.slice A2 n c2)) (first | assumption | exact ⟨d0, d1, d2, d3⟩ | exact k3 | exact k4 | exact k5 | exact k6 | go_keep) (first
    | (go_at_call 51; (with_reducible refine (HAS.out _ (bl_drew HB2.out)).mono ?_); rintro e v3 ⟨A3, c3, rfl, _, _, hs3, hb3⟩; have B3 := Lib.hid (show Below W2.heap.size W2 v3 from bl_step (bl_drew (Below.refl _ _)) hb3); have HS3 := Lib.hid hs3; have k3 : _ ∧ _ ∧ _ ∧ _ := ⟨(cells2x (ROW2.out.later B3.out)).1, (cells2x (ROW2.out.later B3.out)).2, (cells2x (ROWT.out.later B3.out)).1, (cells2x (ROWT.out.later B3.out)).2⟩; clear hs3 hb3)
    | (go_at_call 51; (with_reducible refine (HAT.out _ _ _ (HS2.out.later B3.out)).mono ?_); rintro e v4 ⟨A4, c4, rfl, _, _, hs4, hb4⟩; have B4 := Lib.hid (bl_step B3.out hb4); have HS4 := Lib.hid hs4; have HS34 := Lib.hid (HS3.out.later hb4); have k4 : _ ∧ _ ∧ _ ∧ _ := ⟨(cells2x (ROW2.out.later B4.out)).1, (cells2x (ROW2.out.later B4.out)).2, (cells2x (ROWT.out.later B4.out)).1, (cells2x (ROWT.out.later B4.out)).2⟩; clear hs4 hb4)
    | (go_at_call 58; (with_reducible refine (HSM.out _ _ _ _ _ HS34.out HS4.out).mono ?_); rintro e v5 ⟨rfl, hb5⟩; have B5 := Lib.hid (bl_step B4.out hb5); have k5 : _ ∧ _ ∧ _ ∧ _ := ⟨(cells2x (ROW2.out.later B5.out)).1, (cells2x (ROW2.out.later B5.out)).2, (cells2x (ROWT.out.later B5.out)).1, (cells2x (ROWT.out.later B5.out)).2⟩; clear hb5)
    | (go_at_call 55; (with_reducible refine (HSZ.out _ (bl_step HB2.out B5.out)).mono ?_); rintro e v6 ⟨rfl, hb6⟩; have B6 := Lib.hid (bl_step B5.out hb6); have k6 : _ ∧ _ ∧ _ ∧ _ := ⟨(cells2x (ROW2.out.later B6.out)).1, (cells2x (ROW2.out.later B6.out)).2, (cells2x (ROWT.out.later B6.out)).1, (cells2x (ROWT.out.later B6.out)).2⟩; clear hb6))
  have HBX := Lib.hid (bl_step HB2.out B6.out)
  go_wp2_with (first
    | (go_at_call 60; (with_reducible refine (HRD.out _ HBX.out).mono ?_); rintro e u1 ⟨A7, c7, rfl, _, _, hs7, hb7⟩; (have HB7 := Lib.hid (bl_alloc (bl_step HBX.out hb7) (.cells #[.int .i64 a, .slice A7 M.length c7] 81)); have HS7 := Lib.hid (hs7.later (bl_alloc (Below.refl _ _) (.cells #[.int .i64 a, .slice A7 M.length c7] 81))); have ROW7 := Lib.hid (Row.made u1 81 #[.int .i64 a, .slice A7 M.length c7]); clear hs7 hb7))
    | (go_at_call 52; (with_reducible refine (HW2.out _ _ _ HS7.out).mono ?_); rintro e u2 ⟨g8, rfl, _, hr8, hb8⟩; (have HB8 := Lib.hid (bl_step HB7.out hb8); have HR8 := Lib.hid hr8; have ROW8 := Lib.hid (ROW7.out.later hb8); have HS8 := Lib.hid (HS7.out.later hb8); clear hr8 hb8))
    | (go_at_call 50; (with_reducible refine (stalive_any _).mono ?_); rintro e u3 ⟨rfl, hb9⟩; (have HB9 := Lib.hid (bl_step HB8.out hb9); have HR9 := Lib.hid (HR8.out.later hb9); have HS9 := Lib.hid (HS8.out.later hb9); obtain ⟨y0, y1⟩ := cells2x (ROW8.out.later hb9); clear hb9))
    | (go_at_call 53; (with_reducible refine (HRI.out _ _ _ HS9.out).mono ?_); rintro e u4 ⟨rfl, hb10⟩; (have HB10 := Lib.hid (bl_step HB9.out hb10); have kc1 := HCW.out u4 g8 (HR9.out.later hb10); have kc2 := HCV.out u4 HB10.out; clear hb10)))
  go_ret
  exact ⟨rfl, HB10.out⟩
set_option maxRecDepth 100000 in
set_option maxHeartbeats 6400000 in
theorem stback_w1r0 {A Bd : Option Addr} {L : List MissM} {bs : List Nat} (ack : Nat) (x : Nat) (n cap nb cb : Nat) (w : World) (hn : n ≤ 60) (hL : L.length = n) (_hcap : n ≤ cap) (_hcm : cap ≤ 9223372036854775807) (hs : MSrc w A L) (hnb : nb ≤ 400) (hB : bs.length = nb) (hcb : nb ≤ cb) (hsb : Src w Bd (bts bs)) (hb : ∀ b ∈ bs, b < 256) (hk : okS x = true) (hw : rightB ack L x = true) (hr : (stRd bs x).1 ≠ 0) :
    Calls Try.prog 6 #[.agg #[.int .i64 ack, .slice A n cap], .slice Bd nb cb, .int .i64 x] w fun e w' => e = .returned (.bool true) ∧ Below w.heap.size w w' := by
  have ROW0 := Lib.hid (Row.made w 81 #[.int .i64 ack, .slice A n cap])
  have HB0 := Lib.hid (bl_alloc (Below.refl w.heap.size w) (.cells #[.int .i64 ack, .slice A n cap] 81))
  have hn60 : ¬ (60 : Int) < n := by omega
  have hnb4 : ¬ (400 : Int) < nb := by omega
  have hn60' : decide ((60 : Int) < n) = false := decide_eq_false hn60
  have hnb4' : decide ((400 : Int) < nb) = false := decide_eq_false hnb4
  have HW1 := Lib.hid (fun W (hb : Below w.heap.size w W) => stwrite_ok ack x n cap W hL (hs.later hb) hw)
  have HSZ := Lib.hid (fun W (hb : Below w.heap.size w W) => ssize_any ack x n cap W hL (by omega) (hs.later hb))
  rw [← st_len hw] at HSZ
  have hst := st_back hw
  have hlen : (stBytes ack L x).length ≤ 8192 := by
    have h1 := len_stBytes ack L x
    obtain ⟨_, hok, _, hl, _⟩ := rightB_parts hw
    have h2 := (bitsS_bd hok L).2
    have := (rightB_parts hw).1
    omega
  have HRD1 := Lib.hid (fun W g (hrow : Row W g 5 (bts (stBytes ack L x)).toArray) => sread_yes (A := some ⟨g, 0, none⟩) (bs := stBytes ack L x) x _ (stBytes ack L x).length W rfl hlen (Nat.le_refl _) (row_src hrow) (pack_small _) hst)
  unfold StWAns at HW1
  rw [hL] at HRD1
  have HAS := Lib.hid (fun W (hb : Below w.heap.size w W) => sas_any ack n cap W hL hn (hs.later hb))
  have HAT := Lib.hid (fun W A2 c2 (h : MSrc W A2 L) => sas_any (A := A2) ack n c2 W hL hn h)
  have HSM := Lib.hid (fun W A1 A2 c1 c2 (h1 : MSrc W A1 L) (h2 : MSrc W A2 L) => rssame_any (A := A1) (B := A2) ack ack n n c1 c2 W hL hL (by omega) h1 h2)
  rw [show eqS ack L ack L = true from by unfold eqS; rw [eqMs_refl]; simp] at HSM
  have HLL := Lib.hid hL
  generalize hsb0 : stBytes ack L x = sby at *
  obtain ⟨c0, a0, M, hrd⟩ : ∃ c a M, stRd bs x = (c, a, M) := ⟨_, _, _, rfl⟩
  rw [hrd] at hr
  simp only at hr
  have HRD := Lib.hid (fun W (hb1 : Below w.heap.size w W) => sread_err (A := Bd) (bs := bs) x nb cb W hB (by omega) hcb (st_src_later hsb hb1) hb hrd hr)
  have hne : (c0 != 0) = true := by simpa using hr
  have HW2 := Lib.hid (fun W => swrite_zero x W hk)
  have HNZ := Lib.hid hr
  clear hs hsb hb hL hB hk hw hn hnb hn60 hnb4 hrd  hst hlen hsb0
  clear hr
  go_enter Try.func6, Try.ntmps6
  go_wp2_with (first
    | (go_at_call 52; (with_reducible refine (HW1.out _ HB0.out).mono ?_); rintro e w1 ⟨g1, rfl, hg1, hr1, hb1⟩; (have HB1 := Lib.hid (bl_step HB0.out hb1); have ROW1 := Lib.hid (ROW0.out.later hb1); have HR1 := Lib.hid (HRD1.out _ _ hr1); clear hb1 hr1 hg1))
    | (go_at_call 60; (with_reducible refine HR1.out.mono ?_); rintro e w2 ⟨A2, c2, rfl, hc2, hcm2, hs2, hb2⟩; (have HB2 := Lib.hid (bl_alloc (bl_step HB1.out hb2) (.cells #[.int .i64 ack, .slice A2 n c2] 81)); have ROW2 := Lib.hid ((ROW1.out.later hb2).more (.cells #[.int .i64 ack, .slice A2 n c2] 81)); have HS2 := Lib.hid (hs2.later (bl_alloc (Below.refl _ _) (.cells #[.int .i64 ack, .slice A2 n c2] 81))); have ROWT := Lib.hid (Row.made w2 81 #[.int .i64 ack, .slice A2 n c2]); clear hb2 hs2)))
  generalize w2.alloc (.cells #[.int .i64 ack, .slice A2 n c2] 81) = W2 at *
  generalize w2.heap.size = q at *
  obtain ⟨d0, d1⟩ := cells2x ROW2.out.drawn
  obtain ⟨d2, d3⟩ := cells2x ROWT.out.drawn
  go_region_held3 (fun w' => w'.cell? ⟨w.heap.size, 0, none⟩ = some (.int .i64 ack) ∧ w'.cell? ⟨w.heap.size, 1, none⟩ = some (.slice A n cap) ∧ w'.cell? ⟨q, 0, none⟩ = some (.int .i64 ack) ∧ w'.cell? ⟨q, 1, none⟩ = some (.slice A2 n c2)) (first | assumption | exact ⟨d0, d1, d2, d3⟩ | exact k3 | exact k4 | exact k5 | exact k6 | go_keep) (first
    | (go_at_call 51; (with_reducible refine (HAS.out _ (bl_drew HB2.out)).mono ?_); rintro e v3 ⟨A3, c3, rfl, _, _, hs3, hb3⟩; have B3 := Lib.hid (show Below W2.heap.size W2 v3 from bl_step (bl_drew (Below.refl _ _)) hb3); have HS3 := Lib.hid hs3; have k3 : _ ∧ _ ∧ _ ∧ _ := ⟨(cells2x (ROW2.out.later B3.out)).1, (cells2x (ROW2.out.later B3.out)).2, (cells2x (ROWT.out.later B3.out)).1, (cells2x (ROWT.out.later B3.out)).2⟩; clear hs3 hb3)
    | (go_at_call 51; (with_reducible refine (HAT.out _ _ _ (HS2.out.later B3.out)).mono ?_); rintro e v4 ⟨A4, c4, rfl, _, _, hs4, hb4⟩; have B4 := Lib.hid (bl_step B3.out hb4); have HS4 := Lib.hid hs4; have HS34 := Lib.hid (HS3.out.later hb4); have k4 : _ ∧ _ ∧ _ ∧ _ := ⟨(cells2x (ROW2.out.later B4.out)).1, (cells2x (ROW2.out.later B4.out)).2, (cells2x (ROWT.out.later B4.out)).1, (cells2x (ROWT.out.later B4.out)).2⟩; clear hs4 hb4)
    | (go_at_call 58; (with_reducible refine (HSM.out _ _ _ _ _ HS34.out HS4.out).mono ?_); rintro e v5 ⟨rfl, hb5⟩; have B5 := Lib.hid (bl_step B4.out hb5); have k5 : _ ∧ _ ∧ _ ∧ _ := ⟨(cells2x (ROW2.out.later B5.out)).1, (cells2x (ROW2.out.later B5.out)).2, (cells2x (ROWT.out.later B5.out)).1, (cells2x (ROWT.out.later B5.out)).2⟩; clear hb5)
    | (go_at_call 55; (with_reducible refine (HSZ.out _ (bl_step HB2.out B5.out)).mono ?_); rintro e v6 ⟨rfl, hb6⟩; have B6 := Lib.hid (bl_step B5.out hb6); have k6 : _ ∧ _ ∧ _ ∧ _ := ⟨(cells2x (ROW2.out.later B6.out)).1, (cells2x (ROW2.out.later B6.out)).2, (cells2x (ROWT.out.later B6.out)).1, (cells2x (ROWT.out.later B6.out)).2⟩; clear hb6))
  have HBX := Lib.hid (bl_step HB2.out B6.out)
  go_wp2_with (first
    | (go_at_call 60; (with_reducible refine (HRD.out _ HBX.out).mono ?_); rintro e u1 ⟨rfl, hb7⟩; (have HB7 := Lib.hid (bl_alloc (bl_step HBX.out hb7) (.cells #[.int .i64 0, .slice none 0 0] 81)); clear hb7))
    | (go_at_call 52; (with_reducible refine (HW2.out _).mono ?_); rintro e u2 ⟨g8, n8, rfl, hb8⟩; (have HB8 := Lib.hid (bl_step HB7.out hb8); clear hb8))
    | (go_at_call 50; (with_reducible refine (stalive_any _).mono ?_); rintro e u3 ⟨rfl, hb9⟩; (have HB9 := Lib.hid (bl_step HB8.out hb9); clear hb9)))
  go_ret
  exact ⟨rfl, HB9.out⟩
set_option maxRecDepth 100000 in
set_option maxHeartbeats 6400000 in
theorem stback_w0r1 {A Bd : Option Addr} {L : List MissM} {bs : List Nat} (ack : Int) (x : Nat) (n cap nb cb : Nat) (w : World) (hn : n ≤ 60) (hL : L.length = n) (_hcap : n ≤ cap) (_hcm : cap ≤ 9223372036854775807) (hs : MSrc w A L) (hnb : nb ≤ 400) (hB : bs.length = nb) (hcb : nb ≤ cb) (hsb : Src w Bd (bts bs)) (hb : ∀ b ∈ bs, b < 256) (hk : okS x = true) (hw : rightB ack L x = false) (hr : (stRd bs x).1 = 0) :
    Calls Try.prog 6 #[.agg #[.int .i64 ack, .slice A n cap], .slice Bd nb cb, .int .i64 x] w fun e w' => e = .returned (.bool true) ∧ Below w.heap.size w w' := by
  have ROW0 := Lib.hid (Row.made w 81 #[.int .i64 ack, .slice A n cap])
  have HB0 := Lib.hid (bl_alloc (Below.refl w.heap.size w) (.cells #[.int .i64 ack, .slice A n cap] 81))
  have hn60 : ¬ (60 : Int) < n := by omega
  have hnb4 : ¬ (400 : Int) < nb := by omega
  have hn60' : decide ((60 : Int) < n) = false := decide_eq_false hn60
  have hnb4' : decide ((400 : Int) < nb) = false := decide_eq_false hnb4
  have HW1 := Lib.hid (fun W (hb : Below w.heap.size w W) => stwrite_bad ack x n cap W hL (by omega) (hs.later hb) hw)
  rw [hk] at HW1
  simp only [if_true] at HW1
  obtain ⟨c0, a0, M, hrd⟩ : ∃ c a M, stRd bs x = (c, a, M) := ⟨_, _, _, rfl⟩
  rw [hrd] at hr
  simp only at hr
  subst hr
  obtain ⟨hm1, hm2⟩ := st_write hb hrd
  obtain ⟨a, rfl⟩ : ∃ a : Nat, a0 = a := ⟨a0.toNat, by have := ((okn_nat (rightB_parts hm1).1).1 (rightB_parts hm1).2.2.1).1; omega⟩
  have HRD := Lib.hid (fun W (hb1 : Below w.heap.size w W) => sread_yes (A := Bd) (bs := bs) x nb cb W hB (by omega) hcb (st_src_later hsb hb1) hb hrd)
  have HW2 := Lib.hid (fun W A2 c2 (h : MSrc W A2 M) => stwrite_ok (A := A2) (L := M) a x M.length c2 W rfl h hm1)
  have HRI := Lib.hid (fun W A2 c2 (h : MSrc W A2 M) => sright_any (A := A2) (L := M) a x M.length c2 W rfl (by have := (rightB_parts hm1).2.2.2.1; omega) h)
  rw [hm1] at HRI
  unfold StWAns at HW2
  rw [hm2, hB] at HW2
  have HCV := Lib.hid (fun W (hb1 : Below w.heap.size w W) => conv_src nb cb hB (st_src_later hsb hb1) hb)
  have HCW := Lib.hid (fun W g (hrow : Row W g 5 (bts bs).toArray) => conv_str (c := bs.length) hrow hb)
  rw [hB] at HCW
  clear hs hsb hb hL hB hk hw hn hnb hn60 hnb4 hrd 
  clear hm1 hm2
  go_enter Try.func6, Try.ntmps6
  go_wp2_with (first
    | (go_at_call 52; (with_reducible refine (HW1.out _ HB0.out).mono ?_); rintro e w1 ⟨rfl, hb1⟩; (have HBX := Lib.hid (bl_step HB0.out hb1); clear hb1))
    | (go_at_call 60; (with_reducible refine (HRD.out _ HBX.out).mono ?_); rintro e u1 ⟨A7, c7, rfl, _, _, hs7, hb7⟩; (have HB7 := Lib.hid (bl_alloc (bl_step HBX.out hb7) (.cells #[.int .i64 a, .slice A7 M.length c7] 81)); have HS7 := Lib.hid (hs7.later (bl_alloc (Below.refl _ _) (.cells #[.int .i64 a, .slice A7 M.length c7] 81))); have ROW7 := Lib.hid (Row.made u1 81 #[.int .i64 a, .slice A7 M.length c7]); clear hs7 hb7))
    | (go_at_call 52; (with_reducible refine (HW2.out _ _ _ HS7.out).mono ?_); rintro e u2 ⟨g8, rfl, _, hr8, hb8⟩; (have HB8 := Lib.hid (bl_step HB7.out hb8); have HR8 := Lib.hid hr8; have ROW8 := Lib.hid (ROW7.out.later hb8); have HS8 := Lib.hid (HS7.out.later hb8); clear hr8 hb8))
    | (go_at_call 50; (with_reducible refine (stalive_any _).mono ?_); rintro e u3 ⟨rfl, hb9⟩; (have HB9 := Lib.hid (bl_step HB8.out hb9); have HR9 := Lib.hid (HR8.out.later hb9); have HS9 := Lib.hid (HS8.out.later hb9); obtain ⟨y0, y1⟩ := cells2x (ROW8.out.later hb9); clear hb9))
    | (go_at_call 53; (with_reducible refine (HRI.out _ _ _ HS9.out).mono ?_); rintro e u4 ⟨rfl, hb10⟩; (have HB10 := Lib.hid (bl_step HB9.out hb10); have kc1 := HCW.out u4 g8 (HR9.out.later hb10); have kc2 := HCV.out u4 HB10.out; clear hb10)))
  go_ret
  exact ⟨rfl, HB10.out⟩
set_option maxRecDepth 100000 in
set_option maxHeartbeats 6400000 in
theorem stback_w0r0 {A Bd : Option Addr} {L : List MissM} {bs : List Nat} (ack : Int) (x : Nat) (n cap nb cb : Nat) (w : World) (hn : n ≤ 60) (hL : L.length = n) (_hcap : n ≤ cap) (_hcm : cap ≤ 9223372036854775807) (hs : MSrc w A L) (hnb : nb ≤ 400) (hB : bs.length = nb) (hcb : nb ≤ cb) (hsb : Src w Bd (bts bs)) (hb : ∀ b ∈ bs, b < 256) (hk : okS x = true) (hw : rightB ack L x = false) (hr : (stRd bs x).1 ≠ 0) :
    Calls Try.prog 6 #[.agg #[.int .i64 ack, .slice A n cap], .slice Bd nb cb, .int .i64 x] w fun e w' => e = .returned (.bool true) ∧ Below w.heap.size w w' := by
  have ROW0 := Lib.hid (Row.made w 81 #[.int .i64 ack, .slice A n cap])
  have HB0 := Lib.hid (bl_alloc (Below.refl w.heap.size w) (.cells #[.int .i64 ack, .slice A n cap] 81))
  have hn60 : ¬ (60 : Int) < n := by omega
  have hnb4 : ¬ (400 : Int) < nb := by omega
  have hn60' : decide ((60 : Int) < n) = false := decide_eq_false hn60
  have hnb4' : decide ((400 : Int) < nb) = false := decide_eq_false hnb4
  have HW1 := Lib.hid (fun W (hb : Below w.heap.size w W) => stwrite_bad ack x n cap W hL (by omega) (hs.later hb) hw)
  rw [hk] at HW1
  simp only [if_true] at HW1
  obtain ⟨c0, a0, M, hrd⟩ : ∃ c a M, stRd bs x = (c, a, M) := ⟨_, _, _, rfl⟩
  rw [hrd] at hr
  simp only at hr
  have HRD := Lib.hid (fun W (hb1 : Below w.heap.size w W) => sread_err (A := Bd) (bs := bs) x nb cb W hB (by omega) hcb (st_src_later hsb hb1) hb hrd hr)
  have hne : (c0 != 0) = true := by simpa using hr
  have HW2 := Lib.hid (fun W => swrite_zero x W hk)
  have HNZ := Lib.hid hr
  clear hs hsb hb hL hB hk hw hn hnb hn60 hnb4 hrd 
  clear hr
  go_enter Try.func6, Try.ntmps6
  go_wp2_with (first
    | (go_at_call 52; (with_reducible refine (HW1.out _ HB0.out).mono ?_); rintro e w1 ⟨rfl, hb1⟩; (have HBX := Lib.hid (bl_step HB0.out hb1); clear hb1))
    | (go_at_call 60; (with_reducible refine (HRD.out _ HBX.out).mono ?_); rintro e u1 ⟨rfl, hb7⟩; (have HB7 := Lib.hid (bl_alloc (bl_step HBX.out hb7) (.cells #[.int .i64 0, .slice none 0 0] 81)); clear hb7))
    | (go_at_call 52; (with_reducible refine (HW2.out _).mono ?_); rintro e u2 ⟨g8, n8, rfl, hb8⟩; (have HB8 := Lib.hid (bl_step HB7.out hb8); clear hb8))
    | (go_at_call 50; (with_reducible refine (stalive_any _).mono ?_); rintro e u3 ⟨rfl, hb9⟩; (have HB9 := Lib.hid (bl_step HB8.out hb9); clear hb9)))
  go_ret
  exact ⟨rfl, HB9.out⟩
set_option maxRecDepth 100000 in
set_option maxHeartbeats 800000 in
theorem stback_long {A Bd : Option Addr} (ack x : Int) (n cap nb cb : Nat) (w : World) (hn : n ≤ 9223372036854775807) (hnb : nb ≤ 9223372036854775807) (h : 60 < n ∨ (n ≤ 60 ∧ 400 < nb)) :
    Calls Try.prog 6 #[.agg #[.int .i64 ack, .slice A n cap], .slice Bd nb cb, .int .i64 x] w fun e w' => e = .returned (.bool true) ∧ Below w.heap.size w w' := by
  rcases h with h | ⟨h, h2⟩
  · have h1 : decide ((60 : Int) < n) = true := decide_eq_true (by omega)
    have h1' : decide (60 < n) = true := decide_eq_true (by omega)
    clear h
    go_enter Try.func6, Try.ntmps6
    go_wp2_with (go_at_call 50; (with_reducible refine (stalive_any _).mono ?_); rintro e u3 ⟨rfl, hb9⟩)
    go_ret
    exact ⟨rfl, bl_step (bl_alloc (Below.refl _ _) _) hb9⟩
  · have h1 : decide ((60 : Int) < n) = false := decide_eq_false (by omega)
    have h1' : decide (60 < n) = false := decide_eq_false (by omega)
    have h3 : decide ((400 : Int) < nb) = true := decide_eq_true (by omega)
    have h3' : decide (400 < nb) = true := decide_eq_true (by omega)
    clear h h2
    go_enter Try.func6, Try.ntmps6
    go_wp2_with (go_at_call 50; (with_reducible refine (stalive_any _).mono ?_); rintro e u3 ⟨rfl, hb9⟩)
    go_ret
    exact ⟨rfl, bl_step (bl_alloc (Below.refl _ _) _) hb9⟩
theorem stback_all {A Bd : Option Addr} {L : List MissM} {bs : List Nat} (ack x : Int) (cap cb : Nat) (w : World) (hcap : L.length ≤ cap) (hcm : cap ≤ 9223372036854775807) (hs : MSrc w A L) (hcb : bs.length ≤ cb) (hcbm : cb ≤ 9223372036854775807) (hsb : Src w Bd (bts bs)) (hb : ∀ b ∈ bs, b < 256) :
    Calls Try.prog 6 #[.agg #[.int .i64 ack, .slice A L.length cap], .slice Bd bs.length cb, .int .i64 x] w fun e w' => e = .returned (.bool true) ∧ Below w.heap.size w w' := by
  by_cases h1 : 60 < L.length
  · exact stback_long ack x L.length cap bs.length cb w (by omega) (by omega) (.inl h1)
  · by_cases h2 : 400 < bs.length
    · exact stback_long ack x L.length cap bs.length cb w (by omega) (by omega) (.inr ⟨by omega, h2⟩)
    · cases hk : okS x
      · exact stback_kind ack x L.length cap bs.length cb w (by omega) rfl hcap hcm hs (by omega) rfl hcb hsb hb hk
      · obtain ⟨X, rfl⟩ : ∃ X : Nat, x = X := ⟨x.toNat, by have := okS_nat hk; omega⟩
        cases hw : rightB ack L (X : Int)
        · by_cases hr : (stRd bs X).1 = 0
          · exact stback_w0r1 ack X L.length cap bs.length cb w (by omega) rfl hcap hcm hs (by omega) rfl hcb hsb hb hk hw hr
          · exact stback_w0r0 ack X L.length cap bs.length cb w (by omega) rfl hcap hcm hs (by omega) rfl hcb hsb hb hk hw hr
        · obtain ⟨a, rfl⟩ : ∃ a : Nat, ack = a := ⟨ack.toNat, by have := ((okn_nat (rightB_parts hw).1).1 (rightB_parts hw).2.2.1).1; omega⟩
          by_cases hr : (stRd bs X).1 = 0
          · exact stback_w1r1 a X L.length cap bs.length cb w (by omega) rfl hcap hcm hs (by omega) rfl hcb hsb hb hk hw hr
          · exact stback_w1r0 a X L.length cap bs.length cb w (by omega) rfl hcap hcm hs (by omega) rfl hcb hsb hb hk hw hr
end Go.Proofs.Ytbdjgdkafbkdbaa
