/-
  How many bytes fields have; whether two are equal.
-/
import Derived.Test.YtdklddpkklodnaaFldRows
import Derived.Laws.Strings
namespace Go.Proofs.Ytdklddpkklodnaa
open Go.RowKit


theorem longest_b (b : Bool) (w : World) : Calls Try.prog 80 #[.bool b] w fun e w' => e = .returned (.int .i64 (if b then 4000 else 2047)) ∧ w = w' := by
  cases b
  · go_enter Try.func80, Try.ntmps80
    go_wp2
    go_ret
    exact ⟨rfl, rfl⟩
  · go_enter Try.func80, Try.ntmps80
    go_wp2
    go_ret
    exact ⟨rfl, rfl⟩

/-- a field's length is added, if it may be -/
def Size1 (n k m ps : Nat) (sz : Int) (w : World) (e : Ending) (w' : World) : Prop :=
  (okAt n k m = true ∧ e = .returned (.bool true) ∧ Row w' ps 3 #[.int .i64 (sz + m)] ∧ Only (fun b => b = ps) w w') ∨ (okAt n k m = false ∧ e = .returned (.bool false) ∧ w = w')
set_option maxRecDepth 100000 in
set_option maxHeartbeats 1600000 in
theorem size1_any {pl ps n cap : Nat} {A Af : Option Addr} {sz : Int} (k m c : Nat) (w : World) (hl : Row w pl 22 #[.slice A n cap]) (hs : Row w ps 3 #[.int .i64 sz]) (hk : k < n) (hn : n ≤ 24) (h0 : 0 ≤ sz) (h1 : sz ≤ 1000000) (hm : m ≤ 9223372036854775807) :
    Calls Try.prog 79 #[.int .i64 k, .slice Af m c, .pointer (some ⟨pl, 0, none⟩), .pointer (some ⟨ps, 0, none⟩)] w (Size1 n k m ps sz w) := by
  have hcl : w.cell? ⟨pl, 0, none⟩ = some (.slice A n cap) := hl.read rfl
  have hcs : w.cell? ⟨ps, 0, none⟩ = some (.int .i64 sz) := hs.read rfl
  have hfs := hs.free 0
  have HROW := Lib.hid (hs.written 0 (.int .i64 (sz + m)))
  have HON := Lib.hid ((Only.refl (fun b => b = ps) w).set (p := ⟨ps, 0, none⟩) (.inl rfl) (.int .i64 (sz + m)))
  clear hs hl
  rcases Nat.eq_zero_or_pos m with hm0 | hm0
  · have HF := Lib.hid (show okAt n k m = false by unfold okAt; rw [decide_eq_false (by omega)]; rfl)
    subst hm0
    go_enter Try.func79, Try.ntmps79
    go_wp2
    go_ret
    exact .inr ⟨HF.out, rfl, rfl⟩
  · have hm1 : ¬ (m : Int) < 1 := by omega
    have hn1 : (1 : Int) ≤ n := by omega
    by_cases hl : k + 1 = n
    · have hb : ((k : Int) == (n : Int) - 1) = true := by simp; omega
      rcases Nat.lt_or_ge 4000 m with h4 | h4
      · have HF := Lib.hid (show okAt n k m = false by unfold okAt; rw [if_pos hl, decide_eq_false (show ¬ m ≤ 4000 by omega)]; simp)
        have h4' : (4000 : Int) < m := by omega
        clear hl
        go_enter Try.func79, Try.ntmps79
        go_wp2_with (go_at_call 80; refine (longest_b true _).mono ?_; rintro e w1 ⟨rfl, rfl⟩)
        go_ret
        exact .inr ⟨HF.out, rfl, rfl⟩
      · have HF := Lib.hid (show okAt n k m = true by unfold okAt; rw [if_pos hl, decide_eq_true h4, decide_eq_true (show 1 ≤ m by omega)]; rfl)
        have h4' : ¬ (4000 : Int) < m := by omega
        clear hl
        go_enter Try.func79, Try.ntmps79
        go_wp2_with (go_at_call 80; refine (longest_b true _).mono ?_; rintro e w1 ⟨rfl, rfl⟩)
        go_ret
        exact .inl ⟨HF.out, rfl, HROW.out, HON.out⟩
    · have hb : ((k : Int) == (n : Int) - 1) = false := by simp; omega
      rcases Nat.lt_or_ge 2047 m with h4 | h4
      · have HF := Lib.hid (show okAt n k m = false by unfold okAt; rw [if_neg hl, decide_eq_false (show ¬ m ≤ 2047 by omega)]; simp)
        have h4' : (2047 : Int) < m := by omega
        clear hl
        go_enter Try.func79, Try.ntmps79
        go_wp2_with (go_at_call 80; refine (longest_b false _).mono ?_; rintro e w1 ⟨rfl, rfl⟩)
        go_ret
        exact .inr ⟨HF.out, rfl, rfl⟩
      · have HF := Lib.hid (show okAt n k m = true by unfold okAt; rw [if_neg hl, decide_eq_true h4, decide_eq_true (show 1 ≤ m by omega)]; rfl)
        have h4' : ¬ (2047 : Int) < m := by omega
        clear hl
        go_enter Try.func79, Try.ntmps79
        go_wp2_with (go_at_call 80; refine (longest_b false _).mono ?_; rintro e w1 ⟨rfl, rfl⟩)
        go_ret
        exact .inl ⟨HF.out, rfl, HROW.out, HON.out⟩

/-- .. while fields are gone through -/
structure SizeInv (B pl ps n cap : Nat) (A : Option Addr) (sz : Int) (ls : List Nat) (w : World) (k : Nat) (w' : World) : Prop where
  box : Row w' pl 22 #[.slice A n cap]
  sum : Row w' ps 3 #[.int .i64 (sz + sumTo ls k)]
  ok : okTo ls k = true
  below : Below B w w'
theorem only_below {B : Nat} {w w' : World} {p : Nat} (h : Only (fun b => b = p) w w') (hp : B ≤ p) (hB : B ≤ w.heap.size) : Below B w w' := h.below hB (fun k hk hk' => by omega)
theorem each_size {A : Option Addr} {L : List RowB} {B pl ps n cap : Nat} {sz : Int} (w : World) (hL : L.length = n) (hn : n ≤ 24) (hs : ∀ W, Below B w W → RSrc W A L) (hm : ∀ m ∈ lens L, m ≤ 9223372036854775807) (hz0 : 0 ≤ sz) (hz1 : sz ≤ 46)
    (hB : B ≤ w.heap.size) (hps : B ≤ ps) (hne : ps ≠ pl) (h1 : Row w pl 22 #[.slice A n cap]) (h2 : Row w ps 3 #[.int .i64 sz]) :
    Calls Try.prog 78 #[.slice A n cap, .func (.func 79) #[] #[.pointer (some ⟨pl, 0, none⟩), .pointer (some ⟨ps, 0, none⟩)]] w fun e w' =>
      (e = .returned (.bool true) ∧ SizeInv B pl ps n cap A sz (lens L) w n w') ∨ (e = .returned (.bool false) ∧ okTo (lens L) n = false ∧ Below B w w') := by
  have hll : (lens L).length = n := by rw [length_lens, hL]
  refine each_any (K := 79) (caps := #[.pointer (some ⟨pl, 0, none⟩), .pointer (some ⟨ps, 0, none⟩)]) n cap (.inl rfl)
        (SizeInv B pl ps n cap A sz (lens L) w) (fun W' => okTo (lens L) n = false ∧ Below B w W') w hL (by omega)
        ⟨h1, by rw [sumTo_zero]; simpa using h2, okTo_zero _, Below.refl _ _⟩ (fun k W' hi => hs W' hi.below)
        (fun k W' r hr hi => ?_)
  have hk : k < n := by rw [← hL]; exact (List.getElem?_eq_some_iff.1 hr).1
  have hm9 : r.bs.length ≤ 9223372036854775807 := hm _ (List.mem_of_getElem? (lens_at hr))
  have hst := sumTo_bound hi.ok (by rw [hll]; omega)
  have hB' : B ≤ W'.heap.size := Nat.le_trans hB hi.below.size
  refine (size1_any (Af := r.A) (c := r.cap) k r.bs.length W' hi.box hi.sum hk hn (by omega) (by omega) hm9).mono ?_
  rintro e W2 (⟨g1, rfl, g2, g3⟩ | ⟨g1, rfl, rfl⟩)
  · refine .inl ⟨rfl, hi.box.only g3 (fun h => hne h.symm), ?_, ?_, hi.below.trans (only_below g3 hps hB')⟩
    · rw [sumTo_succ (lens_at hr)]
      have e9 : sz + ((sumTo (lens L) k + r.bs.length : Nat) : Int) = sz + (sumTo (lens L) k : Int) + (r.bs.length : Int) := by omega
      rw [e9]
      exact g2
    · rw [okTo_at (lens_at hr) hi.ok, hll, g1]
  · refine .inr ⟨rfl, ?_, hi.below⟩
    refine okTo_later (k := k + 1) ?_ (by omega)
    rw [okTo_at (lens_at hr) hi.ok, hll, g1]

set_option maxRecDepth 100000 in
set_option maxHeartbeats 1600000 in
theorem fsize_any {A : Option Addr} {L : List RowB} (n cap : Nat) (wd : Int) (w : World) (hL : L.length = n) (hn : n ≤ 9223372036854775807) (hs : RSrc w A L) (hm : ∀ m ∈ lens L, m ≤ 9223372036854775807) :
    Calls Try.prog 46 #[.slice A n cap, .int .i64 wd] w fun e w' => e = .returned (.int .i64 (szF (lens L) wd)) ∧ Below w.heap.size w w' := by
  have hll : (lens L).length = n := by rw [length_lens, hL]
  rcases Nat.eq_zero_or_pos n with h0 | h0
  · have HF := Lib.hid (show szF (lens L) wd = 0 by unfold szF; rw [if_neg (by omega)])
    subst h0
    clear hL hll hs hm
    go_enter Try.func46, Try.ntmps46
    go_wp2
    go_ret
    exact ⟨by rw [HF.out]; rfl, bl_alloc (Below.refl _ _) _⟩
  · have h0' : ¬ (n : Int) < 1 := by omega
    rcases Nat.lt_or_ge 24 n with h1 | h1
    · have HF := Lib.hid (show szF (lens L) wd = 0 by unfold szF; rw [if_neg (by omega)])
      have h1' : (24 : Int) < n := by omega
      clear hL hll hs hm
      go_enter Try.func46, Try.ntmps46
      go_wp2
      go_ret
      exact ⟨by rw [HF.out]; rfl, bl_alloc (Below.refl _ _) _⟩
    · have h1' : ¬ (24 : Int) < n := by omega
      have HF := Lib.hid (show szF (lens L) wd = if okTo (lens L) n = true then sizeF ((n : Int) - 1) wd + (lens L).sum else 0 by
        unfold szF
        rw [hll]
        by_cases h9 : okTo (lens L) n = true
        · rw [if_pos ⟨by omega, by omega, h9⟩, if_pos h9]
        · rw [if_neg (fun h => h9 h.2.2), if_neg h9])
      have HZ := Lib.hid (fun W => size_any ((n : Int) - 1) wd W)
      have hz := sizeF_nonneg ((n : Int) - 1) wd
      generalize sizeF ((n : Int) - 1) wd = sz at *
      obtain ⟨hz0, hz1⟩ := hz
      have HSUM := Lib.hid (show sumTo (lens L) n = (lens L).sum by rw [← hll]; exact sumTo_all _)
      have HE := Lib.hid (fun W hb (x1 : Row W w.heap.size 22 #[.slice A n cap]) x2 => each_size (B := w.heap.size) (pl := w.heap.size) (ps := w.heap.size + 1) (cap := cap) (sz := sz) W hL h1 (fun W' hb' => hs.later (Below.trans hb hb')) hm hz0 hz1 (Below.size hb) (by omega) (by omega) x1 x2)
      clear hL hll hs hm
      go_enter Try.func46, Try.ntmps46
      go_wp2_with (first
        | (go_at_call 77; refine (HZ.out _).mono ?_; rintro e w1 ⟨rfl, rfl⟩)
        | (go_at_call 78; refine (HE.out _ ?b ?x1 ?x2).mono ?_; rotate_left 3; rintro e w2 (⟨rfl, hi⟩ | ⟨rfl, hi, hb⟩); (have hc := hi.sum.read (i := 0) rfl; have HI := Lib.hid hi; clear hi); rotate_left 1; (have HI := Lib.hid hi; have HB := Lib.hid hb; clear hi hb); rotate_left 1))
      case b => exact bl_alloc (bl_alloc (Below.refl _ _) _) _
      case x1 => exact (Row.made _ _ _).more _
      case x2 => exact (by simpa using Row.made (w.alloc (.cells #[.slice A n cap] 22)) 3 #[.int .i64 sz])
      · go_ret
        refine ⟨?_, (bl_alloc (bl_alloc (Below.refl _ _) _) _).trans HI.out.below⟩
        rw [HF.out, if_pos HI.out.ok, ← HSUM.out]
        rfl
      · go_ret
        refine ⟨?_, (bl_alloc (bl_alloc (Below.refl _ _) _) _).trans HB.out⟩
        rw [HF.out, if_neg (by rw [HI.out]; decide)]
        rfl

theorem conv_src {w : World} {A : Option Addr} {l : List Nat} (n c : Nat) (hl : l.length = n) (h : Src w A (bts l)) (hb : ∀ b ∈ l, b < 256) : (convert 30 9 (.slice A n c)).run Try.prog w = .ok (.string (strOf l)) w := by
  subst hl
  cases A with
  | none =>
    have hl : l.length = 0 := by
      rcases Nat.eq_zero_or_pos l.length with h0 | h0
      · exact h0
      · obtain ⟨ad, h1, _⟩ := h (by rw [length_bts]; exact h0)
        cases h1
    have e : l = [] := List.eq_nil_of_length_eq_zero hl
    subst e
    exact run_convert_bytes_nil w 30 5 Try.underlying30 Try.underlying5 0 c 9 Try.underlying9
  | some ad =>
    have hx := run_convert_bytes_back (P := Try.prog) w 30 9 5 ad c (l.map UInt8.ofNat) Try.underlying30 Try.underlying5 Try.underlying9 (fun j hj => by
      have hj' : j < l.length := by simpa using hj
      have h1 : (bts l)[j]? = some (.int .u8 (l[j] : Nat)) := bts_at (List.getElem?_eq_getElem hj')
      obtain ⟨ad', h2, h3⟩ := h (by rw [length_bts]; omega)
      injection h2 with h2
      subst h2
      rw [h3 j _ h1, List.getElem_map]
      have h4 : (UInt8.ofNat l[j]).toNat = l[j] := UInt8.toNat_ofNat_of_lt' (hb _ (List.getElem_mem hj'))
      rw [h4])
    rw [List.length_map] at hx
    exact hx
theorem strOf_inj {a b : List Nat} (ha : ∀ x ∈ a, x < 256) (hb : ∀ x ∈ b, x < 256) (h : strOf a = strOf b) : a = b := by
  unfold strOf at h
  injection h with h
  have h1 : a.map UInt8.ofNat = b.map UInt8.ofNat := by
    have := congrArg Array.toList h
    simpa using this
  have h2 := congrArg (List.map UInt8.toNat) h1
  rw [List.map_map, List.map_map] at h2
  have e : ∀ l : List Nat, (∀ x ∈ l, x < 256) → l.map (UInt8.toNat ∘ UInt8.ofNat) = l := fun l hl => by
    have : l.map (UInt8.toNat ∘ UInt8.ofNat) = l.map id := List.map_congr_left fun x hx => UInt8.toNat_ofNat_of_lt' (hl x hx)
    rw [this, List.map_id]
  rw [e a ha, e b hb] at h2
  exact h2
theorem strOf_list (a : List Nat) : (strOf a).toList = a.map UInt8.ofNat := ByteArray.toList_mk _
theorem strOf_beq {a b : List Nat} (ha : ∀ x ∈ a, x < 256) (hb : ∀ x ∈ b, x < 256) : ((strOf a).toList == (strOf b).toList) = decide (a = b) := by
  rw [Bool.eq_iff_iff, decide_eq_true_iff, beq_iff_eq]
  refine ⟨fun h => strOf_inj ha hb ?_, fun h => by rw [h]⟩
  rw [strOf_list, strOf_list] at h
  unfold strOf
  rw [h]
set_option maxHeartbeats 400000 in
theorem equal_any {A B : Option Addr} {a b : List Nat} (n m c d : Nat) (w : World) (hn : a.length = n) (hm : b.length = m) (hA : Src w A (bts a)) (hB : Src w B (bts b)) (ha : ∀ x ∈ a, x < 256) (hb : ∀ x ∈ b, x < 256) :
    Calls Try.prog 83 #[.slice A n c, .slice B m d] w fun e w' => e = .returned (.bool (decide (a = b))) ∧ w = w' := by
  have c1 := conv_src n c hn hA ha
  have c2 := conv_src m d hm hB hb
  have HQ := Lib.hid (strOf_beq ha hb)
  clear hn hm hA hB ha hb
  go_enter Try.func83, Try.ntmps83
  go_wp2
  go_ret
  exact ⟨ret_bool HQ.out, rfl⟩

set_option maxHeartbeats 400000 in
theorem same1_any {pb nb capb : Nat} {ad : Addr} {r r' : RowB} (k : Nat) (w : World) (hp : Row w pb 22 #[.slice (some ad) nb capb]) (hc : w.cell? (ad.add k) = some r'.v) (hr : r.ok w) (hr' : r'.ok w) (hk : k < nb) :
    Calls Try.prog 82 #[.int .i64 k, .slice r.A r.bs.length r.cap, .pointer (some ⟨pb, 0, none⟩)] w fun e w' => e = .returned (.bool (decide (r.bs = r'.bs))) ∧ w = w' := by
  have hcb : w.cell? ⟨pb, 0, none⟩ = some (.slice (some ad) nb capb) := hp.read rfl
  have hc' : w.cell? (ad.add k) = some (.slice r'.A r'.bs.length r'.cap) := hc
  have HE := Lib.hid (equal_any r.bs.length r'.bs.length r.cap r'.cap w rfl rfl hr.1 hr'.1 hr.2.2.2 hr'.2.2.2)
  clear hp hc hr hr'
  generalize decide (r.bs = r'.bs) = q at *
  generalize r.bs.length = n1 at *
  generalize r'.bs.length = n2 at *
  go_enter Try.func82, Try.ntmps82
  go_wp2_with (go_at_call 83; refine HE.out.mono ?_; rintro e w1 ⟨rfl, rfl⟩)
  go_ret
  exact ⟨rfl, rfl⟩

/-- fields are the same so far -/
def sameTo (a b : List (List Nat)) (k : Nat) : Prop := ∀ j, j < k → a[j]? = b[j]?
theorem texts_at {L : List RowB} {k : Nat} {r : RowB} (h : L[k]? = some r) : (texts L)[k]? = some r.bs := by simp [texts, h]
theorem length_texts (L : List RowB) : (texts L).length = L.length := by simp [texts]
theorem sameTo_all {a b : List (List Nat)} (hl : a.length = b.length) (h : sameTo a b a.length) : a = b := by
  apply List.ext_getElem?
  intro j
  rcases Nat.lt_or_ge j a.length with h1 | h1
  · exact h j h1
  · rw [List.getElem?_eq_none h1, List.getElem?_eq_none (by omega)]
theorem ret_b {a b : Bool} (h : a = b) : Ending.returned (.bool a) = .returned (.bool b) := by rw [h]
theorem each_same {A B : Option Addr} {L M : List RowB} {pb n cap capb : Nat} (w : World) (hL : L.length = n) (hM : M.length = n) (hn : n ≤ 9223372036854775807) (hs : RSrc w A L) (hs' : RSrc w B M) (hp : Row w pb 22 #[.slice B n capb]) :
    Calls Try.prog 78 #[.slice A n cap, .func (.func 82) #[] #[.pointer (some ⟨pb, 0, none⟩)]] w fun e w' => e = .returned (.bool (decide (texts L = texts M))) ∧ w = w' := by
  refine (each_any (K := 82) (caps := #[.pointer (some ⟨pb, 0, none⟩)]) n cap (.inr (.inl rfl)) (fun k W => sameTo (texts L) (texts M) k ∧ w = W) (fun W => texts L ≠ texts M ∧ w = W) w hL hn
    ⟨fun j hj => by omega, rfl⟩ (fun k W h => by rw [← h.2]; exact hs) (fun k W r hr h => ?_)).mono ?_
  · obtain ⟨h1, rfl⟩ := h
    have hk : k < n := by rw [← hL]; exact (List.getElem?_eq_some_iff.1 hr).1
    obtain ⟨ad, rfl, hc⟩ := hs' (by omega)
    obtain ⟨r', hr'⟩ : ∃ r', M[k]? = some r' := ⟨_, List.getElem?_eq_getElem (by omega)⟩
    obtain ⟨ad2, _, hc2⟩ := hs (by omega)
    refine (same1_any k w hp (hc k r' hr').1 (hc2 k r hr).2 (hc k r' hr').2 hk).mono ?_
    rintro e W2 ⟨rfl, rfl⟩
    by_cases he : r.bs = r'.bs
    · refine .inl ⟨ret_b (decide_eq_true he), fun j hj => ?_, rfl⟩
      rcases Nat.lt_or_ge j k with h2 | h2
      · exact h1 j h2
      · obtain rfl : j = k := by omega
        rw [texts_at hr, texts_at hr', he]
    · refine .inr ⟨ret_b (decide_eq_false he), fun h2 => he ?_, rfl⟩
      have h3 := texts_at hr
      rw [h2, texts_at hr'] at h3
      injection h3 with h3
      exact h3.symm
  · rintro e W (⟨rfl, h, rfl⟩ | ⟨rfl, h, rfl⟩)
    · exact ⟨ret_b (decide_eq_true (sameTo_all (by rw [length_texts, length_texts, hL, hM]) (by rw [length_texts, hL]; exact h))).symm, rfl⟩
    · exact ⟨ret_b (decide_eq_false h).symm, rfl⟩
set_option maxRecDepth 100000 in
set_option maxHeartbeats 400000 in
theorem fsame_any {A B : Option Addr} {L M : List RowB} (n m cap capb : Nat) (w : World) (hL : L.length = n) (hM : M.length = m) (hn : n ≤ 9223372036854775807) (hs : RSrc w A L) (hs' : RSrc w B M) :
    Calls Try.prog 48 #[.slice A n cap, .slice B m capb] w fun e w' => e = .returned (.bool (decide (texts L = texts M))) ∧ Below w.heap.size w w' := by
  by_cases h : n = m
  · subst h
    have HE := Lib.hid (fun W (hb : Below w.heap.size w W) (x : Row W w.heap.size 22 #[.slice B n capb]) => each_same (cap := cap) W hL hM hn (hs.later hb) (hs'.later hb) x)
    clear hL hM hs hs'
    generalize decide (texts L = texts M) = q at *
    have hnn : ((n : Int) == (n : Int)) = true := by simp
    go_enter Try.func48, Try.ntmps48
    go_wp2_with (go_at_call 78; refine (HE.out _ (bl_alloc (Below.refl _ _) _) (Row.made _ _ _)).mono ?_; rintro e w2 ⟨rfl, rfl⟩)
    go_ret
    exact ⟨rfl, bl_alloc (Below.refl _ _) _⟩
  · have HF := Lib.hid (show decide (texts L = texts M) = false from decide_eq_false fun h1 => h (by have := congrArg List.length h1; rw [length_texts, length_texts] at this; omega))
    have hnm : ((n : Int) == (m : Int)) = false := by simp; omega
    clear hL hM hs hs' h
    go_enter Try.func48, Try.ntmps48
    go_wp2
    go_ret
    exact ⟨by rw [HF.out]; rfl, bl_alloc (Below.refl _ _) _⟩
end Go.Proofs.Ytdklddpkklodnaa
