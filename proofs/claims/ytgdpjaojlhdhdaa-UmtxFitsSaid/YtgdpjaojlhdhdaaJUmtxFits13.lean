/-
  What a mode of Usual is. How many bytes fields have; whether two are equal. cut: which widths may be, how many bytes fields have, how many bytes the next field has. What a queue holds in memory: texts, each with its bytes; a list that may share its memory with an older one.
-/
import Derived.Test.YtgdpjaojlhdhdaaJUmtxFits12
import Derived.Test.YtgdpjaojlhdhdaaJUmtxFits11
import Derived.Laws.Strings
import Derived.Test.YtgdpjaojlhdhdaaJUmtxFits02
import Derived.Test.YtgdpjaojlhdhdaaJUmtxFits01
import Derived.Laws.BytesString
import Derived.Laws.IdiomStrings
namespace Go.Proofs.Ytgdpjaojlhdhdaa
open Go.RowKit

def usF (mode : Int) : Cf := if mode = 0 then ⟨0, 0, 0, 0, 0, 0, 0, 0, 0, 5000⟩ else if mode = 1 then ⟨1, 5, 16, 4, 0, 0, 0, 0, 0, 5000⟩ else if mode = 2 then ⟨2, 10, 512, 4, 8, 3, 4, 500, 4, 5000⟩ else ⟨0, 0, 0, 0, 0, 0, 0, 0, 0, 0⟩
set_option maxRecDepth 100000 in
set_option maxHeartbeats 1600000 in
theorem pusual_any (mode : Int) (w : World) : Calls Try.prog 28 #[.int .i64 mode] w fun e w' => e = .returned (.agg (usF mode).a) ∧ Below w.heap.size w w' := by
  obtain ⟨dd, hdd⟩ := undercf_parts
  by_cases h0 : mode = 0
  · have g0 : (mode == 0) = true := by simpa using h0
    have HU := Lib.hid (show (usF mode).a = #[.int .i64 0, .int .i64 0, .int .i64 0, .int .i64 0, .int .i64 0, .int .i64 0, .int .i64 0, .int .i64 0, .int .i64 0, .int .i64 5000] by unfold usF; rw [if_pos h0]; rfl)
    rw [HU.out]
    clear h0
    go_enter Try.func28, Try.ntmps28
    go_wp2
    refine bodyPost_ret (results_cell_row rfl _ _ w.heap.size 23 #[.int .i64 0, .int .i64 0, .int .i64 0, .int .i64 0, .int .i64 0, .int .i64 0, .int .i64 0, .int .i64 0, .int .i64 0, .int .i64 5000] (0, 0) (.struct dd) rfl (Row.made _ _ _) hdd rfl Try.infocf) rfl ?_
    exact ⟨rfl, bl_alloc (Below.refl _ _) _⟩
  · have g0 : (mode == 0) = false := by simpa using h0
    by_cases h1 : mode = 1
    · have g1 : (mode == 1) = true := by simpa using h1
      have HU := Lib.hid (show (usF mode).a = #[.int .i64 1, .int .i64 5, .int .i64 16, .int .i64 4, .int .i64 0, .int .i64 0, .int .i64 0, .int .i64 0, .int .i64 0, .int .i64 5000] by unfold usF; rw [if_neg h0, if_pos h1]; rfl)
      rw [HU.out]
      clear h0 h1
      go_enter Try.func28, Try.ntmps28
      go_wp2
      refine bodyPost_ret (results_cell_row rfl _ _ w.heap.size 23 #[.int .i64 1, .int .i64 5, .int .i64 16, .int .i64 4, .int .i64 0, .int .i64 0, .int .i64 0, .int .i64 0, .int .i64 0, .int .i64 5000] (0, 0) (.struct dd) rfl (Row.made _ _ _) hdd rfl Try.infocf) rfl ?_
      exact ⟨rfl, bl_alloc (Below.refl _ _) _⟩
    · have g1 : (mode == 1) = false := by simpa using h1
      by_cases h2 : mode = 2
      · have g2 : (mode == 2) = true := by simpa using h2
        have HU := Lib.hid (show (usF mode).a = #[.int .i64 2, .int .i64 10, .int .i64 512, .int .i64 4, .int .i64 8, .int .i64 3, .int .i64 4, .int .i64 500, .int .i64 4, .int .i64 5000] by unfold usF; rw [if_neg h0, if_neg h1, if_pos h2]; rfl)
        rw [HU.out]
        clear h0 h1 h2
        go_enter Try.func28, Try.ntmps28
        go_wp2
        refine bodyPost_ret (results_cell_row rfl _ _ w.heap.size 23 #[.int .i64 2, .int .i64 10, .int .i64 512, .int .i64 4, .int .i64 8, .int .i64 3, .int .i64 4, .int .i64 500, .int .i64 4, .int .i64 5000] (0, 0) (.struct dd) rfl (Row.made _ _ _) hdd rfl Try.infocf) rfl ?_
        exact ⟨rfl, bl_alloc (Below.refl _ _) _⟩
      · have g2 : (mode == 2) = false := by simpa using h2
        have HU := Lib.hid (show (usF mode).a = #[.int .i64 0, .int .i64 0, .int .i64 0, .int .i64 0, .int .i64 0, .int .i64 0, .int .i64 0, .int .i64 0, .int .i64 0, .int .i64 0] by unfold usF; rw [if_neg h0, if_neg h1, if_neg h2]; rfl)
        rw [HU.out]
        clear h0 h1 h2
        go_enter Try.func28, Try.ntmps28
        go_wp2
        refine bodyPost_ret (results_cell_row rfl _ _ w.heap.size 23 #[.int .i64 0, .int .i64 0, .int .i64 0, .int .i64 0, .int .i64 0, .int .i64 0, .int .i64 0, .int .i64 0, .int .i64 0, .int .i64 0] (0, 0) (.struct dd) rfl (Row.made _ _ _) hdd rfl Try.infocf) rfl ?_
        exact ⟨rfl, bl_alloc (Below.refl _ _) _⟩
end Go.Proofs.Ytgdpjaojlhdhdaa
namespace Go.Proofs.Ytgdpjaojlhdhdaa
open Go.RowKit


theorem longest_b (b : Bool) (w : World) : Calls Try.prog 292 #[.bool b] w fun e w' => e = .returned (.int .i64 (if b then 4000 else 2047)) ∧ w = w' := by
  cases b
  · go_enter Try.func292, Try.ntmps292
    go_wp2
    go_ret
    exact ⟨rfl, rfl⟩
  · go_enter Try.func292, Try.ntmps292
    go_wp2
    go_ret
    exact ⟨rfl, rfl⟩

/-- a field's length is added, if it may be -/
def Size1 (n k m ps : Nat) (sz : Int) (w : World) (e : Ending) (w' : World) : Prop :=
  (okAt n k m = true ∧ e = .returned (.bool true) ∧ Row w' ps 3 #[.int .i64 (sz + m)] ∧ Only (fun b => b = ps) w w') ∨ (okAt n k m = false ∧ e = .returned (.bool false) ∧ w = w')
set_option maxRecDepth 100000 in
set_option maxHeartbeats 1600000 in
theorem size1_any {pl ps n cap : Nat} {A Af : Option Addr} {sz : Int} (k m c : Nat) (w : World) (hl : Row w pl 40 #[.slice A n cap]) (hs : Row w ps 3 #[.int .i64 sz]) (hk : k < n) (hn : n ≤ 24) (h0 : 0 ≤ sz) (h1 : sz ≤ 1000000) (hm : m ≤ 9223372036854775807) :
    Calls Try.prog 291 #[.int .i64 k, .slice Af m c, .pointer (some ⟨pl, 0, none⟩), .pointer (some ⟨ps, 0, none⟩)] w (Size1 n k m ps sz w) := by
  have hcl : w.cell? ⟨pl, 0, none⟩ = some (.slice A n cap) := hl.read rfl
  have hcs : w.cell? ⟨ps, 0, none⟩ = some (.int .i64 sz) := hs.read rfl
  have hfs := hs.free 0
  have HROW := Lib.hid (hs.written 0 (.int .i64 (sz + m)))
  have HON := Lib.hid ((Only.refl (fun b => b = ps) w).set (p := ⟨ps, 0, none⟩) (.inl rfl) (.int .i64 (sz + m)))
  clear hs hl
  rcases Nat.eq_zero_or_pos m with hm0 | hm0
  · have HF := Lib.hid (show okAt n k m = false by unfold okAt; rw [decide_eq_false (by omega)]; rfl)
    subst hm0
    go_enter Try.func291, Try.ntmps291
    go_wp2
    go_ret
    exact .inr ⟨HF.out, rfl, rfl⟩
  · have hm1 : ¬ (m : Int) < 1 := by omega
    have hn1 : (1 : Int) ≤ n := by omega
    by_cases hl : k + 1 = n
    · have hb : ((k : Int) == (n : Int) - 1) = true := by simp; omega
      rcases Nat.lt_or_ge 4000 m with h4 | h4
      · have HF := Lib.hid (show okAt n k m = false by unfold okAt; rw [if_pos hl, decide_eq_false (show ¬ m ≤ 4000 by omega)]; simp)
        have h4' : (4000 : Int) < m := by omega
        clear hl
        go_enter Try.func291, Try.ntmps291
        go_wp2_with (go_at_call 292; refine (longest_b true _).mono ?_; rintro e w1 ⟨rfl, rfl⟩)
        go_ret
        exact .inr ⟨HF.out, rfl, rfl⟩
      · have HF := Lib.hid (show okAt n k m = true by unfold okAt; rw [if_pos hl, decide_eq_true h4, decide_eq_true (show 1 ≤ m by omega)]; rfl)
        have h4' : ¬ (4000 : Int) < m := by omega
        clear hl
        go_enter Try.func291, Try.ntmps291
        go_wp2_with (go_at_call 292; refine (longest_b true _).mono ?_; rintro e w1 ⟨rfl, rfl⟩)
        go_ret
        exact .inl ⟨HF.out, rfl, HROW.out, HON.out⟩
    · have hb : ((k : Int) == (n : Int) - 1) = false := by simp; omega
      rcases Nat.lt_or_ge 2047 m with h4 | h4
      · have HF := Lib.hid (show okAt n k m = false by unfold okAt; rw [if_neg hl, decide_eq_false (show ¬ m ≤ 2047 by omega)]; simp)
        have h4' : (2047 : Int) < m := by omega
        clear hl
        go_enter Try.func291, Try.ntmps291
        go_wp2_with (go_at_call 292; refine (longest_b false _).mono ?_; rintro e w1 ⟨rfl, rfl⟩)
        go_ret
        exact .inr ⟨HF.out, rfl, rfl⟩
      · have HF := Lib.hid (show okAt n k m = true by unfold okAt; rw [if_neg hl, decide_eq_true h4, decide_eq_true (show 1 ≤ m by omega)]; rfl)
        have h4' : ¬ (2047 : Int) < m := by omega
        clear hl
        go_enter Try.func291, Try.ntmps291
        go_wp2_with (go_at_call 292; refine (longest_b false _).mono ?_; rintro e w1 ⟨rfl, rfl⟩)
        go_ret
        exact .inl ⟨HF.out, rfl, HROW.out, HON.out⟩

/-- .. while fields are gone through -/
structure SizeInv (B pl ps n cap : Nat) (A : Option Addr) (sz : Int) (ls : List Nat) (w : World) (k : Nat) (w' : World) : Prop where
  box : Row w' pl 40 #[.slice A n cap]
  sum : Row w' ps 3 #[.int .i64 (sz + sumTo ls k)]
  ok : okTo ls k = true
  below : Below B w w'
theorem only_below {B : Nat} {w w' : World} {p : Nat} (h : Only (fun b => b = p) w w') (hp : B ≤ p) (hB : B ≤ w.heap.size) : Below B w w' := h.below hB (fun k hk hk' => by omega)
theorem each_size {A : Option Addr} {L : List RowB} {B pl ps n cap : Nat} {sz : Int} (w : World) (hL : L.length = n) (hn : n ≤ 24) (hs : ∀ W, Below B w W → RSrc W A L) (hm : ∀ m ∈ lens L, m ≤ 9223372036854775807) (hz0 : 0 ≤ sz) (hz1 : sz ≤ 46)
    (hB : B ≤ w.heap.size) (hps : B ≤ ps) (hne : ps ≠ pl) (h1 : Row w pl 40 #[.slice A n cap]) (h2 : Row w ps 3 #[.int .i64 sz]) :
    Calls Try.prog 290 #[.slice A n cap, .func (.func 291) #[] #[.pointer (some ⟨pl, 0, none⟩), .pointer (some ⟨ps, 0, none⟩)]] w fun e w' =>
      (e = .returned (.bool true) ∧ SizeInv B pl ps n cap A sz (lens L) w n w') ∨ (e = .returned (.bool false) ∧ okTo (lens L) n = false ∧ Below B w w') := by
  have hll : (lens L).length = n := by rw [length_lens, hL]
  refine each_any (K := 291) (caps := #[.pointer (some ⟨pl, 0, none⟩), .pointer (some ⟨ps, 0, none⟩)]) n cap (fun a W => enters Try.func291 (by kernel_rfl) rfl a W)
        (SizeInv B pl ps n cap A sz (lens L) w) (fun W' => okTo (lens L) n = false ∧ Below B w W') w hL (by omega)
        ⟨h1, by rw [sumTo_zero]; simpa using h2, okTo_zero _, Below.refl _ _⟩ (fun k W' hi => hs W' hi.below)
        (fun k W' r hr hi => ?_)
  have hk : k < n := by rw [← hL]; exact (List.getElem?_eq_some_iff.1 hr).1
  have hm9 : r.bs.length ≤ 9223372036854775807 := hm _ (List.mem_of_getElem? (lens_at hr))
  have hst := sumTo_bound hi.ok (by rw [hll]; omega)
  have hB' : B ≤ W'.heap.size := Nat.le_trans hB hi.below.size
  refine (size1_any (Af := r.A) (c := r.cap) k r.bs.length W' hi.box hi.sum hk hn (by omega) (by omega) hm9).mono ?_
  rintro e W2 (⟨g1, rfl, g2, g3⟩ | ⟨g1, rfl, rfl⟩)
  · refine .inl ⟨rfl, hi.box.only g3 (fun h => hne h.symm), ?_, ?_, hi.below.trans (only_below g3 hps hB')⟩
    · rw [sumTo_succ (lens_at hr)]
      have e9 : sz + ((sumTo (lens L) k + r.bs.length : Nat) : Int) = sz + (sumTo (lens L) k : Int) + (r.bs.length : Int) := by omega
      rw [e9]
      exact g2
    · rw [okTo_at (lens_at hr) hi.ok, hll, g1]
  · refine .inr ⟨rfl, ?_, hi.below⟩
    refine okTo_later (k := k + 1) ?_ (by omega)
    rw [okTo_at (lens_at hr) hi.ok, hll, g1]

set_option maxRecDepth 100000 in
set_option maxHeartbeats 1600000 in
theorem fsize_any {A : Option Addr} {L : List RowB} (n cap : Nat) (wd : Int) (w : World) (hL : L.length = n) (hn : n ≤ 9223372036854775807) (hs : RSrc w A L) (hm : ∀ m ∈ lens L, m ≤ 9223372036854775807) :
    Calls Try.prog 184 #[.slice A n cap, .int .i64 wd] w fun e w' => e = .returned (.int .i64 (szF (lens L) wd)) ∧ Below w.heap.size w w' := by
  have hll : (lens L).length = n := by rw [length_lens, hL]
  rcases Nat.eq_zero_or_pos n with h0 | h0
  · have HF := Lib.hid (show szF (lens L) wd = 0 by unfold szF; rw [if_neg (by omega)])
    subst h0
    clear hL hll hs hm
    go_enter Try.func184, Try.ntmps184
    go_wp2
    go_ret
    exact ⟨by rw [HF.out]; rfl, bl_alloc (Below.refl _ _) _⟩
  · have h0' : ¬ (n : Int) < 1 := by omega
    rcases Nat.lt_or_ge 24 n with h1 | h1
    · have HF := Lib.hid (show szF (lens L) wd = 0 by unfold szF; rw [if_neg (by omega)])
      have h1' : (24 : Int) < n := by omega
      clear hL hll hs hm
      go_enter Try.func184, Try.ntmps184
      go_wp2
      go_ret
      exact ⟨by rw [HF.out]; rfl, bl_alloc (Below.refl _ _) _⟩
    · have h1' : ¬ (24 : Int) < n := by omega
      have HF := Lib.hid (show szF (lens L) wd = if okTo (lens L) n = true then sizeF ((n : Int) - 1) wd + (lens L).sum else 0 by
        unfold szF
        rw [hll]
        by_cases h9 : okTo (lens L) n = true
        · rw [if_pos ⟨by omega, by omega, h9⟩, if_pos h9]
        · rw [if_neg (fun h => h9 h.2.2), if_neg h9])
      have HZ := Lib.hid (fun W => size_any ((n : Int) - 1) wd W)
      have hz := sizeF_nonneg ((n : Int) - 1) wd
      generalize sizeF ((n : Int) - 1) wd = sz at *
      obtain ⟨hz0, hz1⟩ := hz
      have HSUM := Lib.hid (show sumTo (lens L) n = (lens L).sum by rw [← hll]; exact sumTo_all _)
      have HE := Lib.hid (fun W hb (x1 : Row W w.heap.size 40 #[.slice A n cap]) x2 => each_size (B := w.heap.size) (pl := w.heap.size) (ps := w.heap.size + 1) (cap := cap) (sz := sz) W hL h1 (fun W' hb' => hs.later (Below.trans hb hb')) hm hz0 hz1 (Below.size hb) (by omega) (by omega) x1 x2)
      clear hL hll hs hm
      go_enter Try.func184, Try.ntmps184
      go_wp2_with (first
        | (go_at_call 250; refine (HZ.out _).mono ?_; rintro e w1 ⟨rfl, rfl⟩)
        | (go_at_call 290; refine (HE.out _ ?b ?x1 ?x2).mono ?_; rotate_left 3; rintro e w2 (⟨rfl, hi⟩ | ⟨rfl, hi, hb⟩); (have hc := hi.sum.read (i := 0) rfl; have HI := Lib.hid hi; clear hi); rotate_left 1; (have HI := Lib.hid hi; have HB := Lib.hid hb; clear hi hb); rotate_left 1))
      case b => exact bl_alloc (bl_alloc (Below.refl _ _) _) _
      case x1 => exact (Row.made _ _ _).more _
      case x2 => exact (by simpa using Row.made (w.alloc (.cells #[.slice A n cap] 40)) 3 #[.int .i64 sz])
      · go_ret
        refine ⟨?_, (bl_alloc (bl_alloc (Below.refl _ _) _) _).trans HI.out.below⟩
        rw [HF.out, if_pos HI.out.ok, ← HSUM.out]
        rfl
      · go_ret
        refine ⟨?_, (bl_alloc (bl_alloc (Below.refl _ _) _) _).trans HB.out⟩
        rw [HF.out, if_neg (by rw [HI.out]; decide)]
        rfl

theorem conv_src {w : World} {A : Option Addr} {l : List Nat} (n c : Nat) (hl : l.length = n) (h : Src w A (bts l)) (hb : ∀ b ∈ l, b < 256) : (convert 30 9 (.slice A n c)).run Try.prog w = .ok (.string (strOf l)) w := by
  subst hl
  cases A with
  | none =>
    have hl : l.length = 0 := by
      rcases Nat.eq_zero_or_pos l.length with h0 | h0
      · exact h0
      · obtain ⟨ad, h1, _⟩ := h (by rw [length_bts]; exact h0)
        cases h1
    have e : l = [] := List.eq_nil_of_length_eq_zero hl
    subst e
    exact run_convert_bytes_nil w 30 5 Try.underlying30 Try.underlying5 0 c 9 Try.underlying9
  | some ad =>
    have hx := run_convert_bytes_back (P := Try.prog) w 30 9 5 ad c (l.map UInt8.ofNat) Try.underlying30 Try.underlying5 Try.underlying9 (fun j hj => by
      have hj' : j < l.length := by simpa using hj
      have h1 : (bts l)[j]? = some (.int .u8 (l[j] : Nat)) := bts_at (List.getElem?_eq_getElem hj')
      obtain ⟨ad', h2, h3⟩ := h (by rw [length_bts]; omega)
      injection h2 with h2
      subst h2
      rw [h3 j _ h1, List.getElem_map]
      have h4 : (UInt8.ofNat l[j]).toNat = l[j] := UInt8.toNat_ofNat_of_lt' (hb _ (List.getElem_mem hj'))
      rw [h4])
    rw [List.length_map] at hx
    exact hx
theorem strOf_inj {a b : List Nat} (ha : ∀ x ∈ a, x < 256) (hb : ∀ x ∈ b, x < 256) (h : strOf a = strOf b) : a = b := by
  unfold strOf at h
  injection h with h
  have h1 : a.map UInt8.ofNat = b.map UInt8.ofNat := by
    have := congrArg Array.toList h
    simpa using this
  have h2 := congrArg (List.map UInt8.toNat) h1
  rw [List.map_map, List.map_map] at h2
  have e : ∀ l : List Nat, (∀ x ∈ l, x < 256) → l.map (UInt8.toNat ∘ UInt8.ofNat) = l := fun l hl => by
    have : l.map (UInt8.toNat ∘ UInt8.ofNat) = l.map id := List.map_congr_left fun x hx => UInt8.toNat_ofNat_of_lt' (hl x hx)
    rw [this, List.map_id]
  rw [e a ha, e b hb] at h2
  exact h2
theorem strOf_list (a : List Nat) : (strOf a).toList = a.map UInt8.ofNat := ByteArray.toList_mk _
theorem strOf_beq {a b : List Nat} (ha : ∀ x ∈ a, x < 256) (hb : ∀ x ∈ b, x < 256) : ((strOf a).toList == (strOf b).toList) = decide (a = b) := by
  rw [Bool.eq_iff_iff, decide_eq_true_iff, beq_iff_eq]
  refine ⟨fun h => strOf_inj ha hb ?_, fun h => by rw [h]⟩
  rw [strOf_list, strOf_list] at h
  unfold strOf
  rw [h]
set_option maxHeartbeats 400000 in
theorem equal_any {A B : Option Addr} {a b : List Nat} (n m c d : Nat) (w : World) (hn : a.length = n) (hm : b.length = m) (hA : Src w A (bts a)) (hB : Src w B (bts b)) (ha : ∀ x ∈ a, x < 256) (hb : ∀ x ∈ b, x < 256) :
    Calls Try.prog 294 #[.slice A n c, .slice B m d] w fun e w' => e = .returned (.bool (decide (a = b))) ∧ w = w' := by
  have c1 := conv_src n c hn hA ha
  have c2 := conv_src m d hm hB hb
  have HQ := Lib.hid (strOf_beq ha hb)
  clear hn hm hA hB ha hb
  go_enter Try.func294, Try.ntmps294
  go_wp2
  go_ret
  exact ⟨ret_bool HQ.out, rfl⟩

set_option maxHeartbeats 400000 in
theorem same1_any {pb nb capb : Nat} {ad : Addr} {r r' : RowB} (k : Nat) (w : World) (hp : Row w pb 40 #[.slice (some ad) nb capb]) (hc : w.cell? (ad.add k) = some r'.v) (hr : r.ok w) (hr' : r'.ok w) (hk : k < nb) :
    Calls Try.prog 293 #[.int .i64 k, .slice r.A r.bs.length r.cap, .pointer (some ⟨pb, 0, none⟩)] w fun e w' => e = .returned (.bool (decide (r.bs = r'.bs))) ∧ w = w' := by
  have hcb : w.cell? ⟨pb, 0, none⟩ = some (.slice (some ad) nb capb) := hp.read rfl
  have hc' : w.cell? (ad.add k) = some (.slice r'.A r'.bs.length r'.cap) := hc
  have HE := Lib.hid (equal_any r.bs.length r'.bs.length r.cap r'.cap w rfl rfl hr.1 hr'.1 hr.2.2.2 hr'.2.2.2)
  clear hp hc hr hr'
  generalize decide (r.bs = r'.bs) = q at *
  generalize r.bs.length = n1 at *
  generalize r'.bs.length = n2 at *
  go_enter Try.func293, Try.ntmps293
  go_wp2_with (go_at_call 294; refine HE.out.mono ?_; rintro e w1 ⟨rfl, rfl⟩)
  go_ret
  exact ⟨rfl, rfl⟩

/-- fields are the same so far -/
def sameTo (a b : List (List Nat)) (k : Nat) : Prop := ∀ j, j < k → a[j]? = b[j]?
theorem texts_at {L : List RowB} {k : Nat} {r : RowB} (h : L[k]? = some r) : (texts L)[k]? = some r.bs := by simp [texts, h]
theorem length_texts (L : List RowB) : (texts L).length = L.length := by simp [texts]
theorem sameTo_all {a b : List (List Nat)} (hl : a.length = b.length) (h : sameTo a b a.length) : a = b := by
  apply List.ext_getElem?
  intro j
  rcases Nat.lt_or_ge j a.length with h1 | h1
  · exact h j h1
  · rw [List.getElem?_eq_none h1, List.getElem?_eq_none (by omega)]
theorem ret_b {a b : Bool} (h : a = b) : Ending.returned (.bool a) = .returned (.bool b) := by rw [h]
theorem each_same {A B : Option Addr} {L M : List RowB} {pb n cap capb : Nat} (w : World) (hL : L.length = n) (hM : M.length = n) (hn : n ≤ 9223372036854775807) (hs : RSrc w A L) (hs' : RSrc w B M) (hp : Row w pb 40 #[.slice B n capb]) :
    Calls Try.prog 290 #[.slice A n cap, .func (.func 293) #[] #[.pointer (some ⟨pb, 0, none⟩)]] w fun e w' => e = .returned (.bool (decide (texts L = texts M))) ∧ w = w' := by
  refine (each_any (K := 293) (caps := #[.pointer (some ⟨pb, 0, none⟩)]) n cap (fun a W => enters Try.func293 (by kernel_rfl) rfl a W) (fun k W => sameTo (texts L) (texts M) k ∧ w = W) (fun W => texts L ≠ texts M ∧ w = W) w hL hn
    ⟨fun j hj => by omega, rfl⟩ (fun k W h => by rw [← h.2]; exact hs) (fun k W r hr h => ?_)).mono ?_
  · obtain ⟨h1, rfl⟩ := h
    have hk : k < n := by rw [← hL]; exact (List.getElem?_eq_some_iff.1 hr).1
    obtain ⟨ad, rfl, hc⟩ := hs' (by omega)
    obtain ⟨r', hr'⟩ : ∃ r', M[k]? = some r' := ⟨_, List.getElem?_eq_getElem (by omega)⟩
    obtain ⟨ad2, _, hc2⟩ := hs (by omega)
    refine (same1_any k w hp (hc k r' hr').1 (hc2 k r hr).2 (hc k r' hr').2 hk).mono ?_
    rintro e W2 ⟨rfl, rfl⟩
    by_cases he : r.bs = r'.bs
    · refine .inl ⟨ret_b (decide_eq_true he), fun j hj => ?_, rfl⟩
      rcases Nat.lt_or_ge j k with h2 | h2
      · exact h1 j h2
      · obtain rfl : j = k := by omega
        rw [texts_at hr, texts_at hr', he]
    · refine .inr ⟨ret_b (decide_eq_false he), fun h2 => he ?_, rfl⟩
      have h3 := texts_at hr
      rw [h2, texts_at hr'] at h3
      injection h3 with h3
      exact h3.symm
  · rintro e W (⟨rfl, h, rfl⟩ | ⟨rfl, h, rfl⟩)
    · exact ⟨ret_b (decide_eq_true (sameTo_all (by rw [length_texts, length_texts, hL, hM]) (by rw [length_texts, hL]; exact h))).symm, rfl⟩
    · exact ⟨ret_b (decide_eq_false h).symm, rfl⟩
set_option maxRecDepth 100000 in
set_option maxHeartbeats 400000 in
theorem fsame_any {A B : Option Addr} {L M : List RowB} (n m cap capb : Nat) (w : World) (hL : L.length = n) (hM : M.length = m) (hn : n ≤ 9223372036854775807) (hs : RSrc w A L) (hs' : RSrc w B M) :
    Calls Try.prog 187 #[.slice A n cap, .slice B m capb] w fun e w' => e = .returned (.bool (decide (texts L = texts M))) ∧ Below w.heap.size w w' := by
  by_cases h : n = m
  · subst h
    have HE := Lib.hid (fun W (hb : Below w.heap.size w W) (x : Row W w.heap.size 40 #[.slice B n capb]) => each_same (cap := cap) W hL hM hn (hs.later hb) (hs'.later hb) x)
    clear hL hM hs hs'
    generalize decide (texts L = texts M) = q at *
    have hnn : ((n : Int) == (n : Int)) = true := by simp
    go_enter Try.func187, Try.ntmps187
    go_wp2_with (go_at_call 290; refine (HE.out _ (bl_alloc (Below.refl _ _) _) (Row.made _ _ _)).mono ?_; rintro e w2 ⟨rfl, rfl⟩)
    go_ret
    exact ⟨rfl, bl_alloc (Below.refl _ _) _⟩
  · have HF := Lib.hid (show decide (texts L = texts M) = false from decide_eq_false fun h1 => h (by have := congrArg List.length h1; rw [length_texts, length_texts] at this; omega))
    have hnm : ((n : Int) == (m : Int)) = false := by simp; omega
    clear hL hM hs hs' h
    go_enter Try.func187, Try.ntmps187
    go_wp2
    go_ret
    exact ⟨by rw [HF.out]; rfl, bl_alloc (Below.refl _ _) _⟩
end Go.Proofs.Ytgdpjaojlhdhdaa
namespace Go.Proofs.Ytgdpjaojlhdhdaa
open Go.RowKit

theorem cutmay_any (x : Int) (w : World) : Calls Try.prog 248 #[.int .i64 x] w fun e w' => e = .returned (.bool (decide (0 < sizeF 1 x))) ∧ w = w' := by
  have HZ := Lib.hid (fun W => size_any 1 x W)
  go_enter Try.func248, Try.ntmps248
  go_wp2_with (go_at_call 250; (with_reducible refine (HZ.out _).mono ?_); rintro e w1 ⟨rfl, rfl⟩)
  go_ret
  exact ⟨rfl, rfl⟩
theorem lens_take_succ {L : List RowB} {k : Nat} {r : RowB} (h : L[k]? = some r) : (lens (L.take (k + 1))).sum = (lens (L.take k)).sum + r.bs.length := by
  obtain ⟨h1, h2⟩ := List.getElem?_eq_some_iff.1 h
  rw [List.take_add_one, h]
  simp [lens]
theorem lens_take_le (L : List RowB) (k : Nat) : (lens (L.take k)).sum ≤ (lens L).sum := by
  have h := List.take_append_drop k L
  have e : (lens L).sum = (lens (L.take k)).sum + (lens (L.drop k)).sum := by
    rw [← List.sum_append]
    unfold lens
    rw [← List.map_append, h]
  omega
set_option maxRecDepth 100000 in
set_option maxHeartbeats 1600000 in
theorem cutsum_any {A : Option Addr} {L : List RowB} (n cap : Nat) (w : World) (hL : L.length = n) (hn : n ≤ 1000) (hs : RSrc w A L) (hsum : (lens L).sum ≤ 1000000) :
    Calls Try.prog 249 #[.slice A n cap] w fun e w' => e = .returned (.int .i64 ((lens L).sum : Nat)) ∧ w = w' := by
  have HS := Lib.hid hs
  have HL := Lib.hid hL
  have HM := Lib.hid (fun k => Nat.le_trans (lens_take_le L k) hsum)
  have HT := Lib.hid (fun (k : Nat) (r : RowB) (h : L[k]? = some r) => lens_take_succ h)
  have HA := Lib.hid (show (lens (L.take n)).sum = (lens L).sum by rw [← hL, List.take_length])
  clear hs hL hsum
  go_enter Try.func249, Try.ntmps249
  go_wp2
  go_loopw [3, 8] (fun s i wr => ∃ k : Nat, k ≤ n ∧ s = .int .i64 ((lens (L.take k)).sum : Nat) ∧ i = .int .i64 k ∧ w = wr) (fun _ i _ => n - (intOf i).toNat)
  case atStart => exact ⟨0, by omega, by simp [lens], rfl, rfl⟩
  case round =>
    obtain ⟨k, hk, rfl, rfl, rfl⟩ := hrel
    by_cases hlt : k < n
    · obtain ⟨ad, rfl, hc⟩ := HS.out (by rw [HL.out]; omega)
      obtain ⟨r, hr⟩ : ∃ r, L[k]? = some r := ⟨_, List.getElem?_eq_getElem (by rw [HL.out]; exact hlt)⟩
      have f0 := (hc k r hr).1
      have HT1 := Lib.hid (HT.out k r hr)
      have b1 := HM.out (k + 1)
      have b0 := HM.out k
      rw [HT1.out] at b1
      have hkI : (k : Int) < (n : Int) := by omega
      unfold RowB.v at f0
      generalize (lens (L.take k)).sum = s at *
      generalize hbl : r.bs.length = bl at *
      clear hc hr
      go_wp2
      go_roundw
      case rel => exact ⟨k + 1, by omega, by rw [HT1.out]; go_num, by go_num, by first | rfl | trivial⟩
      case measure => simp [intOf]; omega
    · have hkn : k = n := by omega
      subst hkn
      have b0 := HM.out k
      rw [HA.out] at *
      go_wp2
      go_ret
      exact ⟨rfl, rfl⟩
/-- how many bytes of what waits the field behind others has -/
def nextF (wl : Nat) (ls : List Nat) (room x : Int) : Int := if 24 ≤ ls.length then 0 else min (wl : Int) (room - (ls.sum : Int) - sizeF ls.length x)
set_option maxRecDepth 100000 in
set_option maxHeartbeats 1600000 in
theorem cutnext_any {A W : Option Addr} {L : List RowB} (wl wc n cap : Nat) (room x : Int) (w : World) (hL : L.length = n) (hn : n ≤ 1000) (hr0 : 0 ≤ room) (hr1 : room ≤ 4000) (hs : RSrc w A L) (hsum : (lens L).sum ≤ 1000000) :
    Calls Try.prog 245 #[.slice W wl wc, .slice A n cap, .int .i64 room, .int .i64 x] w fun e w' => e = .returned (.int .i64 (nextF wl (lens L) room x)) ∧ w = w' := by
  have HSU := Lib.hid (cutsum_any n cap w hL hn hs hsum)
  have HSZ := Lib.hid (fun W => size_any n x W)
  have hz : 0 ≤ sizeF n x ∧ sizeF n x ≤ 46 := sizeF_nonneg n x
  have HLL := Lib.hid (show (lens L).length = n by rw [length_lens, hL])
  by_cases h24 : 24 ≤ n
  · have HF := Lib.hid (show nextF wl (lens L) room x = 0 by unfold nextF; rw [if_pos (by rw [HLL.out]; exact h24)])
    clear hs hsum hL
    go_enter Try.func245, Try.ntmps245
    go_wp2
    go_ret
    exact ⟨by rw [HF.out]; rfl, rfl⟩
  · have HF := Lib.hid (show nextF wl (lens L) room x = min (wl : Int) (room - ((lens L).sum : Int) - sizeF n x) by unfold nextF; rw [if_neg (by rw [HLL.out]; exact h24), HLL.out])
    generalize sizeF n x = z at *
    generalize (lens L).sum = sm at *
    clear hs hL
    go_enter Try.func245, Try.ntmps245
    go_wp2_with (first
      | (go_at_call 249; (with_reducible refine HSU.out.mono ?_); rintro e w1 ⟨rfl, rfl⟩)
      | (go_at_call 250; (with_reducible refine (HSZ.out _).mono ?_); rintro e w1 ⟨rfl, rfl⟩))
    go_ret
    exact ⟨by rw [HF.out]; rfl, rfl⟩
end Go.Proofs.Ytgdpjaojlhdhdaa
namespace Go.Proofs.Ytgdpjaojlhdhdaa
open Go.RowKit

theorem Try.qinfo5 : (Try.prog.info? 5).map (fun i => (i.zero, i.size, i.bytes)) = some (some (.int .u8 0), 1, 1) := by kernel_rfl
theorem qinfo5_parts : ∃ i, Try.prog.info? 5 = some i ∧ i.zero = some (.int .u8 0) ∧ i.size = 1 ∧ i.bytes = 1 := info_parts Try.qinfo5
theorem Try.info284 : (Try.prog.info? 284).map (fun i => (i.zero, i.size, i.bytes)) = some (some (.agg #[.int .u64 0, .slice none 0 0, .bool false]), 3, 40) := by kernel_rfl
theorem info284_parts : ∃ i, Try.prog.info? 284 = some i ∧ i.zero = some (.agg #[.int .u64 0, .slice none 0 0, .bool false]) ∧ i.size = 3 ∧ i.bytes = 40 := info_parts Try.info284

/-- bytes as values -/
def qbts (l : List Nat) : List Value := l.map fun b : Nat => .int .u8 b
theorem qlength_bts (l : List Nat) : (qbts l).length = l.length := by simp [qbts]
theorem qbts_one (l : List Nat) : ∀ v ∈ qbts l, v.oneCell' = true := by
  intro v hv
  simp only [qbts, List.mem_map] at hv
  obtain ⟨b, _, rfl⟩ := hv
  rfl
theorem qbts_at {l : List Nat} {i b : Nat} (h : l[i]? = some b) : (qbts l)[i]? = some (.int .u8 b) := by simp [qbts, h]
theorem qbts_append (l k : List Nat) : qbts (l ++ k) = qbts l ++ qbts k := by simp [qbts]
theorem qbts_drop (l : List Nat) (n : Nat) : qbts (l.drop n) = (qbts l).drop n := by simp [qbts]

/-- where a slice's cells lie -/
def QSrcB (w : World) (A : Option Addr) (xs : List Value) : Prop := 0 < xs.length → ∃ b off, A = some ⟨b, off, none⟩ ∧ ∀ j u, xs[j]? = some u → w.cell? ⟨b, off + j, none⟩ = some u
theorem QSrcB.later {w v : World} {A : Option Addr} {xs : List Value} (h : QSrcB w A xs) (hb : Below w.heap.size w v) : QSrcB v A xs := by
  intro h0
  obtain ⟨b, off, rfl, hc⟩ := h h0
  exact ⟨b, off, rfl, fun j u hu => kept_box hb (hc j u hu)⟩

/-- a list of the call's own, whose memory may reach beyond what it can hold -/
def OwnX (w : World) (B e size : Nat) (v : Value) (n : Nat) (xs : List Value) : Prop :=
  xs.length = n * size ∧ ((v = .slice none 0 0 ∧ n = 0) ∨
    ∃ g cap cur, v = .slice (some ⟨g, 0, none⟩) n cap ∧ B ≤ g ∧ w.heap[g]? = some (.cells cur e (0, 0)) ∧ n ≤ cap ∧ cap ≤ maxLen ∧ cap * size ≤ cur.size ∧ cur.toList.take (n * size) = xs)
section
variable {w v : World} {B e size : Nat} {x : Value} {n : Nat} {xs : List Value}
theorem OwnX.nil : OwnX w B e size (.slice none 0 0) 0 [] := ⟨by simp, .inl ⟨rfl, rfl⟩⟩
theorem OwnX.of (h : w.ownsRow B e size x n xs) : OwnX w B e size x n xs := by
  refine ⟨h.1, ?_⟩
  rcases h.2 with h0 | ⟨g, cap, cur, h1, h2, h3, h4, h5, h6, h7⟩
  · exact .inl h0
  · exact .inr ⟨g, cap, cur, h1, h2, h3, h4, h5, by omega, h7⟩
theorem OwnX.lt (h : OwnX w B e size x n xs) : ∀ k, x.ownBlock = some k → B ≤ k ∧ k < w.heap.size := by
  intro k hk
  rcases h.2 with ⟨rfl, _⟩ | ⟨g, cap, cur, rfl, hb, hh, _⟩
  · simp [Value.ownBlock] at hk
  · have e : g = k := by simpa [Value.ownBlock] using hk
    subst e
    refine ⟨hb, ?_⟩
    rcases Nat.lt_or_ge g w.heap.size with h1 | h1
    · exact h1
    · rw [Array.getElem?_eq_none h1] at hh; cases hh
theorem OwnX.only {S : Nat → Prop} (h : OwnX w B e size x n xs) (ho : Only S w v) (hS : ∀ k, x.ownBlock = some k → ¬ S k) : OwnX v B e size x n xs := by
  refine ⟨h.1, ?_⟩
  rcases h.2 with h0 | ⟨g, cap, cur, rfl, hb, hh, h1⟩
  · exact .inl h0
  · exact .inr ⟨g, cap, cur, rfl, hb, (ho.same g (h.lt g rfl).2 (hS g rfl)).trans hh, h1⟩
theorem OwnX.kept {row : Option Nat} (h : OwnX w B e size x n xs) (hg : w.grownBy v row) (hne : ∀ k, x.ownBlock = some k → row ≠ some k) : OwnX v B e size x n xs := by
  refine ⟨h.1, ?_⟩
  rcases h.2 with h0 | ⟨g, cap, cur, rfl, hb, hh, h1⟩
  · exact .inl h0
  · exact .inr ⟨g, cap, cur, rfl, hb, (hg.block g (h.lt g rfl).2 (fun e => hne g rfl e.symm)).trans hh, h1⟩
theorem OwnX.alloc (h : OwnX w B e size x n xs) (o : Obj) : OwnX (w.alloc o) B e size x n xs :=
  h.only (S := fun _ => False) (.of_below (bl_alloc (Below.refl _ _) o)) (fun _ _ h => h)
theorem OwnX.drawn (h : OwnX w B e size x n xs) : OwnX w.drew B e size x n xs := h
theorem OwnX.shape (h : OwnX w B e size x n xs) : ∃ A cap, x = .slice A n cap ∧ n ≤ cap ∧ cap ≤ maxLen := by
  rcases h.2 with ⟨rfl, h0⟩ | ⟨g, cap, cur, rfl, _, _, h1, h2, _⟩
  · exact ⟨none, 0, by rw [h0], by omega, by simp [maxLen]⟩
  · exact ⟨_, cap, rfl, h1, h2⟩
theorem add_zero_q (g j : Nat) : (⟨g, 0, none⟩ : Addr).add j = ⟨g, j, none⟩ := by
  unfold Addr.add
  split
  · rename_i h
    rw [h]
  · simp
theorem OwnX.cells (h : OwnX w B e size x n xs) {g : Nat} (hg : x.ownBlock = some g) : ∀ j u, xs[j]? = some u → w.cell? ⟨g, j, none⟩ = some u := by
  intro j u hu
  rcases h.2 with ⟨rfl, _⟩ | ⟨g', cap, cur, rfl, _, hgg, _, _, _, htake⟩
  · simp [Value.ownBlock] at hg
  · simp [Value.ownBlock] at hg
    subst hg
    rw [cell_of_row w g' j cur e (0, 0) hgg]
    rw [← htake, List.getElem?_take] at hu
    split at hu
    · simpa using hu
    · cases hu
theorem OwnX.free (h : OwnX w B e size x n xs) {g : Nat} (hg : x.ownBlock = some g) (i : Nat) : w.frozen? ⟨g, i, none⟩ = false := by
  rcases h.2 with ⟨rfl, _⟩ | ⟨g', cap, cur, rfl, _, hgg, _⟩
  · simp [Value.ownBlock] at hg
  · simp [Value.ownBlock] at hg
    subst hg
    simp [World.frozen?, hgg]
theorem OwnX.form (h : OwnX w B e size x n xs) (hn : 0 < n) : ∃ g cap, x = .slice (some ⟨g, 0, none⟩) n cap ∧ n ≤ cap ∧ cap ≤ maxLen := by
  rcases h.2 with ⟨_, h0⟩ | ⟨g, cap, cur, hv, _, _, h1, h2, _⟩
  · omega
  · exact ⟨g, cap, hv, h1, h2⟩
/-- one cell written -/
theorem OwnX.stored (h : OwnX w B e size x n xs) {g : Nat} (hg : x.ownBlock = some g) (j : Nat) (u : Value) : OwnX (w.setCell ⟨g, j, none⟩ u) B e size x n (xs.set j u) := by
  refine ⟨by rw [List.length_set]; exact h.1, ?_⟩
  rcases h.2 with ⟨rfl, _⟩ | ⟨g', cap, cur, rfl, hb, hh, h1, h2, h3, h4⟩
  · simp [Value.ownBlock] at hg
  · simp [Value.ownBlock] at hg
    subst hg
    refine .inr ⟨g', cap, cur.setIfInBounds j u, rfl, hb, ?_, h1, h2, by simpa using h3, ?_⟩
    · simp [World.setCell, Array.getElem?_modify, hh]
    · rw [Array.toList_setIfInBounds, List.take_set, h4]
/-- the first elements alone -/
theorem OwnX.front (h : OwnX w B e size x n xs) {m : Nat} (hm : m ≤ n) (A : Option Addr) (cap : Nat) (hx : x = .slice A n cap) (h0 : 0 < n) : OwnX w B e size (.slice A m m) m (xs.take (m * size)) := by
  have hle : m * size ≤ n * size := Nat.mul_le_mul_right _ hm
  refine ⟨by rw [List.length_take, h.1]; omega, ?_⟩
  rcases h.2 with ⟨_, hn⟩ | ⟨g, c, cur, rfl, hb, hh, h1, h2, h3, h4⟩
  · omega
  · injection hx with hA _ _
    subst hA
    have hc : m * size ≤ c * size := Nat.mul_le_mul_right _ (by omega)
    refine .inr ⟨g, m, cur, rfl, hb, hh, Nat.le_refl _, by omega, by omega, ?_⟩
    rw [← h4, List.take_take]
    congr 1
    omega
end

/-- append to such a list -/
theorem run_append_x {P : Program} {w : World} {B t ty e : Nat} {i : TypeInfo} {z : Value} {size bytes : Nat} (ht : P.underlying t = some (.slice e)) (hi : P.info? e = some i) (hz : i.zero = some z)
    (hsize : i.size = size) (hby : i.bytes = bytes) (hzs : z.cells.size = size)
    {v : Value} {n : Nat} {xs : List Value} (hown : OwnX w B e size v n xs)
    (a : Addr) (m c : Nat) (news : List Value) (hl : news.length = m * size) (hnews : ∀ j u, news[j]? = some u → w.cell? (a.add j) = some u) (h1 : ∀ u ∈ news, u.oneCell' = true)
    (h63 : n + m ≤ 1000000000) (hbytes : (n + m) * bytes ≤ 140737488355328) (hbase : B ≤ w.heap.size) :
    ∃ v' w', (Builtin.append_ #[t, t] ty #[v, .slice (some a) m c]).run P w = .ok v' w' ∧ OwnX w' B e size v' (n + m) (xs ++ news) ∧ w.grownBy w' v.ownBlock ∧ (v'.ownBlock = v.ownBlock ∨ v'.ownBlock = some w.heap.size) := by
  subst hsize
  subst hby
  have hlen : (xs ++ news).length = (n + m) * i.size := by rw [List.length_append, hown.1, hl, Nat.add_mul]
  have grown : ∀ (old : Nat), old < n + m → ∀ (row : Option Nat),
      OwnX (w.drew.alloc (.cells (xs.toArray ++ news.toArray ++ Builtin.zeroCells z.cells (grownCap w (n + m) old e - (n + m))) e)) B e i.size
        (.slice (some ⟨w.heap.size, 0, none⟩) (n + m) (grownCap w (n + m) old e)) (n + m) (xs ++ news) ∧
      w.grownBy (w.drew.alloc (.cells (xs.toArray ++ news.toArray ++ Builtin.zeroCells z.cells (grownCap w (n + m) old e - (n + m))) e)) row := by
    intro old ho row
    have hge := grownCap_ge w (n + m) old e
    have hcm : grownCap w (n + m) old e ≤ maxLen := grownCap_le_maxLen w (n + m) old e (by unfold maxLen; omega)
    refine ⟨⟨hlen, .inr ⟨w.heap.size, _, _, rfl, hbase, heap_alloc_new w.drew _, hge, hcm, ?_, ?_⟩⟩, ⟨rfl, rfl, rfl, by simp, fun k hk _ => Below.heap_alloc w.drew _ k hk⟩⟩
    · simp only [Array.size_append, List.size_toArray, size_zeroCells, hzs, hown.1, hl, ← Nat.add_mul]
      exact Nat.mul_le_mul_right _ (by omega)
    · simp only [Array.toList_append, List.append_assoc]
      rw [← List.append_assoc, ← hlen]
      exact List.take_left
  rcases hown.2 with ⟨rfl, rfl⟩ | ⟨g, cap, cur, rfl, hbg, hg, hnc, hcm, hcs, htake⟩
  · have hx : xs = [] := List.eq_nil_of_length_eq_zero (by simpa using hown.1)
    subst hx
    by_cases hm : m = 0
    · subst hm
      have hn : news = [] := List.eq_nil_of_length_eq_zero (by simpa using hl)
      subst hn
      refine ⟨.slice none 0 0, w, ?_, OwnX.nil, ⟨rfl, rfl, rfl, Nat.le_refl _, fun _ _ _ => rfl⟩, .inl rfl⟩
      simp [Builtin.append_, run_underlying ht, sizeOf, typeInfo, hi, Builtin.lenOf, Builtin.firstCells, loadCells, loadCellsFrom]
    · have hr := run_append_nil (P := P) w t ty e i z ht hi hz a m c news hl hnews (by omega) (by omega) (by have hb := hbytes; simp only [Nat.zero_add] at hb; omega)
      have hgr := grown 0 (by omega) (Value.ownBlock (.slice none 0 0))
      simp only [Nat.zero_add, List.nil_append, Array.empty_append] at hgr ⊢
      exact ⟨_, _, hr, hgr.1, hgr.2, .inr rfl⟩
  · by_cases hroom : n + m ≤ cap
    · have hc' : (n + m) * i.size ≤ cap * i.size := Nat.mul_le_mul_right _ hroom
      have hfit : n * i.size + news.length ≤ cur.size := by rw [hl, ← Nat.add_mul]; omega
      have hr := run_append_room (P := P) w t ty e i ht hi g n cap cur hg a m c news hl hnews h1 hroom hfit
      refine ⟨_, _, hr, ⟨hlen, .inr ⟨g, cap, _, rfl, hbg, setRow_heap w g cur _ e _ hg, hroom, hcm, ?_, ?_⟩⟩, ⟨rfl, rfl, rfl, by simp, fun k _ hk => setRow_other w g k _ (fun e => hk (by simp [Value.ownBlock, e]))⟩, .inl rfl⟩
      · simp only [List.size_toArray, List.length_append, List.length_take, List.length_drop, Array.length_toList]
        omega
      · rw [htake, ← hlen]
        exact List.take_left
    · have holds : ∀ j u, xs[j]? = some u → w.cell? ((⟨g, 0, none⟩ : Addr).add j) = some u := fun j u hu => by rw [add_zero_q]; exact hown.cells (g := g) rfl j u hu
      have hr := run_append_grow (P := P) w t ty e i z ht hi hz ⟨g, 0, none⟩ n cap xs hown.1 holds a m c news hl hnews (by omega) (by omega) (growslice_fits (by omega) hbytes)
      have hgr := grown cap (by omega) (Value.ownBlock (.slice (some ⟨g, 0, none⟩) n cap))
      exact ⟨_, _, hr, hgr.1, hgr.2, .inr rfl⟩

/-- a text: its number, where its bytes lie, its bytes, whether some of it was taken -/
structure Txt where
  id : Nat
  g : Nat
  off : Nat
  cap : Nat
  bs : List Nat
  bg : Bool
def Txt.waits (t : Txt) : Value := .slice (some ⟨t.g, t.off, none⟩) t.bs.length t.cap
def txc (ts : List Txt) : List Value := ts.flatMap fun t => [.int .u64 t.id, t.waits, .bool t.bg]
theorem txc_cons (t : Txt) (r : List Txt) : txc (t :: r) = .int .u64 t.id :: t.waits :: .bool t.bg :: txc r := rfl
theorem txc_append (a b : List Txt) : txc (a ++ b) = txc a ++ txc b := by simp [txc]
theorem length_txc (ts : List Txt) : (txc ts).length = ts.length * 3 := by
  induction ts with
  | nil => rfl
  | cons t r ih => rw [txc_cons]; simp [ih]; omega
theorem txc_one (ts : List Txt) : ∀ v ∈ txc ts, v.oneCell' = true := by
  intro v hv
  simp only [txc, List.mem_flatMap] at hv
  obtain ⟨t, _, hv⟩ := hv
  simp at hv
  rcases hv with rfl | rfl | rfl <;> rfl
theorem txc_at {ts : List Txt} {i : Nat} {t : Txt} (h : ts[i]? = some t) : (txc ts)[i * 3]? = some (.int .u64 t.id) ∧ (txc ts)[i * 3 + 1]? = some t.waits ∧ (txc ts)[i * 3 + 2]? = some (.bool t.bg) := by
  induction ts generalizing i with
  | nil => simp at h
  | cons z r ih =>
    cases i with
    | zero => simp at h; subst h; exact ⟨rfl, rfl, rfl⟩
    | succ i =>
      have h2 := ih (i := i) (by simpa using h)
      rw [txc_cons, show (i + 1) * 3 = i * 3 + 1 + 1 + 1 by omega]
      simpa using h2
theorem txc_take (ts : List Txt) (k : Nat) : (txc ts).take (k * 3) = txc (ts.take k) := by
  induction ts generalizing k with
  | nil => simp [txc]
  | cons t r ih =>
    cases k with
    | zero => simp [txc]
    | succ k =>
      rw [txc_cons, show (k + 1) * 3 = k * 3 + 1 + 1 + 1 by omega, List.take_succ_cons, List.take_succ_cons, List.take_succ_cons, ih, List.take_succ_cons, txc_cons]
theorem txc_drop (ts : List Txt) (k : Nat) : (txc ts).drop (k * 3) = txc (ts.drop k) := by
  induction ts generalizing k with
  | nil => simp [txc]
  | cons t r ih =>
    cases k with
    | zero => simp
    | succ k =>
      rw [txc_cons, show (k + 1) * 3 = k * 3 + 1 + 1 + 1 by omega, List.drop_succ_cons, List.drop_succ_cons, List.drop_succ_cons, ih, List.drop_succ_cons]

/-- a text's bytes lie where it says -/
def Txt.lies (B : Nat) (w : World) (t : Txt) : Prop :=
  B ≤ t.g ∧ t.bs.length ≤ t.cap ∧ t.cap ≤ 9223372036854775807 ∧ ∃ cs, Row w t.g 5 cs ∧ ∀ j b, t.bs[j]? = some b → cs[t.off + j]? = some (.int .u8 (b : Nat))
theorem Txt.lies.only {B : Nat} {w v : World} {t : Txt} {S : Nat → Prop} (h : t.lies B w) (ho : Only S w v) (hS : ¬ S t.g) : t.lies B v := by
  obtain ⟨h1, h2, h3, cs, h4, h5⟩ := h
  exact ⟨h1, h2, h3, cs, h4.only ho hS, h5⟩
theorem Txt.lies.src {B : Nat} {w : World} {t : Txt} (h : t.lies B w) : QSrcB w (some ⟨t.g, t.off, none⟩) (qbts t.bs) := by
  obtain ⟨_, _, _, cs, h4, h5⟩ := h
  intro _
  refine ⟨_, _, rfl, fun j u hu => ?_⟩
  have hj : j < t.bs.length := by have := (List.getElem?_eq_some_iff.1 hu).1; rw [qlength_bts] at this; exact this
  have hb := qbts_at (List.getElem?_eq_getElem hj)
  rw [hu] at hb
  injection hb with hb
  rw [hb]
  exact h4.read (h5 j _ (List.getElem?_eq_getElem hj))

/-- the queue at block p has this room, this last number, these texts; all above block B -/
def QRep (B : Nat) (w : World) (p : Nat) (room : Int) (last : Nat) (ts : List Txt) : Prop :=
  B ≤ p ∧ B ≤ w.heap.size ∧ ∃ sv, Row w p 170 #[.int .i64 room, .int .u64 last, sv] ∧ OwnX w B 284 3 sv ts.length (txc ts) ∧ ∀ t ∈ ts, t.lies B w
theorem QRep.only {B : Nat} {w v : World} {p : Nat} {room : Int} {last : Nat} {ts : List Txt} {S : Nat → Prop} (h : QRep B w p room last ts) (ho : Only S w v) (hS : ∀ k, S k → k < B) : QRep B v p room last ts := by
  obtain ⟨h1, h2, sv, h3, h4, h5⟩ := h
  exact ⟨h1, by have := ho.size; omega, sv, h3.only ho (fun hk => by have := hS _ hk; omega), h4.only ho (fun k hk hk' => by have := (h4.lt k hk).1; have := hS _ hk'; omega), fun t ht => (h5 t ht).only ho (fun hk => by have := hS _ hk; have := (h5 t ht).1; omega)⟩
theorem QRep.later {B : Nat} {w v : World} {p : Nat} {room : Int} {last : Nat} {ts : List Txt} (h : QRep B w p room last ts) (hb : Below w.heap.size w v) : QRep B v p room last ts :=
  h.only (S := fun _ => False) (.of_below hb) (fun _ h => h.elim)
end Go.Proofs.Ytgdpjaojlhdhdaa
