/-
  How many bytes fields have; whether two are equal. Fields' bytes, one behind the other. glue: a glue in memory; its small calls. glue: a field comes.
-/
import Derived.Test.YtjobgnemklpiaaaJGluePlain07
import Derived.Laws.Strings
import Derived.Test.YtjobgnemklpiaaaJGluePlain01
namespace Go.Proofs.Ytjobgnemklpiaaa
open Go.RowKit


theorem longest_b (b : Bool) (w : World) : Calls Try.prog 214 #[.bool b] w fun e w' => e = .returned (.int .i64 (if b then 4000 else 2047)) ∧ w = w' := by
  cases b
  · go_enter Try.func214, Try.ntmps214
    go_wp2
    go_ret
    exact ⟨rfl, rfl⟩
  · go_enter Try.func214, Try.ntmps214
    go_wp2
    go_ret
    exact ⟨rfl, rfl⟩

/-- a field's length is added, if it may be -/
def Size1 (n k m ps : Nat) (sz : Int) (w : World) (e : Ending) (w' : World) : Prop :=
  (okAt n k m = true ∧ e = .returned (.bool true) ∧ Row w' ps 3 #[.int .i64 (sz + m)] ∧ Only (fun b => b = ps) w w') ∨ (okAt n k m = false ∧ e = .returned (.bool false) ∧ w = w')
set_option maxRecDepth 100000 in
set_option maxHeartbeats 1600000 in
theorem size1_any {pl ps n cap : Nat} {A Af : Option Addr} {sz : Int} (k m c : Nat) (w : World) (hl : Row w pl 57 #[.slice A n cap]) (hs : Row w ps 3 #[.int .i64 sz]) (hk : k < n) (hn : n ≤ 24) (h0 : 0 ≤ sz) (h1 : sz ≤ 1000000) (hm : m ≤ 9223372036854775807) :
    Calls Try.prog 213 #[.int .i64 k, .slice Af m c, .pointer (some ⟨pl, 0, none⟩), .pointer (some ⟨ps, 0, none⟩)] w (Size1 n k m ps sz w) := by
  have hcl : w.cell? ⟨pl, 0, none⟩ = some (.slice A n cap) := hl.read rfl
  have hcs : w.cell? ⟨ps, 0, none⟩ = some (.int .i64 sz) := hs.read rfl
  have hfs := hs.free 0
  have HROW := Lib.hid (hs.written 0 (.int .i64 (sz + m)))
  have HON := Lib.hid ((Only.refl (fun b => b = ps) w).set (p := ⟨ps, 0, none⟩) (.inl rfl) (.int .i64 (sz + m)))
  clear hs hl
  rcases Nat.eq_zero_or_pos m with hm0 | hm0
  · have HF := Lib.hid (show okAt n k m = false by unfold okAt; rw [decide_eq_false (by omega)]; rfl)
    subst hm0
    go_enter Try.func213, Try.ntmps213
    go_wp2
    go_ret
    exact .inr ⟨HF.out, rfl, rfl⟩
  · have hm1 : ¬ (m : Int) < 1 := by omega
    have hn1 : (1 : Int) ≤ n := by omega
    by_cases hl : k + 1 = n
    · have hb : ((k : Int) == (n : Int) - 1) = true := by simp; omega
      rcases Nat.lt_or_ge 4000 m with h4 | h4
      · have HF := Lib.hid (show okAt n k m = false by unfold okAt; rw [if_pos hl, decide_eq_false (show ¬ m ≤ 4000 by omega)]; simp)
        have h4' : (4000 : Int) < m := by omega
        clear hl
        go_enter Try.func213, Try.ntmps213
        go_wp2_with (go_at_call 214; refine (longest_b true _).mono ?_; rintro e w1 ⟨rfl, rfl⟩)
        go_ret
        exact .inr ⟨HF.out, rfl, rfl⟩
      · have HF := Lib.hid (show okAt n k m = true by unfold okAt; rw [if_pos hl, decide_eq_true h4, decide_eq_true (show 1 ≤ m by omega)]; rfl)
        have h4' : ¬ (4000 : Int) < m := by omega
        clear hl
        go_enter Try.func213, Try.ntmps213
        go_wp2_with (go_at_call 214; refine (longest_b true _).mono ?_; rintro e w1 ⟨rfl, rfl⟩)
        go_ret
        exact .inl ⟨HF.out, rfl, HROW.out, HON.out⟩
    · have hb : ((k : Int) == (n : Int) - 1) = false := by simp; omega
      rcases Nat.lt_or_ge 2047 m with h4 | h4
      · have HF := Lib.hid (show okAt n k m = false by unfold okAt; rw [if_neg hl, decide_eq_false (show ¬ m ≤ 2047 by omega)]; simp)
        have h4' : (2047 : Int) < m := by omega
        clear hl
        go_enter Try.func213, Try.ntmps213
        go_wp2_with (go_at_call 214; refine (longest_b false _).mono ?_; rintro e w1 ⟨rfl, rfl⟩)
        go_ret
        exact .inr ⟨HF.out, rfl, rfl⟩
      · have HF := Lib.hid (show okAt n k m = true by unfold okAt; rw [if_neg hl, decide_eq_true h4, decide_eq_true (show 1 ≤ m by omega)]; rfl)
        have h4' : ¬ (2047 : Int) < m := by omega
        clear hl
        go_enter Try.func213, Try.ntmps213
        go_wp2_with (go_at_call 214; refine (longest_b false _).mono ?_; rintro e w1 ⟨rfl, rfl⟩)
        go_ret
        exact .inl ⟨HF.out, rfl, HROW.out, HON.out⟩

/-- .. while fields are gone through -/
structure SizeInv (B pl ps n cap : Nat) (A : Option Addr) (sz : Int) (ls : List Nat) (w : World) (k : Nat) (w' : World) : Prop where
  box : Row w' pl 57 #[.slice A n cap]
  sum : Row w' ps 3 #[.int .i64 (sz + sumTo ls k)]
  ok : okTo ls k = true
  below : Below B w w'
theorem only_below {B : Nat} {w w' : World} {p : Nat} (h : Only (fun b => b = p) w w') (hp : B ≤ p) (hB : B ≤ w.heap.size) : Below B w w' := h.below hB (fun k hk hk' => by omega)
theorem each_size {A : Option Addr} {L : List RowB} {B pl ps n cap : Nat} {sz : Int} (w : World) (hL : L.length = n) (hn : n ≤ 24) (hs : ∀ W, Below B w W → RSrc W A L) (hm : ∀ m ∈ lens L, m ≤ 9223372036854775807) (hz0 : 0 ≤ sz) (hz1 : sz ≤ 46)
    (hB : B ≤ w.heap.size) (hps : B ≤ ps) (hne : ps ≠ pl) (h1 : Row w pl 57 #[.slice A n cap]) (h2 : Row w ps 3 #[.int .i64 sz]) :
    Calls Try.prog 212 #[.slice A n cap, .func (.func 213) #[] #[.pointer (some ⟨pl, 0, none⟩), .pointer (some ⟨ps, 0, none⟩)]] w fun e w' =>
      (e = .returned (.bool true) ∧ SizeInv B pl ps n cap A sz (lens L) w n w') ∨ (e = .returned (.bool false) ∧ okTo (lens L) n = false ∧ Below B w w') := by
  have hll : (lens L).length = n := by rw [length_lens, hL]
  refine each_any (K := 213) (caps := #[.pointer (some ⟨pl, 0, none⟩), .pointer (some ⟨ps, 0, none⟩)]) n cap (fun a W => enters Try.func213 (by kernel_rfl) rfl a W)
        (SizeInv B pl ps n cap A sz (lens L) w) (fun W' => okTo (lens L) n = false ∧ Below B w W') w hL (by omega)
        ⟨h1, by rw [sumTo_zero]; simpa using h2, okTo_zero _, Below.refl _ _⟩ (fun k W' hi => hs W' hi.below)
        (fun k W' r hr hi => ?_)
  have hk : k < n := by rw [← hL]; exact (List.getElem?_eq_some_iff.1 hr).1
  have hm9 : r.bs.length ≤ 9223372036854775807 := hm _ (List.mem_of_getElem? (lens_at hr))
  have hst := sumTo_bound hi.ok (by rw [hll]; omega)
  have hB' : B ≤ W'.heap.size := Nat.le_trans hB hi.below.size
  refine (size1_any (Af := r.A) (c := r.cap) k r.bs.length W' hi.box hi.sum hk hn (by omega) (by omega) hm9).mono ?_
  rintro e W2 (⟨g1, rfl, g2, g3⟩ | ⟨g1, rfl, rfl⟩)
  · refine .inl ⟨rfl, hi.box.only g3 (fun h => hne h.symm), ?_, ?_, hi.below.trans (only_below g3 hps hB')⟩
    · rw [sumTo_succ (lens_at hr)]
      have e9 : sz + ((sumTo (lens L) k + r.bs.length : Nat) : Int) = sz + (sumTo (lens L) k : Int) + (r.bs.length : Int) := by omega
      rw [e9]
      exact g2
    · rw [okTo_at (lens_at hr) hi.ok, hll, g1]
  · refine .inr ⟨rfl, ?_, hi.below⟩
    refine okTo_later (k := k + 1) ?_ (by omega)
    rw [okTo_at (lens_at hr) hi.ok, hll, g1]

set_option maxRecDepth 100000 in
set_option maxHeartbeats 1600000 in
theorem fsize_any {A : Option Addr} {L : List RowB} (n cap : Nat) (wd : Int) (w : World) (hL : L.length = n) (hn : n ≤ 9223372036854775807) (hs : RSrc w A L) (hm : ∀ m ∈ lens L, m ≤ 9223372036854775807) :
    Calls Try.prog 197 #[.slice A n cap, .int .i64 wd] w fun e w' => e = .returned (.int .i64 (szF (lens L) wd)) ∧ Below w.heap.size w w' := by
  have hll : (lens L).length = n := by rw [length_lens, hL]
  rcases Nat.eq_zero_or_pos n with h0 | h0
  · have HF := Lib.hid (show szF (lens L) wd = 0 by unfold szF; rw [if_neg (by omega)])
    subst h0
    clear hL hll hs hm
    go_enter Try.func197, Try.ntmps197
    go_wp2
    go_ret
    exact ⟨by rw [HF.out]; rfl, bl_alloc (Below.refl _ _) _⟩
  · have h0' : ¬ (n : Int) < 1 := by omega
    rcases Nat.lt_or_ge 24 n with h1 | h1
    · have HF := Lib.hid (show szF (lens L) wd = 0 by unfold szF; rw [if_neg (by omega)])
      have h1' : (24 : Int) < n := by omega
      clear hL hll hs hm
      go_enter Try.func197, Try.ntmps197
      go_wp2
      go_ret
      exact ⟨by rw [HF.out]; rfl, bl_alloc (Below.refl _ _) _⟩
    · have h1' : ¬ (24 : Int) < n := by omega
      have HF := Lib.hid (show szF (lens L) wd = if okTo (lens L) n = true then sizeF ((n : Int) - 1) wd + (lens L).sum else 0 by
        unfold szF
        rw [hll]
        by_cases h9 : okTo (lens L) n = true
        · rw [if_pos ⟨by omega, by omega, h9⟩, if_pos h9]
        · rw [if_neg (fun h => h9 h.2.2), if_neg h9])
      have HZ := Lib.hid (fun W => size_any ((n : Int) - 1) wd W)
      have hz := sizeF_nonneg ((n : Int) - 1) wd
      generalize sizeF ((n : Int) - 1) wd = sz at *
      obtain ⟨hz0, hz1⟩ := hz
      have HSUM := Lib.hid (show sumTo (lens L) n = (lens L).sum by rw [← hll]; exact sumTo_all _)
      have HE := Lib.hid (fun W hb (x1 : Row W w.heap.size 57 #[.slice A n cap]) x2 => each_size (B := w.heap.size) (pl := w.heap.size) (ps := w.heap.size + 1) (cap := cap) (sz := sz) W hL h1 (fun W' hb' => hs.later (Below.trans hb hb')) hm hz0 hz1 (Below.size hb) (by omega) (by omega) x1 x2)
      clear hL hll hs hm
      go_enter Try.func197, Try.ntmps197
      go_wp2_with (first
        | (go_at_call 119; refine (HZ.out _).mono ?_; rintro e w1 ⟨rfl, rfl⟩)
        | (go_at_call 212; refine (HE.out _ ?b ?x1 ?x2).mono ?_; rotate_left 3; rintro e w2 (⟨rfl, hi⟩ | ⟨rfl, hi, hb⟩); (have hc := hi.sum.read (i := 0) rfl; have HI := Lib.hid hi; clear hi); rotate_left 1; (have HI := Lib.hid hi; have HB := Lib.hid hb; clear hi hb); rotate_left 1))
      case b => exact bl_alloc (bl_alloc (Below.refl _ _) _) _
      case x1 => exact (Row.made _ _ _).more _
      case x2 => exact (by simpa using Row.made (w.alloc (.cells #[.slice A n cap] 57)) 3 #[.int .i64 sz])
      · go_ret
        refine ⟨?_, (bl_alloc (bl_alloc (Below.refl _ _) _) _).trans HI.out.below⟩
        rw [HF.out, if_pos HI.out.ok, ← HSUM.out]
        rfl
      · go_ret
        refine ⟨?_, (bl_alloc (bl_alloc (Below.refl _ _) _) _).trans HB.out⟩
        rw [HF.out, if_neg (by rw [HI.out]; decide)]
        rfl

theorem conv_src {w : World} {A : Option Addr} {l : List Nat} (n c : Nat) (hl : l.length = n) (h : Src w A (bts l)) (hb : ∀ b ∈ l, b < 256) : (convert 61 9 (.slice A n c)).run Try.prog w = .ok (.string (strOf l)) w := by
  subst hl
  cases A with
  | none =>
    have hl : l.length = 0 := by
      rcases Nat.eq_zero_or_pos l.length with h0 | h0
      · exact h0
      · obtain ⟨ad, h1, _⟩ := h (by rw [length_bts]; exact h0)
        cases h1
    have e : l = [] := List.eq_nil_of_length_eq_zero hl
    subst e
    exact run_convert_bytes_nil w 61 5 Try.underlying61 Try.underlying5 0 c 9 Try.underlying9
  | some ad =>
    have hx := run_convert_bytes_back (P := Try.prog) w 61 9 5 ad c (l.map UInt8.ofNat) Try.underlying61 Try.underlying5 Try.underlying9 (fun j hj => by
      have hj' : j < l.length := by simpa using hj
      have h1 : (bts l)[j]? = some (.int .u8 (l[j] : Nat)) := bts_at (List.getElem?_eq_getElem hj')
      obtain ⟨ad', h2, h3⟩ := h (by rw [length_bts]; omega)
      injection h2 with h2
      subst h2
      rw [h3 j _ h1, List.getElem_map]
      have h4 : (UInt8.ofNat l[j]).toNat = l[j] := UInt8.toNat_ofNat_of_lt' (hb _ (List.getElem_mem hj'))
      rw [h4])
    rw [List.length_map] at hx
    exact hx
theorem strOf_inj {a b : List Nat} (ha : ∀ x ∈ a, x < 256) (hb : ∀ x ∈ b, x < 256) (h : strOf a = strOf b) : a = b := by
  unfold strOf at h
  injection h with h
  have h1 : a.map UInt8.ofNat = b.map UInt8.ofNat := by
    have := congrArg Array.toList h
    simpa using this
  have h2 := congrArg (List.map UInt8.toNat) h1
  rw [List.map_map, List.map_map] at h2
  have e : ∀ l : List Nat, (∀ x ∈ l, x < 256) → l.map (UInt8.toNat ∘ UInt8.ofNat) = l := fun l hl => by
    have : l.map (UInt8.toNat ∘ UInt8.ofNat) = l.map id := List.map_congr_left fun x hx => UInt8.toNat_ofNat_of_lt' (hl x hx)
    rw [this, List.map_id]
  rw [e a ha, e b hb] at h2
  exact h2
theorem strOf_list (a : List Nat) : (strOf a).toList = a.map UInt8.ofNat := ByteArray.toList_mk _
theorem strOf_beq {a b : List Nat} (ha : ∀ x ∈ a, x < 256) (hb : ∀ x ∈ b, x < 256) : ((strOf a).toList == (strOf b).toList) = decide (a = b) := by
  rw [Bool.eq_iff_iff, decide_eq_true_iff, beq_iff_eq]
  refine ⟨fun h => strOf_inj ha hb ?_, fun h => by rw [h]⟩
  rw [strOf_list, strOf_list] at h
  unfold strOf
  rw [h]
/-- fields are the same so far -/
def sameTo (a b : List (List Nat)) (k : Nat) : Prop := ∀ j, j < k → a[j]? = b[j]?
theorem texts_at {L : List RowB} {k : Nat} {r : RowB} (h : L[k]? = some r) : (texts L)[k]? = some r.bs := by simp [texts, h]
theorem length_texts (L : List RowB) : (texts L).length = L.length := by simp [texts]
theorem sameTo_all {a b : List (List Nat)} (hl : a.length = b.length) (h : sameTo a b a.length) : a = b := by
  apply List.ext_getElem?
  intro j
  rcases Nat.lt_or_ge j a.length with h1 | h1
  · exact h j h1
  · rw [List.getElem?_eq_none h1, List.getElem?_eq_none (by omega)]
theorem ret_b {a b : Bool} (h : a = b) : Ending.returned (.bool a) = .returned (.bool b) := by rw [h]
end Go.Proofs.Ytjobgnemklpiaaa
namespace Go.Proofs.Ytjobgnemklpiaaa
open Go.RowKit


theorem own_later2 {B : Nat} {e : TypeId} {size n : Nat} {w v : World} {x : Value} {xs : List Value} (h : w.ownsRow B e size x n xs) (hb : Below w.heap.size w v) : v.ownsRow B e size x n xs :=
  own_only h (S := fun _ => False) (.of_below hb) (fun _ _ h => h)
/-- bytes of the call's own -/
def OwnY (B : Nat) (w : World) (v : Value) (l : List Nat) : Prop := w.ownsRow B 5 1 v l.length (bts l)
section
variable {B : Nat} {w w' : World} {v : Value} {l : List Nat}
theorem OwnY.form (h : OwnY B w v l) : ∃ A c, v = .slice A l.length c ∧ l.length ≤ c ∧ c ≤ maxLen := by
  rcases h.2 with ⟨rfl, h0⟩ | ⟨g, cap, cur, rfl, _, _, h1, h2, _⟩
  · exact ⟨none, 0, by rw [h0], by omega, by simp [maxLen]⟩
  · exact ⟨_, cap, rfl, h1, h2⟩
theorem OwnY.src {A : Option Addr} {n c : Nat} (h : OwnY B w (.slice A n c) l) : Src w A (bts l) := by
  obtain ⟨A', c', e, _⟩ := h.form
  injection e with e1 e2 e3
  subst e1 e2 e3
  exact src_own h
theorem OwnY.only {S : Nat → Prop} (h : OwnY B w v l) (ho : Only S w w') (hS : ∀ k, v.ownBlock = some k → ¬ S k) : OwnY B w' v l := own_only h ho hS
theorem OwnY.later (h : OwnY B w v l) (hb : Below w.heap.size w w') : OwnY B w' v l := own_later2 h hb
theorem OwnY.down {B' : Nat} (h : OwnY B w v l) (hb : B' ≤ B) : OwnY B' w v l := own_down h hb
theorem OwnY.conv (h : OwnY B w v l) (hb : ∀ b ∈ l, b < 256) : (convert 61 9 v).run Try.prog w = .ok (.string (strOf l)) w := conv_own h hb
end
theorem own_only_below {B : Nat} {w w' : World} {v : Value} {e n : Nat} {xs : List Value} (h : w.ownsRow B e 1 v n xs) (ho : Only (fun k => v.ownBlock = some k) w w') (hB : B ≤ w.heap.size) : Below B w w' :=
  ho.below hB fun k hk hk' => by have := (h.lt k hk').1; omega

set_option maxRecDepth 100000 in
theorem app_bytes {B : Nat} {W : World} {v : Value} {l y : List Nat} {A : Option Addr} (m c : Nat) (hv : OwnY B W v l) (hB : B ≤ W.heap.size) (hs : Src W A (bts y)) (hm : y.length = m) (hlm : l.length + m ≤ 1000000000) :
    ∃ A' c' W', (Builtin.append_ #[61, 61] 61 #[v, .slice A m c]).run Try.prog W = .ok (.slice A' (l.length + m) c') W' ∧ OwnY B W' (.slice A' (l.length + m) c') (l ++ y) ∧ Below B W W' ∧ Only (fun k => v.ownBlock = some k) W W' ∧ ((Value.slice A' (l.length + m) c').ownBlock = v.ownBlock ∨ (Value.slice A' (l.length + m) c').ownBlock = some W.heap.size) := by
  obtain ⟨i0, hi, hi0, hi1, hi2⟩ := info5_parts
  subst hm
  have key : ∃ v' W', (Builtin.append_ #[61, 61] 61 #[v, .slice A y.length c]).run Try.prog W = .ok v' W' ∧ W'.ownsRow B 5 1 v' (l.length + y.length) (bts l ++ bts y) ∧ W.grownBy W' v.ownBlock ∧ (v'.ownBlock = v.ownBlock ∨ v'.ownBlock = some W.heap.size) := by
    cases A with
    | none =>
      have h0 : y.length = 0 := by
        rcases Nat.eq_zero_or_pos y.length with h0 | h0
        · exact h0
        · obtain ⟨ad, h1, _⟩ := hs (by rw [length_bts]; exact h0)
          cases h1
      have e : y = [] := List.eq_nil_of_length_eq_zero h0
      subst e
      refine ⟨v, W, ?_, (by have h := hv; unfold OwnY at h; simpa [bts] using h), World.grownBy.refl _ _, .inl rfl⟩
      rcases hv.2 with ⟨rfl, h9⟩ | ⟨g, cap, cur, rfl, _, _, hnc, _⟩
      · rw [h9] at *
        simp [Builtin.append_, run_underlying Try.underlying61, sizeOf, typeInfo, hi, Builtin.lenOf, Builtin.firstCells]
      · simp [Builtin.append_, run_underlying Try.underlying61, sizeOf, typeInfo, hi, Builtin.lenOf, Builtin.firstCells, hnc, storeCells]
    | some ad =>
      obtain ⟨v', w', hrun, h2, h3, _, h5⟩ := run_append_own_at (P := Try.prog) W B 61 61 5 i0 _ 1 1 Try.underlying61 hi hi0 hi1 hi2 rfl (by omega) v l.length (bts l) hv ad y.length c (bts y) (by rw [length_bts, Nat.mul_one]) (fun j u hu => by
        have h0 : 0 < (bts y).length := by have := (List.getElem?_eq_some_iff.1 hu).1; omega
        obtain ⟨ad2, h1, h2⟩ := hs h0
        injection h1 with h1
        subst h1
        exact h2 j u hu) (bts_one y) (by unfold maxLen; omega) (by omega) hB
      exact ⟨v', w', hrun, h2, h3, h5⟩
  obtain ⟨v', W', h1, h2, h3, h4⟩ := key
  have hon := (Only.refl (fun k => v.ownBlock = some k) W).grown h3 (fun k hk => .inl hk)
  have ho : OwnY B W' v' (l ++ y) := by unfold OwnY; rw [List.length_append, bts_append]; exact h2
  obtain ⟨A', c', rfl, _⟩ := ho.form
  rw [List.length_append] at *
  exact ⟨A', c', W', h1, ho, own_only_below hv hon hB, hon, h4⟩

set_option maxRecDepth 100000 in
set_option maxHeartbeats 400000 in
theorem behind1_any {B pb : Nat} {v : Value} {l y : List Nat} {A : Option Addr} (k : Int) (m c : Nat) (w : World) (hp : Row w pb 61 #[v]) (hpb : B ≤ pb) (hv : OwnY B w v l) (hB : B ≤ w.heap.size) (hs : Src w A (bts y)) (hm : y.length = m) (hlm : l.length + m ≤ 1000000000) :
    Calls Try.prog 218 #[.int .i64 k, .slice A m c, .pointer (some ⟨pb, 0, none⟩)] w fun e w' => e = .returned (.bool true) ∧ ∃ v', Row w' pb 61 #[v'] ∧ OwnY B w' v' (l ++ y) ∧ Below B w w' := by
  obtain ⟨A', c', W', hrun, hown, hbl, hon, hat⟩ := app_bytes m c hv hB hs hm hlm
  obtain ⟨A0, c0, rfl, _⟩ := hv.form
  have hap := own_apart hv hp (by decide)
  have hcp : w.cell? ⟨pb, 0, none⟩ = some (.slice A0 l.length c0) := hp.read rfl
  have hp2 : Row W' pb 61 #[.slice A0 l.length c0] := hp.only hon hap
  have hcp2 := hp2.free 0
  have hcp3 : W'.cell? ⟨pb, 0, none⟩ = some (.slice A0 l.length c0) := hp2.read rfl
  have hap2 := own_apart hown hp2 (by decide)
  have HE := Lib.hid (show ∃ v', Row (W'.setCell ⟨pb, 0, none⟩ (.slice A' (l.length + m) c')) pb 61 #[v'] ∧ OwnY B (W'.setCell ⟨pb, 0, none⟩ (.slice A' (l.length + m) c')) v' (l ++ y) ∧ Below B w (W'.setCell ⟨pb, 0, none⟩ (.slice A' (l.length + m) c')) from
    ⟨_, hp2.written 0 _, hown.only ((Only.refl (fun k => k = pb) W').set (p := ⟨pb, 0, none⟩) (.inl rfl) _) (fun k hk e => by subst e; exact hap2 hk), hbl.trans ((Below.refl _ _).setCell hpb _)⟩)
  clear hown hbl hon hat hap hp2 hap2 hp hv hs hm
  generalize l.length + m = n2 at *
  generalize l.length = n1 at *
  go_enter Try.func218, Try.ntmps218
  go_wp2_with (at_builtin; refine wpList_run rfl (.tmp 6) (.tmp 7) 61 rfl (.slice A0 n1 c0) (.slice A m c) (by rfl) (by rfl) hrun ?_)
  go_ret
  exact ⟨rfl, HE.out⟩

/-- the first k fields' bytes -/
def flatTo (L : List RowB) (k : Nat) : List Nat := ((texts L).take k).flatten
def flat (L : List RowB) : List Nat := (texts L).flatten
theorem flatTo_zero (L : List RowB) : flatTo L 0 = [] := by simp [flatTo]
theorem flatTo_all {L : List RowB} {n : Nat} (h : L.length = n) : flatTo L n = flat L := by
  unfold flatTo flat
  rw [List.take_of_length_le (by rw [length_texts]; omega)]
theorem flatTo_succ {L : List RowB} {k : Nat} {r : RowB} (h : L[k]? = some r) : flatTo L (k + 1) = flatTo L k ++ r.bs := by
  have h1 := texts_at h
  obtain ⟨hk, h2⟩ := List.getElem?_eq_some_iff.1 h1
  unfold flatTo
  rw [List.take_succ_eq_append_getElem hk, List.flatten_append, h2]
  simp
theorem length_flatTo (L : List RowB) (k : Nat) : (flatTo L k).length = sumTo (lens L) k := by
  induction k with
  | zero => simp [flatTo, sumTo]
  | succ k ih =>
    rcases Nat.lt_or_ge k L.length with h | h
    · have h1 : L[k]? = some L[k] := List.getElem?_eq_getElem h
      rw [flatTo_succ h1, sumTo_succ (lens_at h1), List.length_append, ih]
    · have h2 : flatTo L (k + 1) = flatTo L k := by
        unfold flatTo
        rw [List.take_of_length_le (by rw [length_texts]; omega), List.take_of_length_le (by rw [length_texts]; omega)]
      have h3 : sumTo (lens L) (k + 1) = sumTo (lens L) k := by
        unfold sumTo
        rw [List.take_of_length_le (by rw [length_lens]; omega), List.take_of_length_le (by rw [length_lens]; omega)]
      rw [h2, h3, ih]
theorem length_flat (L : List RowB) : (flat L).length = (lens L).sum := by
  rw [← flatTo_all rfl, length_flatTo, ← length_lens, sumTo_all]

theorem each_behind {B pb n cap : Nat} {v : Value} {l : List Nat} {A : Option Addr} {L : List RowB} (w : World) (hL : L.length = n) (hn : n ≤ 9223372036854775807) (hs : ∀ W, Below B w W → RSrc W A L) (hp : Row w pb 61 #[v]) (hpb : B ≤ pb) (hv : OwnY B w v l) (hB : B ≤ w.heap.size) (hm : l.length + (lens L).sum ≤ 1000000000) :
    Calls Try.prog 212 #[.slice A n cap, .func (.func 218) #[] #[.pointer (some ⟨pb, 0, none⟩)]] w fun e w' => e = .returned (.bool true) ∧ ∃ v', Row w' pb 61 #[v'] ∧ OwnY B w' v' (l ++ flat L) ∧ Below B w w' := by
  refine (each_any (K := 218) (caps := #[.pointer (some ⟨pb, 0, none⟩)]) n cap (fun a W => enters Try.func218 (by kernel_rfl) rfl a W) (fun k W => ∃ v', Row W pb 61 #[v'] ∧ OwnY B W v' (l ++ flatTo L k) ∧ Below B w W) (fun _ => False) w hL hn
    ⟨v, hp, by rw [flatTo_zero, List.append_nil]; exact hv, Below.refl _ _⟩ (fun k W h => by obtain ⟨_, _, _, h⟩ := h; exact hs W h) (fun k W r hr h => ?_)).mono ?_
  · obtain ⟨v1, h1, h2, h3⟩ := h
    have hk : k < n := by rw [← hL]; exact (List.getElem?_eq_some_iff.1 hr).1
    obtain ⟨ad, rfl, hc⟩ := hs W h3 (by omega)
    have hle := sumTo_le (lens L) (k + 1)
    rw [sumTo_succ (lens_at hr)] at hle
    refine (behind1_any (k : Int) r.bs.length r.cap W h1 hpb h2 (Nat.le_trans hB h3.size) (hc k r hr).2.1 rfl (by rw [List.length_append, length_flatTo]; omega)).mono ?_
    rintro e W2 ⟨rfl, v2, g1, g2, g3⟩
    exact .inl ⟨rfl, v2, g1, by rw [flatTo_succ hr, ← List.append_assoc]; exact g2, h3.trans g3⟩
  · rintro e W (⟨rfl, v', h1, h2, h3⟩ | ⟨_, h⟩)
    · rw [flatTo_all hL] at h2
      exact ⟨rfl, v', h1, h2, h3⟩
    · exact h.elim
set_option maxHeartbeats 400000 in
theorem behind_any {B : Nat} {v : Value} {l : List Nat} {A : Option Addr} {L : List RowB} (n cap : Nat) (w : World) (hL : L.length = n) (hn : n ≤ 9223372036854775807) (hs : ∀ W, Below B w W → RSrc W A L) (hv : OwnY B w v l) (hB : B ≤ w.heap.size) (hm : l.length + (lens L).sum ≤ 1000000000) :
    Calls Try.prog 201 #[v, .slice A n cap] w fun e w' => ∃ v', e = .returned v' ∧ OwnY B w' v' (l ++ flat L) ∧ Below B w w' := by
  obtain ⟨A0, c0, rfl, _⟩ := hv.form
  have HE := Lib.hid (fun W (hb : Below w.heap.size w W) (x : Row W w.heap.size 61 #[.slice A0 l.length c0]) => each_behind (B := B) (cap := cap) W hL hn (fun W' hb' => hs W' ((hb.mono hB).trans hb')) x hB (hv.later hb) (Nat.le_trans hB hb.size) hm)
  clear hL hs hv hm
  generalize l.length = n1 at *
  go_enter Try.func201, Try.ntmps201
  go_wp2_with (go_at_call 212; refine (HE.out _ (bl_alloc (Below.refl _ _) _) (Row.made _ _ _)).mono ?_; rintro e w2 ⟨rfl, v', h1, h2, h3⟩; have hc := h1.read (i := 0) rfl; obtain ⟨A2, c2, hv2, _⟩ := h2.form; generalize (l ++ flat L).length = n2 at hv2; subst hv2; (have H2 := Lib.hid h2; have H3 := Lib.hid h3; clear h2 h3))
  go_ret
  exact ⟨_, rfl, H2.out, ((bl_alloc (Below.refl _ _) _).mono hB).trans H3.out⟩

theorem make_cap (n : Nat) (h : n ≤ 1000000) (w : World) :
    (Instr.makeSlice 61 (.int .i64 0) (.int .i64 (n : Int))).run Try.prog w = .ok (.slice (some ⟨w.heap.size, 0, none⟩) 0 n) (w.alloc (.cells (zeros n).toArray 5)) := by
  obtain ⟨i, hi, hz, hs, hb⟩ := info5_parts
  have h := run_make (P := Try.prog) w 61 5 i _ Try.underlying61 hi hz .i64 .i64 0 n (Int.le_refl _) (by omega) (by rw [hb]; omega) (by omega)
  rw [h, hs, Nat.mul_one, Int.toNat_natCast, ← made_zeros]
  rfl
theorem own_cap (n : Nat) (h : n ≤ 1000000) (w : World) (B : Nat) (hB : B ≤ w.heap.size) : OwnY B (w.alloc (.cells (zeros n).toArray 5)) (.slice (some ⟨w.heap.size, 0, none⟩) 0 n) [] :=
  ⟨by simp [bts], .inr ⟨w.heap.size, n, _, rfl, hB, heap_alloc_new _ _, Nat.zero_le _, by unfold maxLen; omega, by simp [zeros], by simp [bts]⟩⟩

end Go.Proofs.Ytjobgnemklpiaaa
namespace Go.Proofs.Ytjobgnemklpiaaa
open Go.RowKit

def GRep (B : Nat) (w : World) (p : Nat) (hv : Value) (s : GS) : Prop := Row w p 185 #[.bool true, hv, .int .i64 s.lost] ∧ OwnY B w hv s.held
def GS1 (p : Nat) (hv : Value) (k : Nat) : Prop := k = p ∨ hv.ownBlock = some k
def GNext (w : World) (hv hv' : Value) : Prop := ∀ k, hv'.ownBlock = some k → hv.ownBlock = some k ∨ w.heap.size ≤ k
theorem GNext.refl (w : World) (hv : Value) : GNext w hv hv := fun _ h => .inl h
theorem GNext.nil (w : World) (hv : Value) : GNext w hv (.slice none 0 0) := fun _ h => by simp [Value.ownBlock] at h
theorem ownY_nil (B : Nat) (w : World) : OwnY B w (.slice none 0 0) [] := ⟨by simp [bts], .inl ⟨rfl, rfl⟩⟩
theorem GRep.later {B p : Nat} {w v : World} {hv : Value} {s : GS} (h : GRep B w p hv s) (hb : Below w.heap.size w v) : GRep B v p hv s := ⟨h.1.later hb, h.2.later hb⟩
theorem GRep.only {B p : Nat} {w v : World} {hv : Value} {s : GS} {S : Nat → Prop} (h : GRep B w p hv s) (ho : Only S w v) (h1 : ¬ S p) (h2 : ∀ k, hv.ownBlock = some k → ¬ S k) : GRep B v p hv s := ⟨h.1.only ho h1, h.2.only ho h2⟩
theorem set_only {w : World} {p : Nat} (i : Nat) (x : Value) : Only (fun k => k = p) w (w.setCell ⟨p, i, none⟩ x) := (Only.refl (fun k => k = p) w).set (p := ⟨p, i, none⟩) (.inl rfl) x
theorem GRep.apart {B p : Nat} {w : World} {hv : Value} {s : GS} (h : GRep B w p hv s) : hv.ownBlock ≠ some p := own_apart h.2 h.1 (by decide)
theorem gnew_any (w : World) : Calls Try.prog 61 #[] w fun e w' => e = .returned (.pointer (some ⟨w.heap.size, 0, none⟩)) ∧ GRep w.heap.size w' w.heap.size (.slice none 0 0) ⟨[], 0⟩ ∧ Below w.heap.size w w' := by
  go_enter Try.func61, Try.ntmps61
  go_wp2
  go_ret
  exact ⟨rfl, ⟨Row.made _ _ _, ownY_nil _ _⟩, bl_alloc (Below.refl _ _) _⟩
theorem gheld_any {B p : Nat} {w : World} {hv : Value} {s : GS} (h : GRep B w p hv s) : Calls Try.prog 63 #[.pointer (some ⟨p, 0, none⟩)] w fun e w' => e = .returned (.int .i64 (s.held.length : Nat)) ∧ w = w' := by
  obtain ⟨A, c, rfl, h1, h2⟩ := h.2.form
  unfold maxLen at h2
  have c1 := h.1.read (i := 1) rfl
  generalize s.held.length = n at *
  clear h
  go_enter Try.func63, Try.ntmps63
  go_wp2
  go_ret
  exact ⟨rfl, rfl⟩
theorem glost_any {B p : Nat} {w : World} {hv : Value} {s : GS} (h : GRep B w p hv s) : Calls Try.prog 64 #[.pointer (some ⟨p, 0, none⟩)] w fun e w' => e = .returned (.int .i64 (s.lost : Nat)) ∧ w = w' := by
  have c1 := h.1.read (i := 2) rfl
  clear h
  go_enter Try.func64, Try.ntmps64
  go_wp2
  go_ret
  exact ⟨rfl, rfl⟩
theorem held_len {s : GS} : s.held = [] ↔ s.held.length = 0 := by simp
set_option maxRecDepth 100000 in
set_option maxHeartbeats 800000 in
theorem glose_any {B p : Nat} {w : World} {hv : Value} {s : GS} (h : GRep B w p hv s) (hlost : s.lost ≤ 1000000000) :
    Calls Try.prog 121 #[.pointer (some ⟨p, 0, none⟩)] w fun e w' => e = .returned (.tuple #[]) ∧ ∃ hv', GRep B w' p hv' s.lose ∧ Only (fun k => k = p) w w' ∧ GNext w hv hv' := by
  obtain ⟨A, c, rfl, h1, h2⟩ := h.2.form
  unfold maxLen at h2
  have c1 := h.1.read (i := 1) rfl
  have c2 := h.1.read (i := 2) rfl
  have f1 := h.1.free 1
  have HH := Lib.hid h
  by_cases h0 : s.held.length = 0
  · have HL := Lib.hid (show s.lose = s by unfold GS.lose; rw [if_pos (held_len.2 h0)])
    have hd : decide ((0 : Int) < (s.held.length : Int)) = false := decide_eq_false (by omega)
    have h0' : s.held.length ≤ 0 := by omega
    clear h h0
    go_enter Try.func121, Try.ntmps121
    go_wp2
    go_end0
    exact ⟨rfl, _, by rw [HL.out]; exact HH.out, Only.refl _ _, GNext.refl _ _⟩
  · have HL := Lib.hid (show s.lose = ⟨[], s.lost + 1⟩ by unfold GS.lose; rw [if_neg (fun e => h0 (held_len.1 e))])
    have hp : (0 : Int) < (s.held.length : Int) := by have := Nat.pos_of_ne_zero h0; omega
    have hrow := h.1.written 1 (.slice none 0 0)
    have d2 := hrow.read (i := 2) rfl
    have g2 := hrow.free 2
    have HR := Lib.hid (hrow.written 2 (.int .i64 ((s.lost : Int) + 1)))
    have HO := Lib.hid ((set_only (w := w) (p := p) 1 (.slice none 0 0)).set (p := ⟨p, 2, none⟩) (.inl rfl) (.int .i64 ((s.lost : Int) + 1)))
    have e9 : ((s.lost + 1 : Nat) : Int) = (s.lost : Int) + 1 := by omega
    have HE9 := Lib.hid e9
    clear h h0 hrow e9
    go_enter Try.func121, Try.ntmps121
    go_wp2
    go_end0
    refine ⟨rfl, .slice none 0 0, ⟨?_, ?_⟩, HO.out, GNext.nil _ _⟩
    · rw [HL.out]
      show Row _ p 185 #[.bool true, .slice none 0 0, .int .i64 ((s.lost + 1 : Nat) : Int)]
      rw [HE9.out]
      exact HR.out
    · rw [HL.out]
      exact ownY_nil _ _
end Go.Proofs.Ytjobgnemklpiaaa
namespace Go.Proofs.Ytjobgnemklpiaaa
open Go.RowKit

section
variable {B p : Nat} {w : World} {hv : Value} {s : GS}
theorem grep_lost (h : GRep B w p hv s) : GRep B ((w.setCell ⟨p, 1, none⟩ (.slice none 0 0)).setCell ⟨p, 2, none⟩ (.int .i64 ((s.lost : Int) + 1))) p (.slice none 0 0) ⟨[], s.lost + 1⟩ ∧ Only (GS1 p hv) w ((w.setCell ⟨p, 1, none⟩ (.slice none 0 0)).setCell ⟨p, 2, none⟩ (.int .i64 ((s.lost : Int) + 1))) := by
  have e9 : ((s.lost + 1 : Nat) : Int) = (s.lost : Int) + 1 := by omega
  refine ⟨⟨?_, ownY_nil _ _⟩, ((set_only 1 _).set (p := ⟨p, 2, none⟩) (.inl rfl) _).weaker (fun k _ hk => .inl hk)⟩
  show Row _ p 185 #[.bool true, .slice none 0 0, .int .i64 ((s.lost + 1 : Nat) : Int)]
  rw [e9]
  exact (h.1.written 1 _).written 2 _
theorem grep_count (h : GRep B w p hv s) : GRep B (w.setCell ⟨p, 2, none⟩ (.int .i64 ((s.lost : Int) + 1))) p hv ⟨s.held, s.lost + 1⟩ ∧ Only (GS1 p hv) w (w.setCell ⟨p, 2, none⟩ (.int .i64 ((s.lost : Int) + 1))) := by
  have e9 : ((s.lost + 1 : Nat) : Int) = (s.lost : Int) + 1 := by omega
  refine ⟨⟨?_, h.2.only (set_only 2 _) (fun k hk e => h.apart (by rw [hk, e]))⟩, (set_only 2 _).weaker (fun k _ hk => .inl hk)⟩
  show Row _ p 185 #[.bool true, hv, .int .i64 ((s.lost + 1 : Nat) : Int)]
  rw [e9]
  exact h.1.written 2 _
theorem grep_app {A F : Option Addr} {f : List Nat} {n m c fc : Nat} (h : GRep B w p (.slice A n c) s) (hn : s.held.length = n) (hB : B ≤ w.heap.size) (hs : Src w F (bts f)) (hm : f.length = m) (hnm : n + m ≤ 1000000) :
    ∃ A' c' W', (Builtin.append_ #[61, 61] 61 #[.slice A n c, .slice F m fc]).run Try.prog w = .ok (.slice A' (n + m) c') W' ∧ Row W' p 185 #[.bool true, .slice A n c, .int .i64 s.lost] ∧
      GRep B (W'.setCell ⟨p, 1, none⟩ (.slice A' (n + m) c')) p (.slice A' (n + m) c') ⟨s.held ++ f, s.lost⟩ ∧ Only (GS1 p (.slice A n c)) w (W'.setCell ⟨p, 1, none⟩ (.slice A' (n + m) c')) ∧ GNext w (.slice A n c) (.slice A' (n + m) c') := by
  subst hn
  obtain ⟨A', c', W', hrun, hown, hbl, hon, hat⟩ := app_bytes m fc h.2 hB hs hm (by omega)
  have hap := h.apart
  have hr2 : Row W' p 185 #[.bool true, .slice A s.held.length c, .int .i64 s.lost] := h.1.only hon hap
  have hap2 := own_apart hown hr2 (by decide)
  refine ⟨A', c', W', hrun, hr2, ⟨hr2.written 1 _, hown.only (set_only 1 _) (fun k hk e => hap2 (by rw [hk, e]))⟩, ?_, ?_⟩
  · exact (hon.weaker (fun k _ hk => .inr hk)).set (p := ⟨p, 1, none⟩) (.inl (.inl rfl)) _
  · intro k hk
    rcases hat with e | e
    · exact .inl (by rw [← e]; exact hk)
    · rw [e] at hk
      injection hk with hk
      exact .inr (by omega)
end
theorem lose_held (s : GS) : s.lose.held = [] := by
  unfold GS.lose
  split
  · assumption
  · rfl
/-- what a field's coming leaves -/
def ComeDone (B p : Nat) (hv : Value) (s' : GS) (w : World) (e : Ending) (w' : World) : Prop := e = .returned (.tuple #[]) ∧ ∃ hv', GRep B w' p hv' s' ∧ Only (GS1 p hv) w w' ∧ GNext w hv hv'
theorem ComeDone.behind {B p : Nat} {hv hv1 : Value} {s' : GS} {w w1 w' : World} {e : Ending} (h : ComeDone B p hv1 s' w1 e w') (ho : Only (fun k => k = p) w w1) (hg : GNext w hv hv1) : ComeDone B p hv s' w e w' := by
  obtain ⟨h1, hv', h2, h3, h4⟩ := h
  refine ⟨h1, hv', h2, ?_, ?_⟩
  · refine (ho.weaker (T := GS1 p hv) (fun k _ hk => .inl hk)).andThen h3 (fun k hk hx => ?_)
    rcases hx with hx | hx
    · exact .inl hx
    · rcases hg k hx with h9 | h9
      · exact .inr h9
      · omega
  · intro k hk
    rcases h4 k hk with h9 | h9
    · exact hg k h9
    · exact .inr (Nat.le_trans ho.size h9)
section
variable {B p : Nat} {w : World} {hv : Value} {s : GS} {F : Option Addr} {f : List Nat}
set_option maxRecDepth 100000 in
set_option maxHeartbeats 800000 in
theorem gcome_b (e : Bool) (m fc : Nat) (h : GRep B w p hv s) (hlost : s.lost ≤ 1000000) (hB : B ≤ w.heap.size) (hs : ∀ W, Only (fun k => k = p) w W → Src W F (bts f)) (hm : f.length = m) (hm1 : m ≤ 9223372036854775807) :
    Calls Try.prog 124 #[.pointer (some ⟨p, 0, none⟩), .slice F m fc, .bool true, .bool e] w (ComeDone B p hv (s.come f true e) w) := by
  have HLO := Lib.hid (glose_any h (by omega))
  have HS := Lib.hid hs
  have hll := s.lose_lost
  have HH := Lib.hid (lose_held s)
  have HC := Lib.hid (show s.come f true e = if f.length ≤ 1000 then ⟨f, s.lose.lost⟩ else ⟨[], s.lose.lost + 1⟩ from rfl)
  rw [HC.out]
  generalize s.lose = s1 at *
  obtain ⟨held1, lost1⟩ := s1
  simp only at hll HH
  obtain rfl := HH.out
  clear h hs HC HH
  rw [hm]
  by_cases hlong : m ≤ 1000
  · rw [if_pos hlong]
    have hd : decide ((1000 : Int) < (m : Int)) = false := decide_eq_false (by omega)
    have hw : IntKind.i64.wrap (0 + (m : Int)) = (m : Int) := by rw [IntKind.wrap_i64]; omega
    go_enter Try.func124, Try.ntmps124
    go_wp2_with fail
    refine (HLO.out).mono ?_
    rintro e1 w1 ⟨rfl, hv1, h1, ho1, hg1⟩
    obtain ⟨A, c, rfl, q1, q2⟩ := h1.2.form
    unfold maxLen at q2
    simp only [List.length_nil] at q1 h1
    obtain ⟨A', c', W', hrun, hr2, h3, ho3, hg3⟩ := grep_app (n := 0) (m := m) (fc := fc) h1 rfl (Nat.le_trans hB ho1.size) (HS.out w1 ho1) hm (by omega)
    have c1 := h1.1.read (i := 1) rfl
    have k1 := hr2.read (i := 1) rfl
    have k2 := hr2.free 1
    simp only [Nat.zero_add, List.nil_append] at hrun h3 ho3 hg3
    have HD := Lib.hid (ComeDone.behind (hv := hv) ⟨rfl, _, h3, ho3, hg3⟩ ho1 hg1)
    clear h1 ho1 hg1 h3 ho3 hg3 hr2 HLO HS
    go_wp2_with (at_builtin; refine wpList_run rfl _ _ 61 rfl (.slice A 0 c) (.slice F m fc) (by rfl) (by rfl) hrun ?_)
    go_end0
    exact HD.out
  · rw [if_neg hlong]
    have hd : decide ((1000 : Int) < (m : Int)) = true := decide_eq_true (by omega)
    have hw : IntKind.i64.wrap (0 + (m : Int)) = (m : Int) := by rw [IntKind.wrap_i64]; omega
    go_enter Try.func124, Try.ntmps124
    go_wp2_with fail
    refine (HLO.out).mono ?_
    rintro e1 w1 ⟨rfl, hv1, h1, ho1, hg1⟩
    obtain ⟨A, c, rfl, q1, q2⟩ := h1.2.form
    unfold maxLen at q2
    simp only [List.length_nil] at q1 h1
    obtain ⟨h3, ho3⟩ := grep_lost h1
    have c1 := h1.1.read (i := 1) rfl
    have f1 := h1.1.free 1
    have hrow := h1.1.written 1 (.slice none 0 0)
    have d2 := hrow.read (i := 2) rfl
    have g2 := hrow.free 2
    have HD := Lib.hid (ComeDone.behind (hv := hv) ⟨rfl, _, h3, ho3, GNext.nil _ _⟩ ho1 hg1)
    simp only at HD d2
    clear h1 ho1 hg1 h3 ho3 hrow HLO HS
    go_wp2
    go_end0
    exact HD.out
set_option maxRecDepth 100000 in
set_option maxHeartbeats 800000 in
theorem gcome_e (e : Bool) (m fc : Nat) (h : GRep B w p hv s) (hlost : s.lost ≤ 1000000) (h0 : s.held = []) :
    Calls Try.prog 124 #[.pointer (some ⟨p, 0, none⟩), .slice F m fc, .bool false, .bool e] w (ComeDone B p hv (s.come f false e) w) := by
  have HC := Lib.hid (show s.come f false e = if e then ⟨[], s.lost + 1⟩ else s by unfold GS.come; rw [if_neg (by decide), if_pos h0])
  rw [HC.out]
  obtain ⟨held1, lost1⟩ := s
  simp only at hlost h0
  subst h0
  have hcount := grep_count h
  obtain ⟨A, c, rfl, q1, q2⟩ := h.2.form
  unfold maxLen at q2
  simp only [List.length_nil] at q1 h hcount ⊢
  have c1 := h.1.read (i := 1) rfl
  have c2 := h.1.read (i := 2) rfl
  have f2 := h.1.free 2
  simp only at c2
  cases e
  · have HD := Lib.hid (show ComeDone B p (.slice A 0 c) ⟨[], lost1⟩ w (.returned (.tuple #[])) w from ⟨rfl, _, h, Only.refl _ _, GNext.refl _ _⟩)
    clear h hcount HC
    go_enter Try.func124, Try.ntmps124
    go_wp2
    go_end0
    exact HD.out
  · have HD := Lib.hid (show ComeDone B p (.slice A 0 c) ⟨[], lost1 + 1⟩ w (.returned (.tuple #[])) _ from ⟨rfl, _, hcount.1, hcount.2, GNext.refl _ _⟩)
    clear h hcount HC
    go_enter Try.func124, Try.ntmps124
    go_wp2
    go_end0
    exact HD.out
set_option maxRecDepth 100000 in
set_option maxHeartbeats 800000 in
theorem gcome_m (e : Bool) (m fc : Nat) (h : GRep B w p hv s) (hlost : s.lost ≤ 1000000) (hB : B ≤ w.heap.size) (hs : Src w F (bts f)) (hm : f.length = m) (hm1 : m ≤ 100000) (h0 : s.held ≠ []) (hl : s.held.length ≤ 1000) :
    Calls Try.prog 124 #[.pointer (some ⟨p, 0, none⟩), .slice F m fc, .bool false, .bool e] w (ComeDone B p hv (s.come f false e) w) := by
  have HC := Lib.hid (show s.come f false e = if s.held.length + f.length ≤ 1000 then ⟨s.held ++ f, s.lost⟩ else ⟨[], s.lost + 1⟩ by unfold GS.come; rw [if_neg (by decide), if_neg h0])
  rw [HC.out, hm]
  obtain ⟨A, c, rfl, q1, q2⟩ := h.2.form
  unfold maxLen at q2
  obtain ⟨n, hn⟩ : ∃ n, s.held.length = n := ⟨_, rfl⟩
  have hn0 : 0 < n := by rw [← hn]; exact List.length_pos_iff.2 h0
  rw [hn] at q1 h hl ⊢
  have hne : ((n : Int) == 0) = false := by simp; omega
  have c1 := h.1.read (i := 1) rfl
  have hw : IntKind.i64.wrap ((n : Int) + (m : Int)) = (n : Int) + (m : Int) := by rw [IntKind.wrap_i64]; omega
  by_cases hlong : n + m ≤ 1000
  · rw [if_pos hlong]
    have hd : decide ((1000 : Int) < (n : Int) + (m : Int)) = false := decide_eq_false (by omega)
    obtain ⟨A', c', W', hrun, hr2, h3, ho3, hg3⟩ := grep_app (n := n) (m := m) (fc := fc) h hn hB hs hm (by omega)
    have k1 := hr2.read (i := 1) rfl
    have k2 := hr2.free 1
    have HD := Lib.hid (show ComeDone B p (.slice A n c) _ w (.returned (.tuple #[])) _ from ⟨rfl, _, h3, ho3, hg3⟩)
    clear h hs hm h3 ho3 hg3 hr2 HC hn h0
    go_enter Try.func124, Try.ntmps124
    go_wp2_with (at_builtin; refine wpList_run rfl _ _ 61 rfl (.slice A n c) (.slice F m fc) (by rfl) (by rfl) hrun ?_)
    go_end0
    exact HD.out
  · rw [if_neg hlong]
    have hd : decide ((1000 : Int) < (n : Int) + (m : Int)) = true := decide_eq_true (by omega)
    obtain ⟨h3, ho3⟩ := grep_lost h
    have f1 := h.1.free 1
    have hrow := h.1.written 1 (.slice none 0 0)
    have d2 := hrow.read (i := 2) rfl
    have g2 := hrow.free 2
    have HD := Lib.hid (show ComeDone B p (.slice A n c) _ w (.returned (.tuple #[])) _ from ⟨rfl, _, h3, ho3, GNext.nil _ _⟩)
    clear h hs hm h3 ho3 hrow HC hn h0
    go_enter Try.func124, Try.ntmps124
    go_wp2
    go_end0
    exact HD.out
theorem gcome_any (b e : Bool) (m fc : Nat) (h : GRep B w p hv s) (hlost : s.lost ≤ 1000000) (hB : B ≤ w.heap.size) (hs : ∀ W, Only (fun k => k = p) w W → Src W F (bts f)) (hm : f.length = m) (hm1 : m ≤ 9223372036854775807) (hm2 : b = false → m ≤ 100000) (hl : s.held.length ≤ 1000) :
    Calls Try.prog 124 #[.pointer (some ⟨p, 0, none⟩), .slice F m fc, .bool b, .bool e] w (ComeDone B p hv (s.come f b e) w) := by
  cases b
  · by_cases h0 : s.held = []
    · exact gcome_e e m fc h hlost h0
    · exact gcome_m e m fc h hlost hB (hs w (Only.refl _ _)) hm (hm2 rfl) h0 hl
  · exact gcome_b e m fc h hlost hB hs hm hm1
end
end Go.Proofs.Ytjobgnemklpiaaa
