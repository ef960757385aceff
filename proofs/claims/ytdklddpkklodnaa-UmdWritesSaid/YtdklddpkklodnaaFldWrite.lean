/-
  The bytes of a head, and of fields behind it.
-/
import Derived.Test.YtdklddpkklodnaaFldJoin
namespace Go.Proofs.Ytdklddpkklodnaa
open Go.RowKit


/-- the first k lengths, noughts behind -/
def lenK (ls : List Nat) (k : Nat) : List Value := insN (ls.take k) ++ List.replicate (ls.length - k) (.int .i64 0)
theorem lenK_zero (ls : List Nat) : lenK ls 0 = List.replicate ls.length (.int .i64 0) := by simp [lenK, insN]
theorem lenK_all (ls : List Nat) : lenK ls ls.length = insN ls := by simp [lenK]
theorem lenK_succ {ls : List Nat} {k m : Nat} (h : ls[k]? = some m) : (lenK ls k).set k (.int .i64 m) = lenK ls (k + 1) := by
  obtain ⟨hk, rfl⟩ := List.getElem?_eq_some_iff.1 h
  unfold lenK
  have hl : (insN (ls.take k)).length = k := by rw [length_insN, List.length_take]; omega
  rw [List.set_append_right _ _ (by omega), hl, Nat.sub_self, show ls.length - k = (ls.length - (k + 1)) + 1 by omega, List.replicate_succ, List.set_cons_zero, List.take_succ_eq_append_getElem hk]
  simp only [insN, List.map_append, List.map_cons, List.map_nil, List.append_assoc, List.singleton_append, List.cons_append, List.nil_append]
theorem made_ints (n : Nat) : madeCells #[.int .i64 0] n = (List.replicate n (Value.int .i64 0)).toArray := by
  apply Array.toList_inj.1
  rw [toList_madeCells_one]
set_option maxRecDepth 100000 in
theorem make_ints (n : Nat) (h : n ≤ 8192) (w : World) :
    (Instr.makeSlice 105 (.int .i64 (n : Int)) (.int .i64 (n : Int))).run Try.prog w = .ok (.slice (some ⟨w.heap.size, 0, none⟩) n n) (w.alloc (.cells (List.replicate n (Value.int .i64 0)).toArray 3)) := by
  obtain ⟨i, hi, hz, hs, hb⟩ := info_parts Try.info3
  have h := run_make (P := Try.prog) w 105 3 i _ Try.under105 hi hz .i64 .i64 n n (by omega) (Int.le_refl _) (by rw [hb]; omega) (by omega)
  rw [h, hs, Nat.mul_one, Int.toNat_natCast, ← made_ints]
  rfl
set_option maxHeartbeats 400000 in
theorem lengthsOf1_any {pb g n : Nat} {A : Option Addr} {cs : List Value} (k m c : Nat) (w : World) (hp : Row w pb 105 #[.slice (some ⟨g, 0, none⟩) n n]) (hg : Row w g 3 cs.toArray) (hn : cs.length = n) (hk : k < n) (hc : ∃ x, cs[k]? = some (Value.int .i64 x)) :
    Calls Try.prog 98 #[.int .i64 k, .slice A m c, .pointer (some ⟨pb, 0, none⟩)] w fun e w' => e = .returned (.bool true) ∧ Row w' g 3 (cs.set k (.int .i64 m)).toArray ∧ Only (fun b => b = g) w w' := by
  obtain ⟨x, hx⟩ := hc
  have hc0 : w.cell? ⟨pb, 0, none⟩ = some (.slice (some ⟨g, 0, none⟩) n n) := hp.read rfl
  have hck : w.cell? ⟨g, k, none⟩ = some (.int .i64 x) := hg.read (by simpa using hx)
  have hf := hg.free k
  have HROW := Lib.hid (show Row (w.setCell ⟨g, k, none⟩ (.int .i64 m)) g 3 (cs.set k (.int .i64 m)).toArray by
    have h1 := hg.written k (.int .i64 m)
    rw [List.setIfInBounds_toArray] at h1
    exact h1)
  have HON := Lib.hid ((Only.refl (fun b => b = g) w).set (p := ⟨g, k, none⟩) (.inl rfl) (.int .i64 m))
  clear hp hg hx hn
  go_enter Try.func98, Try.ntmps98
  go_wp2
  go_ret
  exact ⟨rfl, HROW.out, HON.out⟩
theorem each_lengths {B pb g n cap : Nat} {A : Option Addr} {L : List RowB} (w : World) (hL : L.length = n) (hn : n ≤ 8192) (hs : ∀ W, Below B w W → RSrc W A L) (hp : Row w pb 105 #[.slice (some ⟨g, 0, none⟩) n n]) (hg : Row w g 3 (List.replicate n (Value.int .i64 0)).toArray) (hgB : B ≤ g) (hB : B ≤ w.heap.size) :
    Calls Try.prog 78 #[.slice A n cap, .func (.func 98) #[] #[.pointer (some ⟨pb, 0, none⟩)]] w fun e w' => e = .returned (.bool true) ∧ Row w' pb 105 #[.slice (some ⟨g, 0, none⟩) n n] ∧ Row w' g 3 (insN (lens L)).toArray ∧ Below B w w' := by
  have hll : (lens L).length = n := by rw [length_lens, hL]
  have hne : pb ≠ g := hp.apart hg (by decide)
  refine (each_any (K := 98) (caps := #[.pointer (some ⟨pb, 0, none⟩)]) n cap (.inr (.inr (.inr (.inl rfl)))) (fun k W => Row W pb 105 #[.slice (some ⟨g, 0, none⟩) n n] ∧ Row W g 3 (lenK (lens L) k).toArray ∧ Below B w W) (fun _ => False) w hL (by omega)
    ⟨hp, by rw [lenK_zero, hll]; exact hg, Below.refl _ _⟩ (fun k W h => hs W h.2.2) (fun k W r hr h => ?_)).mono ?_
  · obtain ⟨h1, h2, h3⟩ := h
    have hk : k < n := by rw [← hL]; exact (List.getElem?_eq_some_iff.1 hr).1
    have hlk : (lenK (lens L) k).length = n := by simp [lenK, length_insN, hll]; omega
    refine (lengthsOf1_any (cs := lenK (lens L) k) k r.bs.length r.cap W h1 h2 hlk hk ⟨0, ?_⟩).mono ?_
    · unfold lenK
      rw [List.getElem?_append_right (by rw [length_insN, List.length_take]; omega), length_insN, List.length_take, List.getElem?_replicate, if_pos (by omega)]
    · rintro e W2 ⟨rfl, g1, g2⟩
      refine .inl ⟨rfl, h1.only g2 hne, ?_, h3.trans (only_below g2 hgB (Nat.le_trans hB h3.size))⟩
      rw [lenK_succ (lens_at hr)] at g1
      exact g1
  · rintro e W (⟨rfl, h1, h2, h3⟩ | ⟨_, h⟩)
    · rw [← hll, lenK_all] at h2
      exact ⟨rfl, h1, h2, h3⟩
    · exact h.elim
set_option maxHeartbeats 400000 in
theorem lengthsOf_any {A : Option Addr} {L : List RowB} (n cap : Nat) (w : World) (hL : L.length = n) (hn : n ≤ 8192) (hs : RSrc w A L) :
    Calls Try.prog 74 #[.slice A n cap] w fun e w' => ∃ g, e = .returned (.slice (some ⟨g, 0, none⟩) n n) ∧ Row w' g 3 (insN (lens L)).toArray ∧ Below w.heap.size w w' := by
  have HM := make_ints n hn
  have HE := Lib.hid (fun W (hb : Below w.heap.size w W) x y => each_lengths (pb := w.heap.size + 1) (g := w.heap.size) (B := w.heap.size) (cap := cap) W hL hn (fun W' hb' => hs.later (hb.trans hb')) x y (Nat.le_refl _) hb.size)
  clear hL hs
  go_enter Try.func74, Try.ntmps74
  go_wp2_with (go_at_call 78; refine (HE.out _ (bl_alloc (bl_alloc (Below.refl _ _) _) _) ?x1 ?x2).mono ?_; rotate_left 2; rintro e w2 ⟨rfl, h1, h2, h3⟩; have hc := h1.read (i := 0) rfl; (have H2 := Lib.hid h2; have H3 := Lib.hid h3; clear h1 h2 h3))
  case x1 => exact (by simpa using Row.made (w.alloc (.cells (List.replicate n (Value.int .i64 0)).toArray 3)) 105 #[.slice (some ⟨w.heap.size, 0, none⟩) n n])
  case x2 => exact (Row.made _ _ _).more _
  go_ret
  exact ⟨_, rfl, H2.out, (bl_alloc (bl_alloc (Below.refl _ _) _) _).trans H3.out⟩

/-- lengths' bytes, of all but the last -/
def tailF (ls : List Nat) (wd : Nat) : List Nat := if 1 < ls.length then pack (wbl wd (ls.take (ls.length - 1))) else []
theorem tail_small (ls : List Nat) (wd : Nat) : ∀ b ∈ tailF ls wd, b < 256 := by
  unfold tailF
  split
  · exact pack_small _
  · intro b hb; cases hb
theorem tail_lens {ls : List Nat} (h : okTo ls ls.length = true) : ∀ x ∈ ls.take (ls.length - 1), 1 ≤ x ∧ x < 2048 := by
  intro x hx
  obtain ⟨k, hk⟩ := List.getElem?_of_mem hx
  rw [List.getElem?_take] at hk
  split at hk
  · have := okTo_small h hk
    omega
  · cases hk
theorem sizeF_pack (n wd : Nat) (h : wd = 11 ∨ wd = 15) (h1 : 1 ≤ n) (h2 : n ≤ 23) : sizeF n wd = ((packLen (n * (wd + 1)) : Nat) : Int) := by
  rcases h with rfl | rfl
  · unfold sizeF
    rw [show okW ((11 : Nat) : Int) = true from rfl, decide_eq_true (show (1 : Int) ≤ n by omega), decide_eq_true (show (n : Int) ≤ 23 by omega)]
    simp only [Bool.and_self, if_true, packLen]
    omega
  · unfold sizeF
    rw [show okW ((15 : Nat) : Int) = true from rfl, decide_eq_true (show (1 : Int) ≤ n by omega), decide_eq_true (show (n : Int) ≤ 23 by omega)]
    simp only [Bool.and_self, if_true, packLen]
    omega
theorem length_tail {ls : List Nat} (wd : Nat) (h : wd = 11 ∨ wd = 15) (h1 : 1 ≤ ls.length) (h2 : ls.length ≤ 24) : ((tailF ls wd).length : Int) = sizeF ((ls.length : Int) - 1) wd := by
  unfold tailF
  split
  · have hl : (ls.take (ls.length - 1)).length = ls.length - 1 := by rw [List.length_take]; omega
    rw [length_pack, length_wbl, hl, ← sizeF_pack (ls.length - 1) wd h (by omega) (by omega)]
    congr 1
    omega
  · have : (ls.length : Int) - 1 = 0 := by omega
    rw [this]
    unfold sizeF
    simp
theorem lens_write {A : Option Addr} {l : List Nat} (wd n cap : Nat) (w : World) (h : wd = 11 ∨ wd = 15) (hn : l.length = n) (h0 : 1 ≤ n) (h23 : n ≤ 23) (hl : ∀ x ∈ l, 1 ≤ x ∧ x < 2048) (hs : Src w A (insN l)) :
    Calls Try.prog 73 #[.slice A n cap, .int .i64 wd] w fun e w' => ∃ g k, e = .returned (.tuple #[.slice (some ⟨g, 0, none⟩) k k, .int .i64 0]) ∧ k = (pack (wbl wd l)).length ∧ Row w' g 5 (bts (pack (wbl wd l))).toArray ∧ Below w.heap.size w w' := by
  rcases h with rfl | rfl
  · refine (write_ok_11 n cap w hn h0 h23 hl hs).mono ?_
    rintro e w' ⟨g, rfl, _, hr, hb⟩
    exact ⟨g, _, rfl, by rw [length_pack, length_wbl, hn], hr, hb⟩
  · refine (write_ok_15 n cap w hn h0 h23 (fun x hx => ⟨(hl x hx).1, Nat.lt_of_lt_of_le (hl x hx).2 (by decide)⟩) hs).mono ?_
    rintro e w' ⟨g, rfl, _, hr, hb⟩
    exact ⟨g, _, rfl, by rw [length_pack, length_wbl, hn], hr, hb⟩
theorem make_capZ (z : Int) (h0 : 0 ≤ z) (h : z ≤ 1000000) (w : World) :
    (Instr.makeSlice 30 (.int .i64 0) (.int .i64 z)).run Try.prog w = .ok (.slice (some ⟨w.heap.size, 0, none⟩) 0 z.toNat) (w.alloc (.cells (zeros z.toNat).toArray 5)) := by
  have h1 := make_cap z.toNat (by omega) w
  rw [Int.toNat_of_nonneg h0] at h1
  exact h1
theorem lens_take (L : List RowB) (k : Nat) : lens (L.take k) = (lens L).take k := by simp [lens]
theorem app_head {B : Nat} {W : World} {A0 : Option Addr} {lh : List Nat} (n0 c0 q : Nat) (hq : q ≤ 1000000) (hB : B ≤ W.heap.size) (hh : Src W A0 (bts lh)) (hn0 : lh.length = n0) (hn1 : n0 ≤ 1000000) :
    ∃ A' c' W', (Builtin.append_ #[30, 30] 30 #[.slice (some ⟨W.heap.size, 0, none⟩) 0 q, .slice A0 n0 c0]).run Try.prog (W.alloc (.cells (zeros q).toArray 5)) = .ok (.slice A' n0 c') W' ∧ OwnY B W' (.slice A' n0 c') lh ∧ Below B W W' := by
  obtain ⟨A', c', W', h1, h2, h3, _, _⟩ := app_bytes (B := B) (l := []) (y := lh) (A := A0) n0 c0 (own_cap q hq W B hB) (by simp; omega) (src_later hh (bl_alloc (Below.refl _ _) _)) hn0 (by simp; omega)
  simp only [List.length_nil, Nat.zero_add, List.nil_append] at h1 h2
  exact ⟨A', c', W', h1, h2, ((bl_alloc (Below.refl _ _) _).mono hB).trans h3⟩
set_option maxRecDepth 100000 in
set_option maxHeartbeats 1600000 in
theorem fwrite_any {A A0 : Option Addr} {L : List RowB} {lh : List Nat} (n cap n0 c0 wd : Nat) (w : World) (h : wd = 11 ∨ wd = 15) (hL : L.length = n) (hcap : n ≤ cap) (hcm : cap ≤ 9223372036854775807) (h1 : 1 ≤ n) (h24 : n ≤ 24) (hok : okTo (lens L) (lens L).length = true) (hs : RSrc w A L) (hh : Src w A0 (bts lh)) (hn0 : lh.length = n0) (hn1 : n0 ≤ 10) :
    Calls Try.prog 44 #[.slice A0 n0 c0, .slice A n cap, .int .i64 wd] w fun e w' => ∃ v', e = .returned v' ∧ OwnY w.heap.size w' v' (lh ++ tailF (lens L) wd ++ flat L) ∧ Below w.heap.size w w' := by
  have hll : (lens L).length = n := by rw [length_lens, hL]
  have hsum := sumTo_bound hok (Nat.le_refl _)
  rw [sumTo_all, hll] at hsum
  have hm : ∀ m ∈ lens L, m ≤ 9223372036854775807 := by
    intro m hm
    obtain ⟨k, hk⟩ := List.getElem?_of_mem hm
    have := okTo_small hok hk
    omega
  have HSZ := Lib.hid (fsize_any n cap wd w hL (by omega) hs hm)
  have hz := szF_pos (ls := lens L) (wd := wd)
  have hzz : 0 ≤ szF (lens L) wd ∧ szF (lens L) wd ≤ 100000 := by rcases hz with hz | hz <;> omega
  obtain ⟨hz0, hz1⟩ := hzz
  clear hz
  generalize szF (lens L) wd = z at *
  have HM := make_capZ ((n0 : Int) + z) (by omega) (by omega)
  have ht46 : (tailF (lens L) wd).length ≤ 46 := by
    have h9 := length_tail wd h (ls := lens L) (by omega) (by omega)
    have h8 := sizeF_nonneg (((lens L).length : Int) - 1) wd
    omega
  have HA1 := Lib.hid (fun W (hb : Below w.heap.size w W) => app_head (B := w.heap.size) n0 c0 ((n0 : Int) + z).toNat (by omega) hb.size (src_later hh hb) hn0 (by omega))
  have HB := Lib.hid (fun W v l (hb : Below w.heap.size w W) (hv : OwnY w.heap.size W v l) (hl : l.length ≤ 1000) => behind_any (B := w.heap.size) (l := l) n cap W hL (by omega) (fun W' hb' => hs.later (hb.trans hb')) hv hb.size (by omega))
  obtain ⟨ad, rfl, _⟩ := hs (by omega)
  by_cases hn2 : n = 1
  · have HT := Lib.hid (show lh ++ tailF (lens L) wd = lh by unfold tailF; rw [if_neg (by omega)]; simp)
    have HN0 := Lib.hid hn0
    subst hn2
    clear hs hL hll hok hsum hm h hh hn0 ht46
    go_enter Try.func44, Try.ntmps44
    go_wp2_with (first
      | (go_at_call 46; refine HSZ.out.mono ?_; rintro e w1 ⟨rfl, hb1⟩; obtain ⟨A1, c1, W1, hr1, ho1, hbw1⟩ := HA1.out w1 hb1; (have HO1 := Lib.hid ho1; have HBW := Lib.hid (hb1.trans hbw1); clear ho1 hb1 hbw1))
      | (at_builtin; refine wpList_run rfl (.tmp 16) (.tmp 17) 30 rfl (.slice (some ⟨w1.heap.size, 0, none⟩) 0 ((n0 : Int) + z).toNat) (.slice A0 n0 c0) (by rfl) (by rfl) hr1 ?_)
      | (go_at_call 75; refine (HB.out W1 _ _ HBW.out HO1.out (by rw [HN0.out]; omega)).mono ?_; rintro e w4 ⟨v', rfl, h4, h5⟩; obtain ⟨A2, c2, hv2, _⟩ := h4.form; generalize (lh ++ flat L).length = n2 at hv2; subst hv2; (have H4 := Lib.hid h4; have H5 := Lib.hid h5; clear h4 h5)))
    go_ret
    exact ⟨_, rfl, by rw [HT.out]; exact H4.out, HBW.out.trans H5.out⟩
  · obtain ⟨m, rfl⟩ : ∃ m, n = m + 1 := ⟨n - 1, by omega⟩
    have htk : (lens L).take ((lens L).length - 1) = lens (L.take m) := by rw [lens_take, hll, Nat.add_sub_cancel]
    have hT : tailF (lens L) wd = pack (wbl wd (lens (L.take m))) := by unfold tailF; rw [if_pos (by omega), htk]
    have hlt : (L.take m).length = m := by rw [List.length_take]; omega
    have H74 := Lib.hid (fun W (hb : Below w.heap.size w W) => lengthsOf_any (A := some ad) (L := L.take m) m cap W hlt (by omega) ((hs.later hb).take m))
    have hlens := tail_lens hok
    rw [htk] at hlens
    have H73 := Lib.hid (fun W g (hr : Row W g 3 (insN (lens (L.take m))).toArray) => lens_write (A := some ⟨g, 0, none⟩) wd m m W h (by rw [length_lens, hlt]) (by omega) (by omega) hlens (row_src hr))
    have HAP := Lib.hid (fun W v g k c (hv : OwnY w.heap.size W v lh) (hB : w.heap.size ≤ W.heap.size) (hr : Row W g 5 (bts (pack (wbl wd (lens (L.take m))))).toArray) (hk : k = (pack (wbl wd (lens (L.take m)))).length) => app_bytes (A := some ⟨g, 0, none⟩) k c hv hB (row_src hr) hk.symm (by rw [hT] at ht46; omega))
    rw [hT] at ht46 ⊢
    have HTL := Lib.hid (show (lh ++ pack (wbl wd (lens (L.take m)))).length ≤ 1000 by rw [List.length_append]; omega)
    have HN0 := Lib.hid hn0
    have hm1 : (1 : Int) < ((m + 1 : Nat) : Int) := by omega
    have hm2 : m ≤ cap := by omega
    clear hs hL hll hok hsum hm h hh hn0 ht46 htk hT hlt hlens HM
    have HM := make_capZ ((n0 : Int) + z) (by omega) (by omega)
    generalize pack (wbl wd (lens (L.take m))) = tl at *
    go_enter Try.func44, Try.ntmps44
    go_wp2_with (first
      | (go_at_call 46; refine HSZ.out.mono ?_; rintro e w1 ⟨rfl, hb1⟩; obtain ⟨A1, c1, W1, hr1, ho1, hbw1⟩ := HA1.out w1 hb1; (have HO1 := Lib.hid ho1; have HBW := Lib.hid (hb1.trans hbw1); clear ho1 hb1 hbw1))
      | (at_builtin; refine wpList_run rfl (.tmp 16) (.tmp 17) 30 rfl (.slice (some ⟨w1.heap.size, 0, none⟩) 0 ((n0 : Int) + z).toNat) (.slice A0 n0 c0) (by rfl) (by rfl) hr1 ?_)
      | (go_at_call 74; refine (H74.out W1 HBW.out).mono ?_; rintro e w2 ⟨g, rfl, hr2, hb2⟩; (have HR2 := Lib.hid hr2; have HB2 := Lib.hid hb2; clear hr2 hb2))
      | (go_at_call 73; refine (H73.out w2 g HR2.out).mono ?_; rintro e w3 ⟨g3, k3, rfl, hk3, hr3, hb3⟩; obtain ⟨A5, c5, W5, hr5, ho5, hb5, _, _⟩ := HAP.out w3 (.slice A1 n0 c1) g3 k3 k3 ((HO1.out.later HB2.out).later hb3) (Nat.le_trans HBW.out.size (Nat.le_trans HB2.out.size hb3.size)) hr3 hk3; rw [HN0.out] at hr5 ho5; (have HO5 := Lib.hid ho5; have HB5 := Lib.hid (((HBW.out.trans (HB2.out.mono HBW.out.size)).trans (hb3.mono (Nat.le_trans HBW.out.size HB2.out.size))).trans hb5); clear hr3 hb3 ho5 hb5 hk3))
      | (at_builtin; refine wpList_run rfl (.tmp 33) (.tmp 34) 30 rfl (.slice A1 n0 c1) (.slice (some ⟨g3, 0, none⟩) k3 k3) (by rfl) (by rfl) hr5 ?_)
      | (go_at_call 75; refine (HB.out W5 _ _ HB5.out HO5.out HTL.out).mono ?_; rintro e w4 ⟨v', rfl, h4, h5⟩; obtain ⟨A2, c2, hv2, _⟩ := h4.form; generalize (lh ++ tl ++ flat L).length = n2 at hv2; subst hv2; (have H4 := Lib.hid h4; have H5 := Lib.hid h5; clear h4 h5)))
    go_ret
    exact ⟨_, rfl, H4.out, HB5.out.trans H5.out⟩
end Go.Proofs.Ytdklddpkklodnaa
