/-
  The bytes of a head, and of fields behind it. What numbers of a space may be, as the code and the document say. Which packets of umd may be, and how many bytes they are. Which packets of amd may be, and how many bytes they are.
-/
import Derived.Test.YtgdpjaojlhdhdaaJAmdWrites07
import Derived.Test.YtgdpjaojlhdhdaaJAmdWrites01
import Derived.Deep.RegionHeld3
namespace Go.Proofs.Ytgdpjaojlhdhdaa
open Go.RowKit


/-- the first k lengths, noughts behind -/
def lenK (ls : List Nat) (k : Nat) : List Value := insN (ls.take k) ++ List.replicate (ls.length - k) (.int .i64 0)
theorem lenK_zero (ls : List Nat) : lenK ls 0 = List.replicate ls.length (.int .i64 0) := by simp [lenK, insN]
theorem lenK_all (ls : List Nat) : lenK ls ls.length = insN ls := by simp [lenK]
theorem lenK_succ {ls : List Nat} {k m : Nat} (h : ls[k]? = some m) : (lenK ls k).set k (.int .i64 m) = lenK ls (k + 1) := by
  obtain ⟨hk, rfl⟩ := List.getElem?_eq_some_iff.1 h
  unfold lenK
  have hl : (insN (ls.take k)).length = k := by rw [length_insN, List.length_take]; omega
  rw [List.set_append_right _ _ (by omega), hl, Nat.sub_self, show ls.length - k = (ls.length - (k + 1)) + 1 by omega, List.replicate_succ, List.set_cons_zero, List.take_succ_eq_append_getElem hk]
  simp only [insN, List.map_append, List.map_cons, List.map_nil, List.append_assoc, List.cons_append, List.nil_append]
theorem made_ints (n : Nat) : madeCells #[.int .i64 0] n = (List.replicate n (Value.int .i64 0)).toArray := by
  apply Array.toList_inj.1
  rw [toList_madeCells_one]
set_option maxRecDepth 100000 in
theorem make_ints (n : Nat) (h : n ≤ 8192) (w : World) :
    (Instr.makeSlice 85 (.int .i64 (n : Int)) (.int .i64 (n : Int))).run Try.prog w = .ok (.slice (some ⟨w.heap.size, 0, none⟩) n n) (w.alloc (.cells (List.replicate n (Value.int .i64 0)).toArray 3)) := by
  obtain ⟨i, hi, hz, hs, hb⟩ := info_parts Try.info3
  have h := run_make (P := Try.prog) w 85 3 i _ Try.under85 hi hz .i64 .i64 n n (by omega) (Int.le_refl _) (by rw [hb]; omega) (by omega)
  rw [h, hs, Nat.mul_one, Int.toNat_natCast, ← made_ints]
  rfl
set_option maxHeartbeats 400000 in
theorem lengthsOf1_any {pb g n : Nat} {A : Option Addr} {cs : List Value} (k m c : Nat) (w : World) (hp : Row w pb 85 #[.slice (some ⟨g, 0, none⟩) n n]) (hg : Row w g 3 cs.toArray) (_hn : cs.length = n) (hk : k < n) (hc : ∃ x, cs[k]? = some (Value.int .i64 x)) :
    Calls Try.prog 326 #[.int .i64 k, .slice A m c, .pointer (some ⟨pb, 0, none⟩)] w fun e w' => e = .returned (.bool true) ∧ Row w' g 3 (cs.set k (.int .i64 m)).toArray ∧ Only (fun b => b = g) w w' := by
  obtain ⟨x, hx⟩ := hc
  have hc0 : w.cell? ⟨pb, 0, none⟩ = some (.slice (some ⟨g, 0, none⟩) n n) := hp.read rfl
  have hck : w.cell? ⟨g, k, none⟩ = some (.int .i64 x) := hg.read (by simpa using hx)
  have hf := hg.free k
  have HROW := Lib.hid (show Row (w.setCell ⟨g, k, none⟩ (.int .i64 m)) g 3 (cs.set k (.int .i64 m)).toArray by
    have h1 := hg.written k (.int .i64 m)
    rw [List.setIfInBounds_toArray] at h1
    exact h1)
  have HON := Lib.hid ((Only.refl (fun b => b = g) w).set (p := ⟨g, k, none⟩) (.inl rfl) (.int .i64 m))
  clear hp hg hx _hn
  go_enter Try.func326, Try.ntmps326
  go_wp2
  go_ret
  exact ⟨rfl, HROW.out, HON.out⟩
theorem each_lengths {B pb g n cap : Nat} {A : Option Addr} {L : List RowB} (w : World) (hL : L.length = n) (hn : n ≤ 8192) (hs : ∀ W, Below B w W → RSrc W A L) (hp : Row w pb 85 #[.slice (some ⟨g, 0, none⟩) n n]) (hg : Row w g 3 (List.replicate n (Value.int .i64 0)).toArray) (hgB : B ≤ g) (hB : B ≤ w.heap.size) :
    Calls Try.prog 290 #[.slice A n cap, .func (.func 326) #[] #[.pointer (some ⟨pb, 0, none⟩)]] w fun e w' => e = .returned (.bool true) ∧ Row w' pb 85 #[.slice (some ⟨g, 0, none⟩) n n] ∧ Row w' g 3 (insN (lens L)).toArray ∧ Below B w w' := by
  have hll : (lens L).length = n := by rw [length_lens, hL]
  have hne : pb ≠ g := hp.apart hg (by decide)
  refine (each_any (K := 326) (caps := #[.pointer (some ⟨pb, 0, none⟩)]) n cap (fun a W => enters Try.func326 (by kernel_rfl) rfl a W) (fun k W => Row W pb 85 #[.slice (some ⟨g, 0, none⟩) n n] ∧ Row W g 3 (lenK (lens L) k).toArray ∧ Below B w W) (fun _ => False) w hL (by omega)
    ⟨hp, by rw [lenK_zero, hll]; exact hg, Below.refl _ _⟩ (fun k W h => hs W h.2.2) (fun k W r hr h => ?_)).mono ?_
  · obtain ⟨h1, h2, h3⟩ := h
    have hk : k < n := by rw [← hL]; exact (List.getElem?_eq_some_iff.1 hr).1
    have hlk : (lenK (lens L) k).length = n := by simp [lenK, length_insN, hll]; omega
    refine (lengthsOf1_any (cs := lenK (lens L) k) k r.bs.length r.cap W h1 h2 hlk hk ⟨0, ?_⟩).mono ?_
    · unfold lenK
      rw [List.getElem?_append_right (by rw [length_insN, List.length_take]; omega), length_insN, List.length_take, List.getElem?_replicate, if_pos (by omega)]
    · rintro e W2 ⟨rfl, g1, g2⟩
      refine .inl ⟨rfl, h1.only g2 hne, ?_, h3.trans (only_below g2 hgB (Nat.le_trans hB h3.size))⟩
      rw [lenK_succ (lens_at hr)] at g1
      exact g1
  · rintro e W (⟨rfl, h1, h2, h3⟩ | ⟨_, h⟩)
    · rw [← hll, lenK_all] at h2
      exact ⟨rfl, h1, h2, h3⟩
    · exact h.elim
set_option maxHeartbeats 400000 in
theorem lengthsOf_any {A : Option Addr} {L : List RowB} (n cap : Nat) (w : World) (hL : L.length = n) (hn : n ≤ 8192) (hs : RSrc w A L) :
    Calls Try.prog 286 #[.slice A n cap] w fun e w' => ∃ g, e = .returned (.slice (some ⟨g, 0, none⟩) n n) ∧ Row w' g 3 (insN (lens L)).toArray ∧ Below w.heap.size w w' := by
  have HM := make_ints n hn
  have HE := Lib.hid (fun W (hb : Below w.heap.size w W) x y => each_lengths (pb := w.heap.size + 1) (g := w.heap.size) (B := w.heap.size) (cap := cap) W hL hn (fun W' hb' => hs.later (hb.trans hb')) x y (Nat.le_refl _) hb.size)
  clear hL hs
  go_enter Try.func286, Try.ntmps286
  go_wp2_with (go_at_call 290; refine (HE.out _ (bl_alloc (bl_alloc (Below.refl _ _) _) _) ?x1 ?x2).mono ?_; rotate_left 2; rintro e w2 ⟨rfl, h1, h2, h3⟩; have hc := h1.read (i := 0) rfl; (have H2 := Lib.hid h2; have H3 := Lib.hid h3; clear h1 h2 h3))
  case x1 => exact (by simpa using Row.made (w.alloc (.cells (List.replicate n (Value.int .i64 0)).toArray 3)) 85 #[.slice (some ⟨w.heap.size, 0, none⟩) n n])
  case x2 => exact (Row.made _ _ _).more _
  go_ret
  exact ⟨_, rfl, H2.out, (bl_alloc (bl_alloc (Below.refl _ _) _) _).trans H3.out⟩

/-- lengths' bytes, of all but the last -/
def tailF (ls : List Nat) (wd : Nat) : List Nat := if 1 < ls.length then pack (wbl wd (ls.take (ls.length - 1))) else []
theorem tail_small (ls : List Nat) (wd : Nat) : ∀ b ∈ tailF ls wd, b < 256 := by
  unfold tailF
  split
  · exact pack_small _
  · intro b hb; cases hb
theorem tail_lens {ls : List Nat} (h : okTo ls ls.length = true) : ∀ x ∈ ls.take (ls.length - 1), 1 ≤ x ∧ x < 2048 := by
  intro x hx
  obtain ⟨k, hk⟩ := List.getElem?_of_mem hx
  rw [List.getElem?_take] at hk
  split at hk
  · have := okTo_small h hk
    omega
  · cases hk
theorem sizeF_pack (n wd : Nat) (h : wd = 11 ∨ wd = 15) (h1 : 1 ≤ n) (h2 : n ≤ 23) : sizeF n wd = ((packLen (n * (wd + 1)) : Nat) : Int) := by
  rcases h with rfl | rfl
  · unfold sizeF
    rw [show okW ((11 : Nat) : Int) = true from rfl, decide_eq_true (show (1 : Int) ≤ n by omega), decide_eq_true (show (n : Int) ≤ 23 by omega)]
    simp only [Bool.and_self, if_true, packLen]
    omega
  · unfold sizeF
    rw [show okW ((15 : Nat) : Int) = true from rfl, decide_eq_true (show (1 : Int) ≤ n by omega), decide_eq_true (show (n : Int) ≤ 23 by omega)]
    simp only [Bool.and_self, if_true, packLen]
    omega
theorem length_tail {ls : List Nat} (wd : Nat) (h : wd = 11 ∨ wd = 15) (h1 : 1 ≤ ls.length) (h2 : ls.length ≤ 24) : ((tailF ls wd).length : Int) = sizeF ((ls.length : Int) - 1) wd := by
  unfold tailF
  split
  · have hl : (ls.take (ls.length - 1)).length = ls.length - 1 := by rw [List.length_take]; omega
    rw [length_pack, length_wbl, hl, ← sizeF_pack (ls.length - 1) wd h (by omega) (by omega)]
    congr 1
    omega
  · have : (ls.length : Int) - 1 = 0 := by omega
    rw [this]
    unfold sizeF
    simp
theorem lens_write {A : Option Addr} {l : List Nat} (wd n cap : Nat) (w : World) (h : wd = 11 ∨ wd = 15) (hn : l.length = n) (h0 : 1 ≤ n) (h23 : n ≤ 23) (hl : ∀ x ∈ l, 1 ≤ x ∧ x < 2048) (hs : Src w A (insN l)) :
    Calls Try.prog 285 #[.slice A n cap, .int .i64 wd] w fun e w' => ∃ g k, e = .returned (.tuple #[.slice (some ⟨g, 0, none⟩) k k, .int .i64 0]) ∧ k = (pack (wbl wd l)).length ∧ Row w' g 5 (bts (pack (wbl wd l))).toArray ∧ Below w.heap.size w w' := by
  rcases h with rfl | rfl
  · refine (write_ok_11 n cap w hn h0 h23 hl hs).mono ?_
    rintro e w' ⟨g, rfl, _, hr, hb⟩
    exact ⟨g, _, rfl, by rw [length_pack, length_wbl, hn], hr, hb⟩
  · refine (write_ok_15 n cap w hn h0 h23 (fun x hx => ⟨(hl x hx).1, Nat.lt_of_lt_of_le (hl x hx).2 (by decide)⟩) hs).mono ?_
    rintro e w' ⟨g, rfl, _, hr, hb⟩
    exact ⟨g, _, rfl, by rw [length_pack, length_wbl, hn], hr, hb⟩
theorem make_capZ (z : Int) (h0 : 0 ≤ z) (h : z ≤ 1000000) (w : World) :
    (Instr.makeSlice 30 (.int .i64 0) (.int .i64 z)).run Try.prog w = .ok (.slice (some ⟨w.heap.size, 0, none⟩) 0 z.toNat) (w.alloc (.cells (zeros z.toNat).toArray 5)) := by
  have h1 := make_cap z.toNat (by omega) w
  rw [Int.toNat_of_nonneg h0] at h1
  exact h1
theorem lens_take (L : List RowB) (k : Nat) : lens (L.take k) = (lens L).take k := by simp [lens]
theorem app_head {B : Nat} {W : World} {A0 : Option Addr} {lh : List Nat} (n0 c0 q : Nat) (hq : q ≤ 1000000) (hB : B ≤ W.heap.size) (hh : Src W A0 (bts lh)) (hn0 : lh.length = n0) (hn1 : n0 ≤ 1000000) :
    ∃ A' c' W', (Builtin.append_ #[30, 30] 30 #[.slice (some ⟨W.heap.size, 0, none⟩) 0 q, .slice A0 n0 c0]).run Try.prog (W.alloc (.cells (zeros q).toArray 5)) = .ok (.slice A' n0 c') W' ∧ OwnY B W' (.slice A' n0 c') lh ∧ Below B W W' := by
  obtain ⟨A', c', W', h1, h2, h3, _, _⟩ := app_bytes (B := B) (l := []) (y := lh) (A := A0) n0 c0 (own_cap q hq W B hB) (by simp; omega) (src_later hh (bl_alloc (Below.refl _ _) _)) hn0 (by simp; omega)
  simp only [List.length_nil, Nat.zero_add, List.nil_append] at h1 h2
  exact ⟨A', c', W', h1, h2, ((bl_alloc (Below.refl _ _) _).mono hB).trans h3⟩
set_option maxRecDepth 100000 in
set_option maxHeartbeats 1600000 in
theorem fwrite_any {A A0 : Option Addr} {L : List RowB} {lh : List Nat} (n cap n0 c0 wd : Nat) (w : World) (h : wd = 11 ∨ wd = 15) (hL : L.length = n) (hcap : n ≤ cap) (_hcm : cap ≤ 9223372036854775807) (h1 : 1 ≤ n) (h24 : n ≤ 24) (hok : okTo (lens L) (lens L).length = true) (hs : RSrc w A L) (hh : Src w A0 (bts lh)) (hn0 : lh.length = n0) (hn1 : n0 ≤ 10) :
    Calls Try.prog 182 #[.slice A0 n0 c0, .slice A n cap, .int .i64 wd] w fun e w' => ∃ v', e = .returned v' ∧ OwnY w.heap.size w' v' (lh ++ tailF (lens L) wd ++ flat L) ∧ Below w.heap.size w w' := by
  have hll : (lens L).length = n := by rw [length_lens, hL]
  have hsum := sumTo_bound hok (Nat.le_refl _)
  rw [sumTo_all, hll] at hsum
  have hm : ∀ m ∈ lens L, m ≤ 9223372036854775807 := by
    intro m hm
    obtain ⟨k, hk⟩ := List.getElem?_of_mem hm
    have := okTo_small hok hk
    omega
  have HSZ := Lib.hid (fsize_any n cap wd w hL (by omega) hs hm)
  have hz := szF_pos (ls := lens L) (wd := wd)
  have hzz : 0 ≤ szF (lens L) wd ∧ szF (lens L) wd ≤ 100000 := by rcases hz with hz | hz <;> omega
  obtain ⟨hz0, hz1⟩ := hzz
  clear hz
  generalize szF (lens L) wd = z at *
  have HM := make_capZ ((n0 : Int) + z) (by omega) (by omega)
  have ht46 : (tailF (lens L) wd).length ≤ 46 := by
    have h9 := length_tail wd h (ls := lens L) (by omega) (by omega)
    have h8 := sizeF_nonneg (((lens L).length : Int) - 1) wd
    omega
  have HA1 := Lib.hid (fun W (hb : Below w.heap.size w W) => app_head (B := w.heap.size) n0 c0 ((n0 : Int) + z).toNat (by omega) hb.size (src_later hh hb) hn0 (by omega))
  have HB := Lib.hid (fun W v l (hb : Below w.heap.size w W) (hv : OwnY w.heap.size W v l) (hl : l.length ≤ 1000) => behind_any (B := w.heap.size) (l := l) n cap W hL (by omega) (fun W' hb' => hs.later (hb.trans hb')) hv hb.size (by omega))
  obtain ⟨ad, rfl, _⟩ := hs (by omega)
  by_cases hn2 : n = 1
  · have HT := Lib.hid (show lh ++ tailF (lens L) wd = lh by unfold tailF; rw [if_neg (by omega)]; simp)
    have HN0 := Lib.hid hn0
    subst hn2
    clear hs hL hll hok hsum hm h hh hn0 ht46
    go_enter Try.func182, Try.ntmps182
    go_wp2_with (first
      | (go_at_call 184; refine HSZ.out.mono ?_; rintro e w1 ⟨rfl, hb1⟩; obtain ⟨A1, c1, W1, hr1, ho1, hbw1⟩ := HA1.out w1 hb1; (have HO1 := Lib.hid ho1; have HBW := Lib.hid (hb1.trans hbw1); clear ho1 hb1 hbw1))
      | (at_builtin; refine wpList_run rfl (.tmp 16) (.tmp 17) 30 rfl (.slice (some ⟨w1.heap.size, 0, none⟩) 0 ((n0 : Int) + z).toNat) (.slice A0 n0 c0) (by rfl) (by rfl) hr1 ?_)
      | (go_at_call 287; refine (HB.out W1 _ _ HBW.out HO1.out (by rw [HN0.out]; omega)).mono ?_; rintro e w4 ⟨v', rfl, h4, h5⟩; obtain ⟨A2, c2, hv2, _⟩ := h4.form; generalize (lh ++ flat L).length = n2 at hv2; subst hv2; (have H4 := Lib.hid h4; have H5 := Lib.hid h5; clear h4 h5)))
    go_ret
    exact ⟨_, rfl, by rw [HT.out]; exact H4.out, HBW.out.trans H5.out⟩
  · obtain ⟨m, rfl⟩ : ∃ m, n = m + 1 := ⟨n - 1, by omega⟩
    have htk : (lens L).take ((lens L).length - 1) = lens (L.take m) := by rw [lens_take, hll, Nat.add_sub_cancel]
    have hT : tailF (lens L) wd = pack (wbl wd (lens (L.take m))) := by unfold tailF; rw [if_pos (by omega), htk]
    have hlt : (L.take m).length = m := by rw [List.length_take]; omega
    have H74 := Lib.hid (fun W (hb : Below w.heap.size w W) => lengthsOf_any (A := some ad) (L := L.take m) m cap W hlt (by omega) ((hs.later hb).take m))
    have hlens := tail_lens hok
    rw [htk] at hlens
    have H73 := Lib.hid (fun W g (hr : Row W g 3 (insN (lens (L.take m))).toArray) => lens_write (A := some ⟨g, 0, none⟩) wd m m W h (by rw [length_lens, hlt]) (by omega) (by omega) hlens (row_src hr))
    have HAP := Lib.hid (fun W v g k c (hv : OwnY w.heap.size W v lh) (hB : w.heap.size ≤ W.heap.size) (hr : Row W g 5 (bts (pack (wbl wd (lens (L.take m))))).toArray) (hk : k = (pack (wbl wd (lens (L.take m)))).length) => app_bytes (A := some ⟨g, 0, none⟩) k c hv hB (row_src hr) hk.symm (by rw [hT] at ht46; omega))
    rw [hT] at ht46 ⊢
    have HTL := Lib.hid (show (lh ++ pack (wbl wd (lens (L.take m)))).length ≤ 1000 by rw [List.length_append]; omega)
    have HN0 := Lib.hid hn0
    have hm1 : (1 : Int) < ((m + 1 : Nat) : Int) := by omega
    have hm2 : m ≤ cap := by omega
    clear hs hL hll hok hsum hm h hh hn0 ht46 htk hT hlt hlens HM
    have HM := make_capZ ((n0 : Int) + z) (by omega) (by omega)
    generalize pack (wbl wd (lens (L.take m))) = tl at *
    go_enter Try.func182, Try.ntmps182
    go_wp2_with (first
      | (go_at_call 184; refine HSZ.out.mono ?_; rintro e w1 ⟨rfl, hb1⟩; obtain ⟨A1, c1, W1, hr1, ho1, hbw1⟩ := HA1.out w1 hb1; (have HO1 := Lib.hid ho1; have HBW := Lib.hid (hb1.trans hbw1); clear ho1 hb1 hbw1))
      | (at_builtin; refine wpList_run rfl (.tmp 16) (.tmp 17) 30 rfl (.slice (some ⟨w1.heap.size, 0, none⟩) 0 ((n0 : Int) + z).toNat) (.slice A0 n0 c0) (by rfl) (by rfl) hr1 ?_)
      | (go_at_call 286; refine (H74.out W1 HBW.out).mono ?_; rintro e w2 ⟨g, rfl, hr2, hb2⟩; (have HR2 := Lib.hid hr2; have HB2 := Lib.hid hb2; clear hr2 hb2))
      | (go_at_call 285; refine (H73.out w2 g HR2.out).mono ?_; rintro e w3 ⟨g3, k3, rfl, hk3, hr3, hb3⟩; obtain ⟨A5, c5, W5, hr5, ho5, hb5, _, _⟩ := HAP.out w3 (.slice A1 n0 c1) g3 k3 k3 ((HO1.out.later HB2.out).later hb3) (Nat.le_trans HBW.out.size (Nat.le_trans HB2.out.size hb3.size)) hr3 hk3; rw [HN0.out] at hr5 ho5; (have HO5 := Lib.hid ho5; have HB5 := Lib.hid (((HBW.out.trans (HB2.out.mono HBW.out.size)).trans (hb3.mono (Nat.le_trans HBW.out.size HB2.out.size))).trans hb5); clear hr3 hb3 ho5 hb5 hk3))
      | (at_builtin; refine wpList_run rfl (.tmp 33) (.tmp 34) 30 rfl (.slice A1 n0 c1) (.slice (some ⟨g3, 0, none⟩) k3 k3) (by rfl) (by rfl) hr5 ?_)
      | (go_at_call 287; refine (HB.out W5 _ _ HB5.out HO5.out HTL.out).mono ?_; rintro e w4 ⟨v', rfl, h4, h5⟩; obtain ⟨A2, c2, hv2, _⟩ := h4.form; generalize (lh ++ tl ++ flat L).length = n2 at hv2; subst hv2; (have H4 := Lib.hid h4; have H5 := Lib.hid h5; clear h4 h5)))
    go_ret
    exact ⟨_, rfl, H4.out, HB5.out.trans H5.out⟩
end Go.Proofs.Ytgdpjaojlhdhdaa
namespace Go.Proofs.Ytgdpjaojlhdhdaa
open Go.RowKit

def rt (b : Int) : Bool := decide (1 ≤ b ∧ b ≤ 16)
def sz (b : Int) : Int := if rt b then 2 ^ b.toNat else 0
def okn (b n : Int) : Bool := decide (0 ≤ n ∧ n < sz b)

theorem rt_true {b : Int} (h : rt b = true) : 1 ≤ b ∧ b ≤ 16 := of_decide_eq_true h
theorem rt_false {b : Int} (h : rt b = false) : b < 1 ∨ 16 < b := by have := of_decide_eq_false h; omega
theorem rt_of {b : Int} (h1 : 1 ≤ b) (h2 : b ≤ 16) : rt b = true := decide_eq_true ⟨h1, h2⟩
theorem rt_not {b : Int} (h : b < 1 ∨ 16 < b) : rt b = false := decide_eq_false (by omega)
theorem sz_cases {b : Int} (h : rt b = true) : sz b = 2 ∨ sz b = 4 ∨ sz b = 8 ∨ sz b = 16 ∨ sz b = 32 ∨ sz b = 64 ∨ sz b = 128 ∨ sz b = 256 ∨ sz b = 512 ∨ sz b = 1024 ∨ sz b = 2048 ∨ sz b = 4096 ∨ sz b = 8192 ∨ sz b = 16384 ∨ sz b = 32768 ∨ sz b = 65536 := by
  obtain ⟨h1, h2⟩ := rt_true h
  unfold sz
  rw [if_pos h]
  obtain rfl | rfl | rfl | rfl | rfl | rfl | rfl | rfl | rfl | rfl | rfl | rfl | rfl | rfl | rfl | rfl : b = 1 ∨ b = 2 ∨ b = 3 ∨ b = 4 ∨ b = 5 ∨ b = 6 ∨ b = 7 ∨ b = 8 ∨ b = 9 ∨ b = 10 ∨ b = 11 ∨ b = 12 ∨ b = 13 ∨ b = 14 ∨ b = 15 ∨ b = 16 := by omega
  all_goals simp
theorem sz_zero {b : Int} (h : rt b = false) : sz b = 0 := by unfold sz; rw [h]; rfl


set_option maxHeartbeats 400000 in
theorem sqright_any (b : Int) (w : World) :
    Calls Try.prog 298 #[.agg #[.int .i64 b]] w fun e w' => e = .returned (.bool (rt b)) ∧ Below w.heap.size w w' := by
  go_enter Try.func298, Try.ntmps298
  go_wp2
  go_loop [4] (fun i => ∃ k : Nat, k ≤ 16 ∧ i = .int .i64 k ∧ (b < 1 ∨ k < b)) (fun i => 16 - (intOf i).toNat)
  case atStart => exact ⟨0, by omega, rfl, by omega⟩
  case round =>
    obtain ⟨k, hk, rfl, hb⟩ := hrel
    go_wp2
    · go_ret
      exact ⟨ret_bool (rt_of (by omega) (by omega)).symm, (Below.refl _ _).alloc (Nat.le_refl _) _⟩
    · go_round
      case rel => exact ⟨k + 1, by omega, by go_num, by omega⟩
      case measure => simp [intOf]; omega
    · go_ret
      exact ⟨ret_bool (rt_not (by omega)).symm, (Below.refl _ _).alloc (Nat.le_refl _) _⟩



set_option maxHeartbeats 400000 in
theorem sqsize_any (b : Int) (w : World) :
    Calls Try.prog 192 #[.agg #[.int .i64 b]] w fun e w' => e = .returned (.int .i64 (sz b)) ∧ Below w.heap.size w w' := by
  cases hr : rt b
  · rw [sz_zero hr]
    have H := Lib.hid hr
    clear hr
    go_enter Try.func192, Try.ntmps192
    go_wp2_with (go_at_call 298; refine (sqright_any _ _).mono ?_; rintro e w1 ⟨rfl, hb⟩; rw [H.out])
    go_ret
    exact ⟨rfl, ((Below.refl _ _).alloc (Nat.le_refl _) _).trans (hb.mono (by simp))⟩
  · have hs := sz_cases hr
    obtain ⟨h1, h2⟩ := rt_true hr
    have hs : sz b = 2 ^ b.toNat := by unfold sz; rw [if_pos hr]
    have Hs := Lib.hid hs
    have H := Lib.hid hr
    clear hr hs
    go_enter Try.func192, Try.ntmps192
    go_wp2_with (go_at_call 298; refine (sqright_any _ _).mono ?_; rintro e w1 ⟨rfl, hb⟩; obtain ⟨hc, hf⟩ := bcell hb; rw [H.out])
    go_ret
    have hw : wrap64 (2 ^ b.toNat) = 2 ^ b.toNat := by rw [← Hs.out]; exact IntWalk.wrap64_in _ ⟨by omega, by omega⟩
    exact ⟨ret_int (hw.trans Hs.out.symm), ((Below.refl _ _).alloc (Nat.le_refl _) _).trans (hb.mono (by simp))⟩

theorem sz_bd (b : Int) : 0 ≤ sz b ∧ sz b ≤ 65536 := by
  cases h : rt b
  · rw [sz_zero h]; omega
  · have := sz_cases h; omega

set_option maxHeartbeats 400000 in
theorem sqis_any (b n : Int) (w : World) :
    Calls Try.prog 185 #[.agg #[.int .i64 b], .int .i64 n] w fun e w' => e = .returned (.bool (okn b n)) ∧ Below w.heap.size w w' := by
  by_cases hn : 0 ≤ n
  · have ho : okn b n = decide (n < sz b) := by unfold okn; simp [hn]
    have H := Lib.hid ho
    clear ho
    go_enter Try.func185, Try.ntmps185
    go_wp2_with (go_at_call 192; refine (sqsize_any _ _).mono ?_; rintro e w1 ⟨rfl, hb⟩)
    go_ret
    exact ⟨ret_bool H.out.symm, ((Below.refl _ _).alloc (Nat.le_refl _) _).trans (hb.mono (by simp))⟩
  · have ho : okn b n = false := decide_eq_false (by omega)
    have H := Lib.hid ho
    clear ho
    go_enter Try.func185, Try.ntmps185
    go_wp2
    go_ret
    exact ⟨ret_bool H.out.symm, ((Below.refl _ _).alloc (Nat.le_refl _) _)⟩

set_option maxHeartbeats 400000 in
theorem rsize_any (b : Int) (w : World) :
    Calls Try.prog 59 #[.int .i64 b] w fun e w' => e = .returned (.int .i64 (sz b)) ∧ w = w' := by
  cases hr : rt b
  · rw [sz_zero hr]
    have hb := rt_false hr
    clear hr
    by_cases h1 : b < 1
    · go_enter Try.func59, Try.ntmps59
      go_wp2
      go_ret
      exact ⟨rfl, rfl⟩
    · have h2 : 16 < b := by omega
      go_enter Try.func59, Try.ntmps59
      go_wp2
      go_ret
      exact ⟨rfl, rfl⟩
  · obtain ⟨h1, h2⟩ := rt_true hr
    have hs : sz b = 2 ^ b.toNat := by unfold sz; rw [if_pos hr]
    have Hs := Lib.hid hs
    clear hr hs
    go_enter Try.func59, Try.ntmps59
    go_wp2
    go_loop [3, 4] (fun v i => ∃ k n : Nat, (k : Int) ≤ b ∧ i = .int .i64 k ∧ v = .int .i64 n ∧ Hid (n = 2 ^ k) ∧ n ≤ 65536) (fun _ i => (b - intOf i).toNat)
    case atStart => exact ⟨0, 1, by omega, rfl, rfl, Lib.hid rfl, by omega⟩
    case round =>
      obtain ⟨k, n, hk, rfl, rfl, hn, hnb⟩ := hrel
      by_cases hlt : (k : Int) < b
      · go_wp2
        go_round
        case rel =>
          have e := hn.out
          have h15 : n ≤ 2 ^ 15 := by rw [e]; exact Nat.pow_le_pow_right (by omega) (by omega)
          exact ⟨k + 1, 2 * n, by omega, by go_num, by go_num, Lib.hid (by rw [e, Nat.pow_succ]; omega), by omega⟩
        case measure => simp [intOf]; omega
      · go_wp2
        go_ret
        have hkb : b.toNat = k := by omega
        exact ⟨ret_int (by rw [Hs.out, hkb, hn.out]; simp), rfl⟩

set_option maxHeartbeats 400000 in
theorem ris_any (b n : Int) (w : World) :
    Calls Try.prog 180 #[.int .i64 b, .int .i64 n] w fun e w' => e = .returned (.bool (okn b n)) ∧ w = w' := by
  by_cases hn : 0 ≤ n
  · have ho : okn b n = decide (n < sz b) := by unfold okn; simp [hn]
    have H := Lib.hid ho
    clear ho
    go_enter Try.func180, Try.ntmps180
    go_wp2_with (go_at_call 59; refine (rsize_any _ _).mono ?_; rintro e w1 ⟨rfl, rfl⟩)
    go_ret
    exact ⟨ret_bool H.out.symm, rfl⟩
  · have ho : okn b n = false := decide_eq_false (by omega)
    have H := Lib.hid ho
    clear ho
    go_enter Try.func180, Try.ntmps180
    go_wp2
    go_ret
    exact ⟨ret_bool H.out.symm, rfl⟩

end Go.Proofs.Ytgdpjaojlhdhdaa
namespace Go.Proofs.Ytgdpjaojlhdhdaa
open Go.RowKit


def umdF (fi sn : Int) (ls : List Nat) (wd : Int) : Int := if (wd = 5 ∨ wd = 10) ∧ 0 ≤ fi ∧ fi ≤ 3 ∧ okn wd sn = true then fieldsF ls (wd / 5) 11 else 0
theorem fieldsF_big (ls : List Nat) (head wd : Int) : fieldsF ls head wd ≤ 4000 := by
  unfold fieldsF
  split
  · rename_i h; exact h.2.2.2
  · omega
theorem umdF_big (fi sn : Int) (ls : List Nat) (wd : Int) : umdF fi sn ls wd ≤ 4000 := by
  unfold umdF
  split
  · exact fieldsF_big _ _ _
  · omega
theorem fieldsF_nonneg (ls : List Nat) (head wd : Int) (h : 0 ≤ head) : 0 ≤ fieldsF ls head wd := by
  unfold fieldsF
  have := sizeF_nonneg ((ls.length : Int) - 1) wd
  split <;> omega
theorem umdF_nonneg (fi sn : Int) (ls : List Nat) (wd : Int) : 0 ≤ umdF fi sn ls wd := by
  unfold umdF
  split
  · exact fieldsF_nonneg _ _ _ (by omega)
  · omega
theorem umdF_pos {fi sn : Int} {ls : List Nat} {wd : Int} (h : umdF fi sn ls wd ≠ 0) : (wd = 5 ∨ wd = 10) ∧ 0 ≤ fi ∧ fi ≤ 3 ∧ okn wd sn = true ∧ 1 ≤ ls.length ∧ ls.length ≤ 24 ∧ okTo ls ls.length = true ∧ umdF fi sn ls wd = wd / 5 + sizeF ((ls.length : Int) - 1) 11 + ls.sum := by
  unfold umdF at h ⊢
  split at h
  · rename_i h1
    rw [if_pos h1]
    unfold fieldsF at h ⊢
    split at h
    · rename_i h2
      rw [if_pos h2]
      exact ⟨h1.1, h1.2.1, h1.2.2.1, h1.2.2.2, h2.1, h2.2.1, h2.2.2.1, rfl⟩
    · exact absurd rfl h
  · exact absurd rfl h

/-- a head's bytes, and the noughts that it begins with -/
def headN (wd : Int) : Int × Int := if wd = 5 then (1, 0) else if wd = 10 then (2, 3) else (0, 0)
theorem shape_any (wd : Int) (w : World) : Calls Try.prog 160 #[.int .i64 wd] w fun e w' => e = .returned (.tuple #[.int .i64 (headN wd).1, .int .i64 (headN wd).2]) ∧ w = w' := by
  by_cases h5 : wd = 5
  · subst h5
    go_enter Try.func160, Try.ntmps160
    go_wp2
    go_ret2
    exact ⟨rfl, rfl⟩
  · by_cases h10 : wd = 10
    · subst h10
      go_enter Try.func160, Try.ntmps160
      go_wp2
      go_ret2
      exact ⟨rfl, rfl⟩
    · have h1 : (wd == 5) = false := by simpa using h5
      have h2 : (wd == 10) = false := by simpa using h10
      have HH := Lib.hid (show headN wd = (0, 0) by unfold headN; rw [if_neg h5, if_neg h10])
      clear h5 h10
      go_enter Try.func160, Try.ntmps160
      go_wp2
      go_ret2
      exact ⟨by rw [HH.out]; rfl, rfl⟩

set_option maxRecDepth 100000 in
set_option maxHeartbeats 3200000 in
theorem usize_any {A : Option Addr} {L : List RowB} (fi sn wd : Int) (n cap : Nat) (w : World) (hL : L.length = n) (hn : n ≤ 9223372036854775807) (hs : RSrc w A L) (hm : ∀ m ∈ lens L, m ≤ 9223372036854775807) :
    Calls Try.prog 266 #[.agg #[.int .i64 fi, .int .i64 sn, .slice A n cap], .int .i64 wd] w fun e w' => e = .returned (.int .i64 (umdF fi sn (lens L) wd)) ∧ Below w.heap.size w w' := by
  have HSH := Lib.hid (fun W => shape_any wd W)
  have HZ := Lib.hid (fun W (hb : Below w.heap.size w W) => fsize_any n cap 11 W hL hn (hs.later hb) hm)
  have hz : 0 ≤ szF (lens L) 11 ∧ szF (lens L) 11 ≤ 100000 := by
    rcases szF_pos (ls := lens L) (wd := 11) with h | h <;> omega
  have HI := Lib.hid (fun W => sqis_any wd sn W)
  have hF : umdF fi sn (lens L) wd = if (wd = 5 ∨ wd = 10) ∧ 0 ≤ fi ∧ fi ≤ 3 ∧ okn wd sn = true then (if szF (lens L) 11 = 0 ∨ 4000 < wd / 5 + szF (lens L) 11 then 0 else wd / 5 + szF (lens L) 11) else 0 := by
    unfold umdF
    rw [fieldsF_code]
  generalize szF (lens L) 11 = z at *
  generalize umdF fi sn (lens L) wd = F at *
  obtain ⟨hz0, hz1⟩ := hz
  clear hs hm hL
  by_cases hw : wd = 5 ∨ wd = 10
  · have hd : (headN wd).1 = wd / 5 ∧ 1 ≤ wd / 5 ∧ wd / 5 ≤ 2 := by rcases hw with rfl | rfl <;> decide
    obtain ⟨hd1, hd2, hd3⟩ := hd
    rw [hd1] at HSH
    generalize (headN wd).2 = nz at *
    have hF2 : F = if 0 ≤ fi ∧ fi ≤ 3 ∧ okn wd sn = true then (if z = 0 ∨ 4000 < wd / 5 + z then 0 else wd / 5 + z) else 0 := by
      rw [hF]
      by_cases h : 0 ≤ fi ∧ fi ≤ 3 ∧ okn wd sn = true
      · rw [if_pos ⟨hw, h⟩, if_pos h]
      · rw [if_neg (fun h2 => h h2.2), if_neg h]
    clear hF hw hd1
    generalize wd / 5 = hd at *
    have h0 : (hd == 0) = false := by simp; omega
    rcases Decidable.em (z = 0) with hz2 | hz2
    · have HF := Lib.hid (show F = 0 by rw [hF2]; split <;> simp [hz2])
      subst hz2
      clear hF2
      go_enter Try.func266, Try.ntmps266
      go_wp2_with (first
        | (go_at_call 160; refine (HSH.out _).mono ?_; rintro e w1 ⟨rfl, rfl⟩)
        | (go_at_call 184; refine (HZ.out _ (bl_alloc (Below.refl _ _) _)).mono ?_; rintro e w2 ⟨rfl, hb2⟩; obtain ⟨hc, hf⟩ := bcell hb2; (have HB := Lib.hid ((bl_alloc (Below.refl w.heap.size w) _).trans (hb2.mono (by simp))); clear hb2)))
      go_ret
      exact ⟨ret_int (by rw [HF.out]), HB.out⟩
    · have hz3 : (z == 0) = false := by simpa using hz2
      rcases Decidable.em (4000 < hd + z) with hz4 | hz4
      · have HF := Lib.hid (show F = 0 by rw [hF2]; split <;> simp [hz4])
        clear hF2 hz2
        go_enter Try.func266, Try.ntmps266
        go_wp2_with (first
          | (go_at_call 160; refine (HSH.out _).mono ?_; rintro e w1 ⟨rfl, rfl⟩)
          | (go_at_call 184; refine (HZ.out _ (bl_alloc (Below.refl _ _) _)).mono ?_; rintro e w2 ⟨rfl, hb2⟩; obtain ⟨hc, hf⟩ := bcell hb2; (have HB := Lib.hid ((bl_alloc (Below.refl w.heap.size w) _).trans (hb2.mono (by simp))); clear hb2)))
        go_ret
        exact ⟨ret_int (by rw [HF.out]), HB.out⟩
      · have hF3 : F = if 0 ≤ fi ∧ fi ≤ 3 ∧ okn wd sn = true then hd + z else 0 := by
          rw [hF2, if_neg (show ¬ (z = 0 ∨ 4000 < hd + z) by omega)]
        clear hF2 hz2
        rcases Decidable.em (fi < 0) with hfi | hfi
        · have HF := Lib.hid (show F = 0 by rw [hF3, if_neg (by omega)])
          clear hF3
          go_enter Try.func266, Try.ntmps266
          go_wp2_with (first
            | (go_at_call 160; refine (HSH.out _).mono ?_; rintro e w1 ⟨rfl, rfl⟩)
            | (go_at_call 184; refine (HZ.out _ (bl_alloc (Below.refl _ _) _)).mono ?_; rintro e w2 ⟨rfl, hb2⟩; obtain ⟨hc, hf⟩ := bcell hb2; (have HB := Lib.hid ((bl_alloc (Below.refl w.heap.size w) _).trans (hb2.mono (by simp))); clear hb2)))
          go_ret
          exact ⟨ret_int (by rw [HF.out]), HB.out⟩
        · rcases Decidable.em (3 < fi) with hfi2 | hfi2
          · have HF := Lib.hid (show F = 0 by rw [hF3, if_neg (by omega)])
            clear hF3
            go_enter Try.func266, Try.ntmps266
            go_wp2_with (first
              | (go_at_call 160; refine (HSH.out _).mono ?_; rintro e w1 ⟨rfl, rfl⟩)
              | (go_at_call 184; refine (HZ.out _ (bl_alloc (Below.refl _ _) _)).mono ?_; rintro e w2 ⟨rfl, hb2⟩; obtain ⟨hc, hf⟩ := bcell hb2; (have HB := Lib.hid ((bl_alloc (Below.refl w.heap.size w) _).trans (hb2.mono (by simp))); clear hb2)))
            go_ret
            exact ⟨ret_int (by rw [HF.out]), HB.out⟩
          · cases hi : okn wd sn
            · have HF := Lib.hid (show F = 0 by rw [hF3, if_neg (by rw [hi]; simp)])
              rw [hi] at HI
              clear hF3 hi
              go_enter Try.func266, Try.ntmps266
              go_wp2_with (first
                | (go_at_call 160; refine (HSH.out _).mono ?_; rintro e w1 ⟨rfl, rfl⟩)
                | (go_at_call 184; refine (HZ.out _ (bl_alloc (Below.refl _ _) _)).mono ?_; rintro e w2 ⟨rfl, hb2⟩; obtain ⟨hc, hf⟩ := bcell hb2; (have HB := Lib.hid ((bl_alloc (Below.refl w.heap.size w) _).trans (hb2.mono (by simp))); clear hb2))
                | (go_at_call 185; refine (HI.out _).mono ?_; rintro e w3 ⟨rfl, hb3⟩))
              go_ret
              exact ⟨ret_int (by rw [HF.out]), HB.out.trans (hb3.mono HB.out.size)⟩
            · have HF := Lib.hid (show F = hd + z by rw [hF3, if_pos ⟨by omega, by omega, hi⟩])
              rw [hi] at HI
              clear hF3 hi
              go_enter Try.func266, Try.ntmps266
              go_wp2_with (first
                | (go_at_call 160; refine (HSH.out _).mono ?_; rintro e w1 ⟨rfl, rfl⟩)
                | (go_at_call 184; refine (HZ.out _ (bl_alloc (Below.refl _ _) _)).mono ?_; rintro e w2 ⟨rfl, hb2⟩; obtain ⟨hc, hf⟩ := bcell hb2; (have HB := Lib.hid ((bl_alloc (Below.refl w.heap.size w) _).trans (hb2.mono (by simp))); clear hb2))
                | (go_at_call 185; refine (HI.out _).mono ?_; rintro e w3 ⟨rfl, hb3⟩))
              go_ret
              exact ⟨ret_int (by rw [HF.out]), HB.out.trans (hb3.mono HB.out.size)⟩
  · have HF := Lib.hid (show F = 0 by rw [hF, if_neg (fun h => hw h.1)])
    have hh : headN wd = (0, 0) := by unfold headN; rw [if_neg (fun h => hw (.inl h)), if_neg (fun h => hw (.inr h))]
    rw [hh] at HSH
    clear hF hw hh
    go_enter Try.func266, Try.ntmps266
    go_wp2_with (first
      | (go_at_call 160; refine (HSH.out _).mono ?_; rintro e w1 ⟨rfl, rfl⟩)
      | (go_at_call 184; refine (HZ.out _ (bl_alloc (Below.refl _ _) _)).mono ?_; rintro e w2 ⟨rfl, hb2⟩; obtain ⟨hc, hf⟩ := bcell hb2; (have HB := Lib.hid ((bl_alloc (Below.refl w.heap.size w) _).trans (hb2.mono (by simp))); clear hb2)))
    go_ret
    exact ⟨ret_int (by rw [HF.out]), HB.out⟩
set_option maxRecDepth 100000 in
set_option maxHeartbeats 800000 in
theorem uright_any {A : Option Addr} {L : List RowB} (fi sn wd : Int) (n cap : Nat) (w : World) (hL : L.length = n) (hn : n ≤ 9223372036854775807) (hs : RSrc w A L) (hm : ∀ m ∈ lens L, m ≤ 9223372036854775807) :
    Calls Try.prog 267 #[.agg #[.int .i64 fi, .int .i64 sn, .slice A n cap], .int .i64 wd] w fun e w' => e = .returned (.bool (decide (0 < umdF fi sn (lens L) wd))) ∧ Below w.heap.size w w' := by
  have HZ := Lib.hid (fun W (hb : Below w.heap.size w W) => usize_any (A := A) fi sn wd n cap W hL hn (hs.later hb) hm)
  generalize umdF fi sn (lens L) wd = F at *
  clear hs hm hL
  go_enter Try.func267, Try.ntmps267
  go_wp2_with (go_at_call 266; refine (HZ.out _ (bl_alloc (Below.refl _ _) _)).mono ?_; rintro e w2 ⟨rfl, hb2⟩)
  go_ret
  exact ⟨rfl, (bl_alloc (Below.refl w.heap.size w) _).trans (hb2.mono (by simp))⟩
end Go.Proofs.Ytgdpjaojlhdhdaa
namespace Go.Proofs.Ytgdpjaojlhdhdaa
open Go.RowKit

/-- a length's width, an Offset's width, an Offset's end, a head's bytes -/
def lwA (wd : Int) : Int := if wd = 10 then 11 else 15
def owA (wd : Int) : Int := if wd = 10 then 15 else 16
def topA (wd : Int) : Int := if wd = 10 then 32768 else 65536
def headA (part : Bool) (wd : Int) : Int := if wd = 10 then (if part then 4 else 2) else if wd = 16 then (if part then 5 else 3) else 0
def placedA (part last : Bool) (off wd : Int) : Bool := if part then decide (0 ≤ off ∧ off < topA wd) else (off == 0) && !last
def amdF (part last : Bool) (fi sn off : Int) (ls : List Nat) (wd : Int) : Int :=
  if (wd = 10 ∨ wd = 16) ∧ 0 ≤ fi ∧ fi ≤ 3 ∧ okn wd sn = true ∧ placedA part last off wd = true then fieldsF ls (headA part wd) (lwA wd) else 0
theorem amdF_big (part last : Bool) (fi sn off : Int) (ls : List Nat) (wd : Int) : amdF part last fi sn off ls wd ≤ 4000 := by
  unfold amdF
  split
  · exact fieldsF_big _ _ _
  · omega
theorem headA_nonneg (part : Bool) (wd : Int) : 0 ≤ headA part wd ∧ headA part wd ≤ 5 := by
  unfold headA
  cases part <;> (repeat' split) <;> simp_all <;> omega
theorem amdF_nonneg (part last : Bool) (fi sn off : Int) (ls : List Nat) (wd : Int) : 0 ≤ amdF part last fi sn off ls wd := by
  unfold amdF
  split
  · exact fieldsF_nonneg _ _ _ (headA_nonneg _ _).1
  · omega
theorem amdF_pos {part last : Bool} {fi sn off : Int} {ls : List Nat} {wd : Int} (h : amdF part last fi sn off ls wd ≠ 0) : (wd = 10 ∨ wd = 16) ∧ 0 ≤ fi ∧ fi ≤ 3 ∧ okn wd sn = true ∧ placedA part last off wd = true ∧ 1 ≤ ls.length ∧ ls.length ≤ 24 ∧ okTo ls ls.length = true ∧ amdF part last fi sn off ls wd = headA part wd + sizeF ((ls.length : Int) - 1) (lwA wd) + ls.sum := by
  unfold amdF at h ⊢
  split at h
  · rename_i h1
    rw [if_pos h1]
    unfold fieldsF at h ⊢
    split at h
    · rename_i h2
      rw [if_pos h2]
      exact ⟨h1.1, h1.2.1, h1.2.2.1, h1.2.2.2.1, h1.2.2.2.2, h2.1, h2.2.1, h2.2.2.1, rfl⟩
    · exact absurd rfl h
  · exact absurd rfl h
theorem ahead_any (part : Bool) (wd : Int) (w : World) : Calls Try.prog 44 #[.bool part, .int .i64 wd] w fun e w' => e = .returned (.int .i64 (headA part wd)) ∧ w = w' := by
  by_cases h5 : wd = 10
  · subst h5
    cases part
    all_goals
      go_enter Try.func44, Try.ntmps44
      go_wp2
      go_ret
      exact ⟨rfl, rfl⟩
  · by_cases h10 : wd = 16
    · subst h10
      cases part
      all_goals
        go_enter Try.func44, Try.ntmps44
        go_wp2
        go_ret
        exact ⟨rfl, rfl⟩
    · have h1 : (wd == 10) = false := by simpa using h5
      have h2 : (wd == 16) = false := by simpa using h10
      have HH := Lib.hid (show headA part wd = 0 by unfold headA; rw [if_neg h5, if_neg h10])
      clear h5 h10
      cases part
      all_goals
        go_enter Try.func44, Try.ntmps44
        go_wp2
        go_ret
        exact ⟨by rw [HH.out]; rfl, rfl⟩
theorem alen_any (wd : Int) (w : World) : Calls Try.prog 174 #[.int .i64 wd] w fun e w' => e = .returned (.int .i64 (lwA wd)) ∧ w = w' := by
  by_cases h5 : wd = 10
  · subst h5
    go_enter Try.func174, Try.ntmps174
    go_wp2
    go_ret
    exact ⟨rfl, rfl⟩
  · have h1 : (wd == 10) = false := by simpa using h5
    have HH := Lib.hid (show lwA wd = 15 by unfold lwA; rw [if_neg h5])
    clear h5
    go_enter Try.func174, Try.ntmps174
    go_wp2
    go_ret
    exact ⟨by rw [HH.out]; rfl, rfl⟩
theorem aoff_any (wd : Int) (w : World) : Calls Try.prog 283 #[.int .i64 wd] w fun e w' => e = .returned (.int .i64 (owA wd)) ∧ w = w' := by
  by_cases h5 : wd = 10
  · subst h5
    go_enter Try.func283, Try.ntmps283
    go_wp2
    go_ret
    exact ⟨rfl, rfl⟩
  · have h1 : (wd == 10) = false := by simpa using h5
    have HH := Lib.hid (show owA wd = 16 by unfold owA; rw [if_neg h5])
    clear h5
    go_enter Try.func283, Try.ntmps283
    go_wp2
    go_ret
    exact ⟨by rw [HH.out]; rfl, rfl⟩
theorem abit_any (b : Bool) (w : World) : Calls Try.prog 289 #[.bool b] w fun e w' => e = .returned (.int .i64 b.toNat) ∧ w = w' := by
  cases b
  all_goals
    go_enter Try.func289, Try.ntmps289
    go_wp2
    go_ret
    exact ⟨rfl, rfl⟩
set_option maxRecDepth 100000 in
set_option maxHeartbeats 800000 in
theorem placed_one (poll part last : Bool) (fi sn off wd : Int) (s : Value) (w : World) (hw : wd = 10 ∨ wd = 16) :
    Calls Try.prog 186 #[.agg #[.bool poll, .int .i64 fi, .int .i64 sn, .bool part, .bool last, .int .i64 off, s], .int .i64 wd] w fun e w' => e = .returned (.bool (placedA part last off wd)) ∧ ∃ k, (w.alloc (.cells #[.bool poll, .int .i64 fi, .int .i64 sn, .bool part, .bool last, .int .i64 off, s] 57)).drewN k = w' := by
  cases part
  · cases h0 : (off == 0)
    · have HF := Lib.hid (show placedA false last off wd = false by unfold placedA; rw [h0]; rfl)
      go_enter Try.func186, Try.ntmps186
      go_wp2
      go_ret
      exact ⟨by rw [HF.out]; rfl, 0, rfl⟩
    · have HF := Lib.hid (show placedA false last off wd = !last by unfold placedA; rw [h0]; simp)
      go_enter Try.func186, Try.ntmps186
      go_wp2
      go_ret
      exact ⟨by rw [HF.out]; rfl, 0, rfl⟩
  · by_cases h0 : off < 0
    · have HF := Lib.hid (show placedA true last off wd = false by unfold placedA; simp; omega)
      have h0' : decide (0 ≤ off) = false := by simpa using h0
      clear h0
      go_enter Try.func186, Try.ntmps186
      go_wp2
      go_quiet (fail)
      go_wp2
      go_ret
      exact ⟨by rw [HF.out]; rfl, _, rfl⟩
    · have h0 : 0 ≤ off := by omega
      have h0' : decide (0 ≤ off) = true := by simpa using h0
      have HF := Lib.hid (show placedA true last off wd = decide (off < topA wd) by unfold placedA; simp [h0])
      clear h0
      rcases hw with rfl | rfl
      · have HO := Lib.hid (fun W => show Calls Try.prog 283 #[.int .i64 10] W fun e w' => e = .returned (.int .i64 15) ∧ W = w' from aoff_any 10 W)
        rw [show topA 10 = 32768 from rfl] at HF
        generalize hb : decide (off < 32768) = b at *
        go_enter Try.func186, Try.ntmps186
        go_wp2
        go_quiet ((go_at_call 283; exact Calls.quiet_of_same ((HO.out _).mono fun e w' h => ⟨h.1, h.2.symm⟩)))
        go_wp2
        go_ret
        exact ⟨by rw [HF.out]; first | rfl | (rw [← hb]; rfl), _, rfl⟩
      · have HO := Lib.hid (fun W => show Calls Try.prog 283 #[.int .i64 16] W fun e w' => e = .returned (.int .i64 16) ∧ W = w' from aoff_any 16 W)
        rw [show topA 16 = 65536 from rfl] at HF
        generalize hb : decide (off < 65536) = b at *
        go_enter Try.func186, Try.ntmps186
        go_wp2
        go_quiet ((go_at_call 283; exact Calls.quiet_of_same ((HO.out _).mono fun e w' h => ⟨h.1, h.2.symm⟩)))
        go_wp2
        go_ret
        exact ⟨by rw [HF.out]; first | rfl | (rw [← hb]; rfl), _, rfl⟩
end Go.Proofs.Ytgdpjaojlhdhdaa
