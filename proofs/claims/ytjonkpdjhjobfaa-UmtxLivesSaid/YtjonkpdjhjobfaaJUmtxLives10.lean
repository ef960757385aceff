/-
  The bytes of a head, and of fields behind it. Which packets of umd may be, and how many bytes they are. A packet's bytes. The packet that bytes are.
-/
import Derived.Test.YtjonkpdjhjobfaaJUmtxLives09
import Derived.Test.YtjonkpdjhjobfaaJUmtxLives02
import Derived.Deep.RegionHeld3
import Derived.Laws.ResultCell
namespace Go.Proofs.Ytjonkpdjhjobfaa
open Go.RowKit


/-- the first k lengths, noughts behind -/
def lenK (ls : List Nat) (k : Nat) : List Value := insN (ls.take k) ++ List.replicate (ls.length - k) (.int .i64 0)
theorem lenK_zero (ls : List Nat) : lenK ls 0 = List.replicate ls.length (.int .i64 0) := by simp [lenK, insN]
theorem lenK_all (ls : List Nat) : lenK ls ls.length = insN ls := by simp [lenK]
theorem lenK_succ {ls : List Nat} {k m : Nat} (h : ls[k]? = some m) : (lenK ls k).set k (.int .i64 m) = lenK ls (k + 1) := by
  obtain ⟨hk, rfl⟩ := List.getElem?_eq_some_iff.1 h
  unfold lenK
  have hl : (insN (ls.take k)).length = k := by rw [length_insN, List.length_take]; omega
  rw [List.set_append_right _ _ (by omega), hl, Nat.sub_self, show ls.length - k = (ls.length - (k + 1)) + 1 by omega, List.replicate_succ, List.set_cons_zero, List.take_succ_eq_append_getElem hk]
  simp only [insN, List.map_append, List.map_cons, List.map_nil, List.append_assoc, List.cons_append, List.nil_append]
theorem made_ints (n : Nat) : madeCells #[.int .i64 0] n = (List.replicate n (Value.int .i64 0)).toArray := by
  apply Array.toList_inj.1
  rw [toList_madeCells_one]
set_option maxRecDepth 100000 in
theorem make_ints (n : Nat) (h : n ≤ 8192) (w : World) :
    (Instr.makeSlice 49 (.int .i64 (n : Int)) (.int .i64 (n : Int))).run Try.prog w = .ok (.slice (some ⟨w.heap.size, 0, none⟩) n n) (w.alloc (.cells (List.replicate n (Value.int .i64 0)).toArray 3)) := by
  obtain ⟨i, hi, hz, hs, hb⟩ := info_parts Try.info3
  have h := run_make (P := Try.prog) w 49 3 i _ Try.under49 hi hz .i64 .i64 n n (by omega) (Int.le_refl _) (by rw [hb]; omega) (by omega)
  rw [h, hs, Nat.mul_one, Int.toNat_natCast, ← made_ints]
  rfl
set_option maxHeartbeats 400000 in
theorem lengthsOf1_any {pb g n : Nat} {A : Option Addr} {cs : List Value} (k m c : Nat) (w : World) (hp : Row w pb 49 #[.slice (some ⟨g, 0, none⟩) n n]) (hg : Row w g 3 cs.toArray) (_hn : cs.length = n) (hk : k < n) (hc : ∃ x, cs[k]? = some (Value.int .i64 x)) :
    Calls Try.prog 222 #[.int .i64 k, .slice A m c, .pointer (some ⟨pb, 0, none⟩)] w fun e w' => e = .returned (.bool true) ∧ Row w' g 3 (cs.set k (.int .i64 m)).toArray ∧ Only (fun b => b = g) w w' := by
  obtain ⟨x, hx⟩ := hc
  have hc0 : w.cell? ⟨pb, 0, none⟩ = some (.slice (some ⟨g, 0, none⟩) n n) := hp.read rfl
  have hck : w.cell? ⟨g, k, none⟩ = some (.int .i64 x) := hg.read (by simpa using hx)
  have hf := hg.free k
  have HROW := Lib.hid (show Row (w.setCell ⟨g, k, none⟩ (.int .i64 m)) g 3 (cs.set k (.int .i64 m)).toArray by
    have h1 := hg.written k (.int .i64 m)
    rw [List.setIfInBounds_toArray] at h1
    exact h1)
  have HON := Lib.hid ((Only.refl (fun b => b = g) w).set (p := ⟨g, k, none⟩) (.inl rfl) (.int .i64 m))
  clear hp hg hx _hn
  go_enter Try.func222, Try.ntmps222
  go_wp2
  go_ret
  exact ⟨rfl, HROW.out, HON.out⟩
theorem each_lengths {B pb g n cap : Nat} {A : Option Addr} {L : List RowB} (w : World) (hL : L.length = n) (hn : n ≤ 8192) (hs : ∀ W, Below B w W → RSrc W A L) (hp : Row w pb 49 #[.slice (some ⟨g, 0, none⟩) n n]) (hg : Row w g 3 (List.replicate n (Value.int .i64 0)).toArray) (hgB : B ≤ g) (hB : B ≤ w.heap.size) :
    Calls Try.prog 182 #[.slice A n cap, .func (.func 222) #[] #[.pointer (some ⟨pb, 0, none⟩)]] w fun e w' => e = .returned (.bool true) ∧ Row w' pb 49 #[.slice (some ⟨g, 0, none⟩) n n] ∧ Row w' g 3 (insN (lens L)).toArray ∧ Below B w w' := by
  have hll : (lens L).length = n := by rw [length_lens, hL]
  have hne : pb ≠ g := hp.apart hg (by decide)
  refine (each_any (K := 222) (caps := #[.pointer (some ⟨pb, 0, none⟩)]) n cap (fun a W => enters Try.func222 (by kernel_rfl) rfl a W) (fun k W => Row W pb 49 #[.slice (some ⟨g, 0, none⟩) n n] ∧ Row W g 3 (lenK (lens L) k).toArray ∧ Below B w W) (fun _ => False) w hL (by omega)
    ⟨hp, by rw [lenK_zero, hll]; exact hg, Below.refl _ _⟩ (fun k W h => hs W h.2.2) (fun k W r hr h => ?_)).mono ?_
  · obtain ⟨h1, h2, h3⟩ := h
    have hk : k < n := by rw [← hL]; exact (List.getElem?_eq_some_iff.1 hr).1
    have hlk : (lenK (lens L) k).length = n := by simp [lenK, length_insN, hll]; omega
    refine (lengthsOf1_any (cs := lenK (lens L) k) k r.bs.length r.cap W h1 h2 hlk hk ⟨0, ?_⟩).mono ?_
    · unfold lenK
      rw [List.getElem?_append_right (by rw [length_insN, List.length_take]; omega), length_insN, List.length_take, List.getElem?_replicate, if_pos (by omega)]
    · rintro e W2 ⟨rfl, g1, g2⟩
      refine .inl ⟨rfl, h1.only g2 hne, ?_, h3.trans (only_below g2 hgB (Nat.le_trans hB h3.size))⟩
      rw [lenK_succ (lens_at hr)] at g1
      exact g1
  · rintro e W (⟨rfl, h1, h2, h3⟩ | ⟨_, h⟩)
    · rw [← hll, lenK_all] at h2
      exact ⟨rfl, h1, h2, h3⟩
    · exact h.elim
set_option maxHeartbeats 400000 in
theorem lengthsOf_any {A : Option Addr} {L : List RowB} (n cap : Nat) (w : World) (hL : L.length = n) (hn : n ≤ 8192) (hs : RSrc w A L) :
    Calls Try.prog 203 #[.slice A n cap] w fun e w' => ∃ g, e = .returned (.slice (some ⟨g, 0, none⟩) n n) ∧ Row w' g 3 (insN (lens L)).toArray ∧ Below w.heap.size w w' := by
  have HM := make_ints n hn
  have HE := Lib.hid (fun W (hb : Below w.heap.size w W) x y => each_lengths (pb := w.heap.size + 1) (g := w.heap.size) (B := w.heap.size) (cap := cap) W hL hn (fun W' hb' => hs.later (hb.trans hb')) x y (Nat.le_refl _) hb.size)
  clear hL hs
  go_enter Try.func203, Try.ntmps203
  go_wp2_with (go_at_call 182; refine (HE.out _ (bl_alloc (bl_alloc (Below.refl _ _) _) _) ?x1 ?x2).mono ?_; rotate_left 2; rintro e w2 ⟨rfl, h1, h2, h3⟩; have hc := h1.read (i := 0) rfl; (have H2 := Lib.hid h2; have H3 := Lib.hid h3; clear h1 h2 h3))
  case x1 => exact (by simpa using Row.made (w.alloc (.cells (List.replicate n (Value.int .i64 0)).toArray 3)) 49 #[.slice (some ⟨w.heap.size, 0, none⟩) n n])
  case x2 => exact (Row.made _ _ _).more _
  go_ret
  exact ⟨_, rfl, H2.out, (bl_alloc (bl_alloc (Below.refl _ _) _) _).trans H3.out⟩

/-- lengths' bytes, of all but the last -/
def tailF (ls : List Nat) (wd : Nat) : List Nat := if 1 < ls.length then pack (wbl wd (ls.take (ls.length - 1))) else []
theorem tail_small (ls : List Nat) (wd : Nat) : ∀ b ∈ tailF ls wd, b < 256 := by
  unfold tailF
  split
  · exact pack_small _
  · intro b hb; cases hb
theorem tail_lens {ls : List Nat} (h : okTo ls ls.length = true) : ∀ x ∈ ls.take (ls.length - 1), 1 ≤ x ∧ x < 2048 := by
  intro x hx
  obtain ⟨k, hk⟩ := List.getElem?_of_mem hx
  rw [List.getElem?_take] at hk
  split at hk
  · have := okTo_small h hk
    omega
  · cases hk
theorem sizeF_pack (n wd : Nat) (h : wd = 11 ∨ wd = 15) (h1 : 1 ≤ n) (h2 : n ≤ 23) : sizeF n wd = ((packLen (n * (wd + 1)) : Nat) : Int) := by
  rcases h with rfl | rfl
  · unfold sizeF
    rw [show okW ((11 : Nat) : Int) = true from rfl, decide_eq_true (show (1 : Int) ≤ n by omega), decide_eq_true (show (n : Int) ≤ 23 by omega)]
    simp only [Bool.and_self, if_true, packLen]
    omega
  · unfold sizeF
    rw [show okW ((15 : Nat) : Int) = true from rfl, decide_eq_true (show (1 : Int) ≤ n by omega), decide_eq_true (show (n : Int) ≤ 23 by omega)]
    simp only [Bool.and_self, if_true, packLen]
    omega
theorem length_tail {ls : List Nat} (wd : Nat) (h : wd = 11 ∨ wd = 15) (h1 : 1 ≤ ls.length) (h2 : ls.length ≤ 24) : ((tailF ls wd).length : Int) = sizeF ((ls.length : Int) - 1) wd := by
  unfold tailF
  split
  · have hl : (ls.take (ls.length - 1)).length = ls.length - 1 := by rw [List.length_take]; omega
    rw [length_pack, length_wbl, hl, ← sizeF_pack (ls.length - 1) wd h (by omega) (by omega)]
    congr 1
    omega
  · have : (ls.length : Int) - 1 = 0 := by omega
    rw [this]
    unfold sizeF
    simp
theorem lens_write {A : Option Addr} {l : List Nat} (wd n cap : Nat) (w : World) (h : wd = 11 ∨ wd = 15) (hn : l.length = n) (h0 : 1 ≤ n) (h23 : n ≤ 23) (hl : ∀ x ∈ l, 1 ≤ x ∧ x < 2048) (hs : Src w A (insN l)) :
    Calls Try.prog 202 #[.slice A n cap, .int .i64 wd] w fun e w' => ∃ g k, e = .returned (.tuple #[.slice (some ⟨g, 0, none⟩) k k, .int .i64 0]) ∧ k = (pack (wbl wd l)).length ∧ Row w' g 5 (bts (pack (wbl wd l))).toArray ∧ Below w.heap.size w w' := by
  rcases h with rfl | rfl
  · refine (write_ok_11 n cap w hn h0 h23 hl hs).mono ?_
    rintro e w' ⟨g, rfl, _, hr, hb⟩
    exact ⟨g, _, rfl, by rw [length_pack, length_wbl, hn], hr, hb⟩
  · refine (write_ok_15 n cap w hn h0 h23 (fun x hx => ⟨(hl x hx).1, Nat.lt_of_lt_of_le (hl x hx).2 (by decide)⟩) hs).mono ?_
    rintro e w' ⟨g, rfl, _, hr, hb⟩
    exact ⟨g, _, rfl, by rw [length_pack, length_wbl, hn], hr, hb⟩
theorem make_capZ (z : Int) (h0 : 0 ≤ z) (h : z ≤ 1000000) (w : World) :
    (Instr.makeSlice 38 (.int .i64 0) (.int .i64 z)).run Try.prog w = .ok (.slice (some ⟨w.heap.size, 0, none⟩) 0 z.toNat) (w.alloc (.cells (zeros z.toNat).toArray 5)) := by
  have h1 := make_cap z.toNat (by omega) w
  rw [Int.toNat_of_nonneg h0] at h1
  exact h1
theorem lens_take (L : List RowB) (k : Nat) : lens (L.take k) = (lens L).take k := by simp [lens]
theorem app_head {B : Nat} {W : World} {A0 : Option Addr} {lh : List Nat} (n0 c0 q : Nat) (hq : q ≤ 1000000) (hB : B ≤ W.heap.size) (hh : Src W A0 (bts lh)) (hn0 : lh.length = n0) (hn1 : n0 ≤ 1000000) :
    ∃ A' c' W', (Builtin.append_ #[38, 38] 38 #[.slice (some ⟨W.heap.size, 0, none⟩) 0 q, .slice A0 n0 c0]).run Try.prog (W.alloc (.cells (zeros q).toArray 5)) = .ok (.slice A' n0 c') W' ∧ OwnY B W' (.slice A' n0 c') lh ∧ Below B W W' := by
  obtain ⟨A', c', W', h1, h2, h3, _, _⟩ := app_bytes (B := B) (l := []) (y := lh) (A := A0) n0 c0 (own_cap q hq W B hB) (by simp; omega) (src_later hh (bl_alloc (Below.refl _ _) _)) hn0 (by simp; omega)
  simp only [List.length_nil, Nat.zero_add, List.nil_append] at h1 h2
  exact ⟨A', c', W', h1, h2, ((bl_alloc (Below.refl _ _) _).mono hB).trans h3⟩
set_option maxRecDepth 100000 in
set_option maxHeartbeats 1600000 in
theorem fwrite_any {A A0 : Option Addr} {L : List RowB} {lh : List Nat} (n cap n0 c0 wd : Nat) (w : World) (h : wd = 11 ∨ wd = 15) (hL : L.length = n) (hcap : n ≤ cap) (_hcm : cap ≤ 9223372036854775807) (h1 : 1 ≤ n) (h24 : n ≤ 24) (hok : okTo (lens L) (lens L).length = true) (hs : RSrc w A L) (hh : Src w A0 (bts lh)) (hn0 : lh.length = n0) (hn1 : n0 ≤ 10) :
    Calls Try.prog 161 #[.slice A0 n0 c0, .slice A n cap, .int .i64 wd] w fun e w' => ∃ v', e = .returned v' ∧ OwnY w.heap.size w' v' (lh ++ tailF (lens L) wd ++ flat L) ∧ Below w.heap.size w w' := by
  have hll : (lens L).length = n := by rw [length_lens, hL]
  have hsum := sumTo_bound hok (Nat.le_refl _)
  rw [sumTo_all, hll] at hsum
  have hm : ∀ m ∈ lens L, m ≤ 9223372036854775807 := by
    intro m hm
    obtain ⟨k, hk⟩ := List.getElem?_of_mem hm
    have := okTo_small hok hk
    omega
  have HSZ := Lib.hid (fsize_any n cap wd w hL (by omega) hs hm)
  have hz := szF_pos (ls := lens L) (wd := wd)
  have hzz : 0 ≤ szF (lens L) wd ∧ szF (lens L) wd ≤ 100000 := by rcases hz with hz | hz <;> omega
  obtain ⟨hz0, hz1⟩ := hzz
  clear hz
  generalize szF (lens L) wd = z at *
  have HM := make_capZ ((n0 : Int) + z) (by omega) (by omega)
  have ht46 : (tailF (lens L) wd).length ≤ 46 := by
    have h9 := length_tail wd h (ls := lens L) (by omega) (by omega)
    have h8 := sizeF_nonneg (((lens L).length : Int) - 1) wd
    omega
  have HA1 := Lib.hid (fun W (hb : Below w.heap.size w W) => app_head (B := w.heap.size) n0 c0 ((n0 : Int) + z).toNat (by omega) hb.size (src_later hh hb) hn0 (by omega))
  have HB := Lib.hid (fun W v l (hb : Below w.heap.size w W) (hv : OwnY w.heap.size W v l) (hl : l.length ≤ 1000) => behind_any (B := w.heap.size) (l := l) n cap W hL (by omega) (fun W' hb' => hs.later (hb.trans hb')) hv hb.size (by omega))
  obtain ⟨ad, rfl, _⟩ := hs (by omega)
  by_cases hn2 : n = 1
  · have HT := Lib.hid (show lh ++ tailF (lens L) wd = lh by unfold tailF; rw [if_neg (by omega)]; simp)
    have HN0 := Lib.hid hn0
    subst hn2
    clear hs hL hll hok hsum hm h hh hn0 ht46
    go_enter Try.func161, Try.ntmps161
    go_wp2_with (first
      | (go_at_call 179; refine HSZ.out.mono ?_; rintro e w1 ⟨rfl, hb1⟩; obtain ⟨A1, c1, W1, hr1, ho1, hbw1⟩ := HA1.out w1 hb1; (have HO1 := Lib.hid ho1; have HBW := Lib.hid (hb1.trans hbw1); clear ho1 hb1 hbw1))
      | (at_builtin; refine wpList_run rfl (.tmp 16) (.tmp 17) 38 rfl (.slice (some ⟨w1.heap.size, 0, none⟩) 0 ((n0 : Int) + z).toNat) (.slice A0 n0 c0) (by rfl) (by rfl) hr1 ?_)
      | (go_at_call 184; refine (HB.out W1 _ _ HBW.out HO1.out (by rw [HN0.out]; omega)).mono ?_; rintro e w4 ⟨v', rfl, h4, h5⟩; obtain ⟨A2, c2, hv2, _⟩ := h4.form; generalize (lh ++ flat L).length = n2 at hv2; subst hv2; (have H4 := Lib.hid h4; have H5 := Lib.hid h5; clear h4 h5)))
    go_ret
    exact ⟨_, rfl, by rw [HT.out]; exact H4.out, HBW.out.trans H5.out⟩
  · obtain ⟨m, rfl⟩ : ∃ m, n = m + 1 := ⟨n - 1, by omega⟩
    have htk : (lens L).take ((lens L).length - 1) = lens (L.take m) := by rw [lens_take, hll, Nat.add_sub_cancel]
    have hT : tailF (lens L) wd = pack (wbl wd (lens (L.take m))) := by unfold tailF; rw [if_pos (by omega), htk]
    have hlt : (L.take m).length = m := by rw [List.length_take]; omega
    have H74 := Lib.hid (fun W (hb : Below w.heap.size w W) => lengthsOf_any (A := some ad) (L := L.take m) m cap W hlt (by omega) ((hs.later hb).take m))
    have hlens := tail_lens hok
    rw [htk] at hlens
    have H73 := Lib.hid (fun W g (hr : Row W g 3 (insN (lens (L.take m))).toArray) => lens_write (A := some ⟨g, 0, none⟩) wd m m W h (by rw [length_lens, hlt]) (by omega) (by omega) hlens (row_src hr))
    have HAP := Lib.hid (fun W v g k c (hv : OwnY w.heap.size W v lh) (hB : w.heap.size ≤ W.heap.size) (hr : Row W g 5 (bts (pack (wbl wd (lens (L.take m))))).toArray) (hk : k = (pack (wbl wd (lens (L.take m)))).length) => app_bytes (A := some ⟨g, 0, none⟩) k c hv hB (row_src hr) hk.symm (by rw [hT] at ht46; omega))
    rw [hT] at ht46 ⊢
    have HTL := Lib.hid (show (lh ++ pack (wbl wd (lens (L.take m)))).length ≤ 1000 by rw [List.length_append]; omega)
    have HN0 := Lib.hid hn0
    have hm1 : (1 : Int) < ((m + 1 : Nat) : Int) := by omega
    have hm2 : m ≤ cap := by omega
    clear hs hL hll hok hsum hm h hh hn0 ht46 htk hT hlt hlens HM
    have HM := make_capZ ((n0 : Int) + z) (by omega) (by omega)
    generalize pack (wbl wd (lens (L.take m))) = tl at *
    go_enter Try.func161, Try.ntmps161
    go_wp2_with (first
      | (go_at_call 179; refine HSZ.out.mono ?_; rintro e w1 ⟨rfl, hb1⟩; obtain ⟨A1, c1, W1, hr1, ho1, hbw1⟩ := HA1.out w1 hb1; (have HO1 := Lib.hid ho1; have HBW := Lib.hid (hb1.trans hbw1); clear ho1 hb1 hbw1))
      | (at_builtin; refine wpList_run rfl (.tmp 16) (.tmp 17) 38 rfl (.slice (some ⟨w1.heap.size, 0, none⟩) 0 ((n0 : Int) + z).toNat) (.slice A0 n0 c0) (by rfl) (by rfl) hr1 ?_)
      | (go_at_call 203; refine (H74.out W1 HBW.out).mono ?_; rintro e w2 ⟨g, rfl, hr2, hb2⟩; (have HR2 := Lib.hid hr2; have HB2 := Lib.hid hb2; clear hr2 hb2))
      | (go_at_call 202; refine (H73.out w2 g HR2.out).mono ?_; rintro e w3 ⟨g3, k3, rfl, hk3, hr3, hb3⟩; obtain ⟨A5, c5, W5, hr5, ho5, hb5, _, _⟩ := HAP.out w3 (.slice A1 n0 c1) g3 k3 k3 ((HO1.out.later HB2.out).later hb3) (Nat.le_trans HBW.out.size (Nat.le_trans HB2.out.size hb3.size)) hr3 hk3; rw [HN0.out] at hr5 ho5; (have HO5 := Lib.hid ho5; have HB5 := Lib.hid (((HBW.out.trans (HB2.out.mono HBW.out.size)).trans (hb3.mono (Nat.le_trans HBW.out.size HB2.out.size))).trans hb5); clear hr3 hb3 ho5 hb5 hk3))
      | (at_builtin; refine wpList_run rfl (.tmp 33) (.tmp 34) 38 rfl (.slice A1 n0 c1) (.slice (some ⟨g3, 0, none⟩) k3 k3) (by rfl) (by rfl) hr5 ?_)
      | (go_at_call 184; refine (HB.out W5 _ _ HB5.out HO5.out HTL.out).mono ?_; rintro e w4 ⟨v', rfl, h4, h5⟩; obtain ⟨A2, c2, hv2, _⟩ := h4.form; generalize (lh ++ tl ++ flat L).length = n2 at hv2; subst hv2; (have H4 := Lib.hid h4; have H5 := Lib.hid h5; clear h4 h5)))
    go_ret
    exact ⟨_, rfl, H4.out, HB5.out.trans H5.out⟩
end Go.Proofs.Ytjonkpdjhjobfaa
namespace Go.Proofs.Ytjonkpdjhjobfaa
open Go.RowKit


def umdF (fi sn : Int) (ls : List Nat) (wd : Int) : Int := if (wd = 5 ∨ wd = 10) ∧ 0 ≤ fi ∧ fi ≤ 3 ∧ okn wd sn = true then fieldsF ls (wd / 5) 11 else 0
theorem fieldsF_big (ls : List Nat) (head wd : Int) : fieldsF ls head wd ≤ 4000 := by
  unfold fieldsF
  split
  · rename_i h; exact h.2.2.2
  · omega
theorem umdF_big (fi sn : Int) (ls : List Nat) (wd : Int) : umdF fi sn ls wd ≤ 4000 := by
  unfold umdF
  split
  · exact fieldsF_big _ _ _
  · omega
theorem fieldsF_nonneg (ls : List Nat) (head wd : Int) (h : 0 ≤ head) : 0 ≤ fieldsF ls head wd := by
  unfold fieldsF
  have := sizeF_nonneg ((ls.length : Int) - 1) wd
  split <;> omega
theorem umdF_nonneg (fi sn : Int) (ls : List Nat) (wd : Int) : 0 ≤ umdF fi sn ls wd := by
  unfold umdF
  split
  · exact fieldsF_nonneg _ _ _ (by omega)
  · omega
theorem umdF_pos {fi sn : Int} {ls : List Nat} {wd : Int} (h : umdF fi sn ls wd ≠ 0) : (wd = 5 ∨ wd = 10) ∧ 0 ≤ fi ∧ fi ≤ 3 ∧ okn wd sn = true ∧ 1 ≤ ls.length ∧ ls.length ≤ 24 ∧ okTo ls ls.length = true ∧ umdF fi sn ls wd = wd / 5 + sizeF ((ls.length : Int) - 1) 11 + ls.sum := by
  unfold umdF at h ⊢
  split at h
  · rename_i h1
    rw [if_pos h1]
    unfold fieldsF at h ⊢
    split at h
    · rename_i h2
      rw [if_pos h2]
      exact ⟨h1.1, h1.2.1, h1.2.2.1, h1.2.2.2, h2.1, h2.2.1, h2.2.2.1, rfl⟩
    · exact absurd rfl h
  · exact absurd rfl h

/-- a head's bytes, and the noughts that it begins with -/
def headN (wd : Int) : Int × Int := if wd = 5 then (1, 0) else if wd = 10 then (2, 3) else (0, 0)
theorem shape_any (wd : Int) (w : World) : Calls Try.prog 156 #[.int .i64 wd] w fun e w' => e = .returned (.tuple #[.int .i64 (headN wd).1, .int .i64 (headN wd).2]) ∧ w = w' := by
  by_cases h5 : wd = 5
  · subst h5
    go_enter Try.func156, Try.ntmps156
    go_wp2
    go_ret2
    exact ⟨rfl, rfl⟩
  · by_cases h10 : wd = 10
    · subst h10
      go_enter Try.func156, Try.ntmps156
      go_wp2
      go_ret2
      exact ⟨rfl, rfl⟩
    · have h1 : (wd == 5) = false := by simpa using h5
      have h2 : (wd == 10) = false := by simpa using h10
      have HH := Lib.hid (show headN wd = (0, 0) by unfold headN; rw [if_neg h5, if_neg h10])
      clear h5 h10
      go_enter Try.func156, Try.ntmps156
      go_wp2
      go_ret2
      exact ⟨by rw [HH.out]; rfl, rfl⟩

set_option maxRecDepth 100000 in
set_option maxHeartbeats 3200000 in
theorem usize_any {A : Option Addr} {L : List RowB} (fi sn wd : Int) (n cap : Nat) (w : World) (hL : L.length = n) (hn : n ≤ 9223372036854775807) (hs : RSrc w A L) (hm : ∀ m ∈ lens L, m ≤ 9223372036854775807) :
    Calls Try.prog 155 #[.agg #[.int .i64 fi, .int .i64 sn, .slice A n cap], .int .i64 wd] w fun e w' => e = .returned (.int .i64 (umdF fi sn (lens L) wd)) ∧ Below w.heap.size w w' := by
  have HSH := Lib.hid (fun W => shape_any wd W)
  have HZ := Lib.hid (fun W (hb : Below w.heap.size w W) => fsize_any n cap 11 W hL hn (hs.later hb) hm)
  have hz : 0 ≤ szF (lens L) 11 ∧ szF (lens L) 11 ≤ 100000 := by
    rcases szF_pos (ls := lens L) (wd := 11) with h | h <;> omega
  have HI := Lib.hid (fun W => sqis_any wd sn W)
  have hF : umdF fi sn (lens L) wd = if (wd = 5 ∨ wd = 10) ∧ 0 ≤ fi ∧ fi ≤ 3 ∧ okn wd sn = true then (if szF (lens L) 11 = 0 ∨ 4000 < wd / 5 + szF (lens L) 11 then 0 else wd / 5 + szF (lens L) 11) else 0 := by
    unfold umdF
    rw [fieldsF_code]
  generalize szF (lens L) 11 = z at *
  generalize umdF fi sn (lens L) wd = F at *
  obtain ⟨hz0, hz1⟩ := hz
  clear hs hm hL
  by_cases hw : wd = 5 ∨ wd = 10
  · have hd : (headN wd).1 = wd / 5 ∧ 1 ≤ wd / 5 ∧ wd / 5 ≤ 2 := by rcases hw with rfl | rfl <;> decide
    obtain ⟨hd1, hd2, hd3⟩ := hd
    rw [hd1] at HSH
    generalize (headN wd).2 = nz at *
    have hF2 : F = if 0 ≤ fi ∧ fi ≤ 3 ∧ okn wd sn = true then (if z = 0 ∨ 4000 < wd / 5 + z then 0 else wd / 5 + z) else 0 := by
      rw [hF]
      by_cases h : 0 ≤ fi ∧ fi ≤ 3 ∧ okn wd sn = true
      · rw [if_pos ⟨hw, h⟩, if_pos h]
      · rw [if_neg (fun h2 => h h2.2), if_neg h]
    clear hF hw hd1
    generalize wd / 5 = hd at *
    have h0 : (hd == 0) = false := by simp; omega
    rcases Decidable.em (z = 0) with hz2 | hz2
    · have HF := Lib.hid (show F = 0 by rw [hF2]; split <;> simp [hz2])
      subst hz2
      clear hF2
      go_enter Try.func155, Try.ntmps155
      go_wp2_with (first
        | (go_at_call 156; refine (HSH.out _).mono ?_; rintro e w1 ⟨rfl, rfl⟩)
        | (go_at_call 179; refine (HZ.out _ (bl_alloc (Below.refl _ _) _)).mono ?_; rintro e w2 ⟨rfl, hb2⟩; obtain ⟨hc, hf⟩ := bcell hb2; (have HB := Lib.hid ((bl_alloc (Below.refl w.heap.size w) _).trans (hb2.mono (by simp))); clear hb2)))
      go_ret
      exact ⟨ret_int (by rw [HF.out]), HB.out⟩
    · have hz3 : (z == 0) = false := by simpa using hz2
      rcases Decidable.em (4000 < hd + z) with hz4 | hz4
      · have HF := Lib.hid (show F = 0 by rw [hF2]; split <;> simp [hz4])
        clear hF2 hz2
        go_enter Try.func155, Try.ntmps155
        go_wp2_with (first
          | (go_at_call 156; refine (HSH.out _).mono ?_; rintro e w1 ⟨rfl, rfl⟩)
          | (go_at_call 179; refine (HZ.out _ (bl_alloc (Below.refl _ _) _)).mono ?_; rintro e w2 ⟨rfl, hb2⟩; obtain ⟨hc, hf⟩ := bcell hb2; (have HB := Lib.hid ((bl_alloc (Below.refl w.heap.size w) _).trans (hb2.mono (by simp))); clear hb2)))
        go_ret
        exact ⟨ret_int (by rw [HF.out]), HB.out⟩
      · have hF3 : F = if 0 ≤ fi ∧ fi ≤ 3 ∧ okn wd sn = true then hd + z else 0 := by
          rw [hF2, if_neg (show ¬ (z = 0 ∨ 4000 < hd + z) by omega)]
        clear hF2 hz2
        rcases Decidable.em (fi < 0) with hfi | hfi
        · have HF := Lib.hid (show F = 0 by rw [hF3, if_neg (by omega)])
          clear hF3
          go_enter Try.func155, Try.ntmps155
          go_wp2_with (first
            | (go_at_call 156; refine (HSH.out _).mono ?_; rintro e w1 ⟨rfl, rfl⟩)
            | (go_at_call 179; refine (HZ.out _ (bl_alloc (Below.refl _ _) _)).mono ?_; rintro e w2 ⟨rfl, hb2⟩; obtain ⟨hc, hf⟩ := bcell hb2; (have HB := Lib.hid ((bl_alloc (Below.refl w.heap.size w) _).trans (hb2.mono (by simp))); clear hb2)))
          go_ret
          exact ⟨ret_int (by rw [HF.out]), HB.out⟩
        · rcases Decidable.em (3 < fi) with hfi2 | hfi2
          · have HF := Lib.hid (show F = 0 by rw [hF3, if_neg (by omega)])
            clear hF3
            go_enter Try.func155, Try.ntmps155
            go_wp2_with (first
              | (go_at_call 156; refine (HSH.out _).mono ?_; rintro e w1 ⟨rfl, rfl⟩)
              | (go_at_call 179; refine (HZ.out _ (bl_alloc (Below.refl _ _) _)).mono ?_; rintro e w2 ⟨rfl, hb2⟩; obtain ⟨hc, hf⟩ := bcell hb2; (have HB := Lib.hid ((bl_alloc (Below.refl w.heap.size w) _).trans (hb2.mono (by simp))); clear hb2)))
            go_ret
            exact ⟨ret_int (by rw [HF.out]), HB.out⟩
          · cases hi : okn wd sn
            · have HF := Lib.hid (show F = 0 by rw [hF3, if_neg (by rw [hi]; simp)])
              rw [hi] at HI
              clear hF3 hi
              go_enter Try.func155, Try.ntmps155
              go_wp2_with (first
                | (go_at_call 156; refine (HSH.out _).mono ?_; rintro e w1 ⟨rfl, rfl⟩)
                | (go_at_call 179; refine (HZ.out _ (bl_alloc (Below.refl _ _) _)).mono ?_; rintro e w2 ⟨rfl, hb2⟩; obtain ⟨hc, hf⟩ := bcell hb2; (have HB := Lib.hid ((bl_alloc (Below.refl w.heap.size w) _).trans (hb2.mono (by simp))); clear hb2))
                | (go_at_call 180; refine (HI.out _).mono ?_; rintro e w3 ⟨rfl, hb3⟩))
              go_ret
              exact ⟨ret_int (by rw [HF.out]), HB.out.trans (hb3.mono HB.out.size)⟩
            · have HF := Lib.hid (show F = hd + z by rw [hF3, if_pos ⟨by omega, by omega, hi⟩])
              rw [hi] at HI
              clear hF3 hi
              go_enter Try.func155, Try.ntmps155
              go_wp2_with (first
                | (go_at_call 156; refine (HSH.out _).mono ?_; rintro e w1 ⟨rfl, rfl⟩)
                | (go_at_call 179; refine (HZ.out _ (bl_alloc (Below.refl _ _) _)).mono ?_; rintro e w2 ⟨rfl, hb2⟩; obtain ⟨hc, hf⟩ := bcell hb2; (have HB := Lib.hid ((bl_alloc (Below.refl w.heap.size w) _).trans (hb2.mono (by simp))); clear hb2))
                | (go_at_call 180; refine (HI.out _).mono ?_; rintro e w3 ⟨rfl, hb3⟩))
              go_ret
              exact ⟨ret_int (by rw [HF.out]), HB.out.trans (hb3.mono HB.out.size)⟩
  · have HF := Lib.hid (show F = 0 by rw [hF, if_neg (fun h => hw h.1)])
    have hh : headN wd = (0, 0) := by unfold headN; rw [if_neg (fun h => hw (.inl h)), if_neg (fun h => hw (.inr h))]
    rw [hh] at HSH
    clear hF hw hh
    go_enter Try.func155, Try.ntmps155
    go_wp2_with (first
      | (go_at_call 156; refine (HSH.out _).mono ?_; rintro e w1 ⟨rfl, rfl⟩)
      | (go_at_call 179; refine (HZ.out _ (bl_alloc (Below.refl _ _) _)).mono ?_; rintro e w2 ⟨rfl, hb2⟩; obtain ⟨hc, hf⟩ := bcell hb2; (have HB := Lib.hid ((bl_alloc (Below.refl w.heap.size w) _).trans (hb2.mono (by simp))); clear hb2)))
    go_ret
    exact ⟨ret_int (by rw [HF.out]), HB.out⟩
set_option maxRecDepth 100000 in
set_option maxHeartbeats 800000 in
theorem uright_any {A : Option Addr} {L : List RowB} (fi sn wd : Int) (n cap : Nat) (w : World) (hL : L.length = n) (hn : n ≤ 9223372036854775807) (hs : RSrc w A L) (hm : ∀ m ∈ lens L, m ≤ 9223372036854775807) :
    Calls Try.prog 157 #[.agg #[.int .i64 fi, .int .i64 sn, .slice A n cap], .int .i64 wd] w fun e w' => e = .returned (.bool (decide (0 < umdF fi sn (lens L) wd))) ∧ Below w.heap.size w w' := by
  have HZ := Lib.hid (fun W (hb : Below w.heap.size w W) => usize_any (A := A) fi sn wd n cap W hL hn (hs.later hb) hm)
  generalize umdF fi sn (lens L) wd = F at *
  clear hs hm hL
  go_enter Try.func157, Try.ntmps157
  go_wp2_with (go_at_call 155; refine (HZ.out _ (bl_alloc (Below.refl _ _) _)).mono ?_; rintro e w2 ⟨rfl, hb2⟩)
  go_ret
  exact ⟨rfl, (bl_alloc (Below.refl w.heap.size w) _).trans (hb2.mono (by simp))⟩
end Go.Proofs.Ytjonkpdjhjobfaa
namespace Go.Proofs.Ytjonkpdjhjobfaa
open Go.RowKit


theorem okn_true {b n : Int} (h : okn b n = true) : 0 ≤ n ∧ n < sz b := of_decide_eq_true h
theorem fwrite_at {A A0 : Option Addr} {L : List RowB} {lh : List Nat} (n cap n0 c0 wd : Nat) (wi : Int) (w : World) (e : wi = wd) (h : wd = 11 ∨ wd = 15) (hL : L.length = n) (hcap : n ≤ cap) (hcm : cap ≤ 9223372036854775807) (h1 : 1 ≤ n) (h24 : n ≤ 24) (hok : okTo (lens L) (lens L).length = true) (hs : RSrc w A L) (hh : Src w A0 (bts lh)) (hn0 : lh.length = n0) (hn1 : n0 ≤ 10) :
    Calls Try.prog 161 #[.slice A0 n0 c0, .slice A n cap, .int .i64 wi] w fun e w' => ∃ v', e = .returned v' ∧ OwnY w.heap.size w' v' (lh ++ tailF (lens L) wd ++ flat L) ∧ Below w.heap.size w w' := by
  subst e
  exact fwrite_any n cap n0 c0 wd w h hL hcap hcm h1 h24 hok hs hh hn0 hn1
theorem Row.under {w v : World} {B g : Nat} {t : TypeId} {cs : Array Value} (h : Row w g t cs) (hb : Below B w v) (hg : g < B) : Row v g t cs := (hb.block g hg).trans h
theorem put_step {B p : Nat} {bl : List Bool} {w : World} (v n : Nat) (vi ni : Int) (h : ∃ sv, WRep B w p sv bl) (e1 : vi = v) (e2 : ni = n) (hn : n ≤ 64) (hv : v < 2 ^ n) (hv2 : v < 18446744073709551616) (hl : bl.length + n ≤ 65536) :
    Calls Try.prog 159 #[.pointer (some ⟨p, 0, none⟩), .int .u64 vi, .int .i64 ni] w fun e w' => e = .returned (.int .i64 0) ∧ (∃ sv, WRep B w' p sv (bl ++ unval v n)) ∧ Below B w w' := by
  subst e1 e2
  obtain ⟨sv, h⟩ := h
  refine (put_any v n w h hn hv hl hv2).mono ?_
  rintro e w' ⟨rfl, sv', h1, _, h3⟩
  exact ⟨rfl, ⟨sv', h1⟩, wrote_below h h3⟩
set_option maxHeartbeats 400000 in
theorem ufollows_any (b : Bool) (w : World) : Calls Try.prog 160 #[.bool b] w fun e w' => e = .returned (.int .u64 b.toNat) ∧ w = w' := by
  cases b
  · go_enter Try.func160, Try.ntmps160
    go_wp2
    go_ret
    exact ⟨rfl, rfl⟩
  · go_enter Try.func160, Try.ntmps160
    go_wp2
    go_ret
    exact ⟨rfl, rfl⟩
/-- a head's bits -/
def headB (fi sn : Nat) (more : Bool) (wd : Nat) : List Bool := ((unval 0 (if wd = 10 then 3 else 0) ++ unval fi 2) ++ unval more.toNat 1) ++ unval sn wd
def umdBytes (fi sn : Nat) (L : List RowB) (wd : Nat) : List Nat := pack (headB fi sn (decide (1 < L.length)) wd) ++ tailF (lens L) 11 ++ flat L
theorem length_headB (fi sn : Nat) (more : Bool) (wd : Nat) : (headB fi sn more wd).length = (if wd = 10 then 3 else 0) + 3 + wd := by
  unfold headB
  rw [List.length_append, List.length_append, List.length_append, length_unval, length_unval, length_unval, length_unval]

set_option maxRecDepth 100000 in
set_option maxHeartbeats 3200000 in
theorem uwrite_ok {A : Option Addr} {L : List RowB} (fi sn wd n cap : Nat) (w : World) (hL : L.length = n) (hcap : n ≤ cap) (hcm : cap ≤ 9223372036854775807) (hs : RSrc w A L) (hm : ∀ m ∈ lens L, m ≤ 9223372036854775807) (h : umdF fi sn (lens L) wd ≠ 0) :
    Calls Try.prog 86 #[.agg #[.int .i64 fi, .int .i64 sn, .slice A n cap], .int .i64 wd] w fun e w' => ∃ v', e = .returned (.tuple #[v', .int .i64 0]) ∧ OwnY w.heap.size w' v' (umdBytes fi sn L wd) ∧ Below w.heap.size w w' := by
  obtain ⟨hw, _, hfi, hsn, hl1, hl2, hok, _⟩ := umdF_pos h
  rw [length_lens, hL] at hl1 hl2
  have hsz : (sn : Int) < 2 ^ wd := by
    have h1 := (okn_true hsn).2
    unfold sz at h1
    rcases hw with h9 | h9
    · obtain rfl : wd = 5 := by omega
      exact h1
    · obtain rfl : wd = 10 := by omega
      exact h1
  have hsn2 : sn < 2 ^ wd := by
    have e : ((2 ^ wd : Nat) : Int) = (2 : Int) ^ wd := by rw [Int.natCast_pow]; rfl
    omega
  have hwd : wd = 5 ∨ wd = 10 := by omega
  have hsn3 : sn < 1024 := by rcases hwd with rfl | rfl <;> omega
  have HSH := Lib.hid (fun W => shape_any wd W)
  have hnz : (headN wd).2 = ((if wd = 10 then 3 else 0 : Nat) : Int) := by rcases hwd with rfl | rfl <;> rfl
  have hhd : 1 ≤ (headN wd).1 := by rcases hwd with rfl | rfl <;> decide
  have h0 : ((headN wd).1 == 0) = false := by simp; omega
  have HR := Lib.hid (fun W (hb : Below w.heap.size w W) => (show Calls Try.prog 157 #[.agg #[.int .i64 fi, .int .i64 sn, .slice A n cap], .int .i64 wd] W fun e w' => e = .returned (.bool true) ∧ Below W.heap.size W w' from by
    have h1 := uright_any (A := A) fi sn wd n cap W hL (by omega) (hs.later hb) hm
    rw [decide_eq_true (show 0 < umdF fi sn (lens L) wd by have := umdF_nonneg fi sn (lens L) wd; omega)] at h1
    exact h1))
  have HNEW := Lib.hid (fun W (hB : w.heap.size + 1 ≤ W.heap.size) => new_any (w.heap.size + 1) W hB)
  generalize hnzz : (if wd = 10 then 3 else 0 : Nat) = nz at *
  have hnz3 : nz ≤ 3 := by rw [← hnzz]; split <;> omega
  have hlen := length_headB fi sn (decide (1 < L.length)) wd
  rw [hnzz] at hlen
  have hpl : packLen (headB fi sn (decide (1 < L.length)) wd).length ≤ 10 := by rw [hlen]; unfold packLen; omega
  have HHB := Lib.hid (show ((unval 0 nz ++ unval fi 2) ++ unval (decide (1 < L.length)).toNat 1) ++ unval sn wd = headB fi sn (decide (1 < L.length)) wd by unfold headB; rw [hnzz])
  have HFW := Lib.hid (fun W A0 n0 c0 (hb : Below w.heap.size w W) hh hn0 => fwrite_at (A := A) (A0 := A0) (lh := pack (headB fi sn (decide (1 < L.length)) wd)) n cap n0 c0 11 11 W rfl (.inl rfl) hL hcap hcm hl1 hl2 hok (hs.later hb) hh hn0 (by rw [← hn0, length_pack]; exact hpl))
  have HP1 := Lib.hid (fun W p (hr : ∃ sv, WRep (w.heap.size + 1) W p sv []) => put_step (bl := []) 0 nz 0 nz hr rfl rfl (by omega) (Nat.two_pow_pos _) (by omega) (by simp; omega))
  have HP2 := Lib.hid (fun W p (hr : ∃ sv, WRep (w.heap.size + 1) W p sv ([] ++ unval 0 nz)) => put_step (bl := [] ++ unval 0 nz) fi 2 fi 2 hr rfl rfl (by omega) (by omega) (by omega) (by simp [length_unval]; omega))
  have HP3 := Lib.hid (fun W p (hr : ∃ sv, WRep (w.heap.size + 1) W p sv (([] ++ unval 0 nz) ++ unval fi 2)) => put_step (bl := ([] ++ unval 0 nz) ++ unval fi 2) (decide (1 < L.length)).toNat 1 (decide (1 < L.length)).toNat 1 hr rfl rfl (by omega) (by cases decide (1 < L.length) <;> decide) (by cases decide (1 < L.length) <;> decide) (by simp [length_unval]; omega))
  have HP4 := Lib.hid (fun W p (hr : ∃ sv, WRep (w.heap.size + 1) W p sv ((([] ++ unval 0 nz) ++ unval fi 2) ++ unval (decide (1 < L.length)).toNat 1)) => put_step (bl := (([] ++ unval 0 nz) ++ unval fi 2) ++ unval (decide (1 < L.length)).toNat 1) sn wd sn wd hr rfl rfl (by omega) hsn2 (by omega) (by simp [length_unval]; omega))
  have HMORE := Lib.hid (show decide ((1 : Int) < (n : Int)) = decide (1 < L.length) by apply decide_eq_decide.2; omega)
  have HBY := Lib.hid (fun W p (hr : ∃ sv, WRep (w.heap.size + 1) W p sv (headB fi sn (decide (1 < L.length)) wd)) => by
    obtain ⟨sv, hr⟩ := hr
    exact bytes_any hr (by rw [hlen]; omega))
  have hfw : IntKind.u64.wrap (fi : Int) = (fi : Int) := by rw [IntKind.wrap_u64]; omega
  have hsw : IntKind.u64.wrap (sn : Int) = (sn : Int) := by rw [IntKind.wrap_u64]; omega
  have HU := Lib.hid (show umdBytes fi sn L wd = pack (headB fi sn (decide (1 < L.length)) wd) ++ tailF (lens L) 11 ++ flat L from rfl)
  rw [hnz] at HSH
  generalize (headN wd).1 = hd at *
  generalize decide (1 < L.length) = more at *
  generalize hHB : headB fi sn more wd = bits at *
  generalize umdBytes fi sn L wd = out at *
  clear h hw hok hs hm hL hlen hnz hnzz hwd hsn hsz hsn2 hHB
  go_enter Try.func86, Try.ntmps86
  go_wp2_with (first
    | (go_at_call 156; refine (HSH.out _).mono ?_; rintro e w1 ⟨rfl, rfl⟩)
    | (go_at_call 157; refine (HR.out _ (bl_alloc (Below.refl _ _) _)).mono ?_; rintro e w2 ⟨rfl, hb2⟩; (have HROW := Lib.hid ((Row.made w 146 #[.int .i64 fi, .int .i64 sn, .slice A n cap]).later hb2); have HB2 := Lib.hid ((bl_alloc (Below.refl w.heap.size w) _).trans (hb2.mono (by simp))); have HZ2 := Lib.hid (show w.heap.size + 1 ≤ w2.heap.size by have := hb2.size; simp at this; omega); clear hb2))
    | (go_at_call 158; refine (HNEW.out w2 HZ2.out).mono ?_; rintro e w3 ⟨rfl, hr3, hb3⟩; (have HROW3 := Lib.hid (HROW.out.later hb3); have HR3 := Lib.hid (show ∃ sv, WRep (w.heap.size + 1) w3 w2.heap.size sv [] from ⟨_, hr3⟩); have HB3 := Lib.hid (HB2.out.trans (hb3.mono HB2.out.size)); clear hr3 hb3))
    | (go_at_call 159; (with_reducible refine (HP1.out w3 _ HR3.out).mono ?_); rintro e w4 ⟨rfl, hr4, hb4⟩; (have HROW4 := Lib.hid (HROW3.out.under hb4 (by omega)); have c4 := HROW4.out.read (i := 0) rfl; have HR4 := Lib.hid hr4; have HB4 := Lib.hid (HB3.out.trans (hb4.mono (by omega))); clear hr4 hb4))
    | (go_at_call 159; (with_reducible refine (HP2.out w4 _ HR4.out).mono ?_); rintro e w5 ⟨rfl, hr5, hb5⟩; (have HROW5 := Lib.hid (HROW4.out.under hb5 (by omega)); have c5 := HROW5.out.read (i := 2) rfl; have HR5 := Lib.hid hr5; have HB5 := Lib.hid (HB4.out.trans (hb5.mono (by omega))); clear hr5 hb5))
    | (go_at_call 160; (with_reducible refine (ufollows_any _ _).mono ?_); rintro e w6 ⟨rfl, rfl⟩; rw [HMORE.out])
    | (go_at_call 159; (with_reducible refine (HP3.out w5 _ HR5.out).mono ?_); rintro e w7 ⟨rfl, hr7, hb7⟩; (have HROW7 := Lib.hid (HROW5.out.under hb7 (by omega)); have c7 := HROW7.out.read (i := 1) rfl; have HR7 := Lib.hid hr7; have HB7 := Lib.hid (HB5.out.trans (hb7.mono (by omega))); clear hr7 hb7))
    | (go_at_call 159; (with_reducible refine (HP4.out w7 _ HR7.out).mono ?_); rintro e w8 ⟨rfl, hr8, hb8⟩; (have HROW8 := Lib.hid (HROW7.out.under hb8 (by omega)); have c8 := HROW8.out.read (i := 2) rfl; have HR8 := Lib.hid hr8; have HB8 := Lib.hid (HB7.out.trans (hb8.mono (by omega))); clear hr8 hb8)))
  have d8 : w8.drew.cell? ⟨w.heap.size, 2, none⟩ = some (.slice A n cap) := c8
  have HBY8 := Lib.hid (HBY.out w8.drew _ (by rw [← HHB.out]; obtain ⟨sv, h9⟩ := HR8.out; exact ⟨sv, h9.later (bl_drew (Below.refl _ _))⟩))
  have hpk := length_pack bits
  generalize packLen bits.length = k8 at *
  have HPK := Lib.hid hpk
  clear hpk
  go_region_held3 (fun w' => w'.cell? ⟨w.heap.size, 2, none⟩ = some (.slice A n cap)) (first | assumption | go_keep) (first
    | (go_at_call 162; (with_reducible refine HBY8.out.mono ?_); rintro e v1 ⟨g1, rfl, hg1, hr1, hv1⟩; have HW1 := Lib.hid (HB8.out.trans ((bl_step (bl_drew (Below.refl w8.heap.size w8)) hv1).mono HB8.out.size)); have HR1 := Lib.hid hr1; have k1 : v1.cell? ⟨w.heap.size, 2, none⟩ = some (.slice A n cap) := kept_box hv1 d8)
    | (go_at_call 161; (with_reducible refine (HFW.out _ _ _ _ HW1.out (row_src HR1.out) HPK.out).mono ?_); rintro e v2 ⟨x2, rfl, ho2, hv2⟩; obtain ⟨A2, c2, hx2, _⟩ := ho2.form; generalize (pack bits ++ tailF (lens L) 11 ++ flat L).length = n2 at hx2; subst hx2; have k2 : v2.cell? ⟨w.heap.size, 2, none⟩ = some (.slice A n cap) := kept_box hv2 k1; (have HO2 := Lib.hid ho2; have HW2 := Lib.hid (HW1.out.trans (hv2.mono HW1.out.size)))))
  go_wp2
  go_ret2
  exact ⟨_, rfl, by rw [HU.out]; exact HO2.out.down HW1.out.size, HW2.out⟩
end Go.Proofs.Ytjonkpdjhjobfaa
namespace Go.Proofs.Ytjonkpdjhjobfaa
open Go.RowKit


theorem OwnR.down {B B' : Nat} {w : World} {v : Value} {L : List RowB} (h : OwnR B w v L) (hb : B' ≤ B) : OwnR B' w v L := ⟨own_down h.own hb, fun r hr => (h.mine r hr).down hb⟩
theorem results_two {fn : Func} {p u : Tmp} {ty : TypeId} (h : fn.results = #[.cell p ty, .tmp u]) (tmps : Array Value) (w : World) (g : Nat) (t : TypeId) (cs : Array Value) (fs : Array Field)
    (hp : tmps.getD p undef = .pointer (some ⟨g, 0, none⟩)) (hg : Row w g t cs)
    (hu : Try.prog.underlying ty = some (.struct fs)) (hi : (Try.prog.info? ty).map (·.size) = some cs.size) :
    (results fn tmps).run Try.prog w = .ok (.tuple #[.agg cs, tmps.getD u undef]) w := by
  rw [results_cell_tmp h, hp]
  simp only [asAddr, Sem.run_pure, Result.andThen_ok, run_loadVar_row w g t ty cs (0, 0) (.struct fs) hg hu rfl hi]

end Go.Proofs.Ytjonkpdjhjobfaa
