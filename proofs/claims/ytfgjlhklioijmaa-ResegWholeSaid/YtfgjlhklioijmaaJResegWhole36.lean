/-
  ResegWhole: the walk. A law's row follows from its walk: the call returns true, and below the heap's old size the world is as it was; then every argument reads as it did.
-/
import Derived.Test.YtfgjlhklioijmaaJResegWhole33
import Derived.Test.YtfgjlhklioijmaaJResegWhole35
import Derived.StillTailTactics
import Derived.Deep.RegionHeld3
import Derived.Test.YtfgjlhklioijmaaRows
import Derived.WalkKit
import Derived.ProofKit
import Derived.OpenShut
namespace Go.Proofs.Ytfgjlhklioijmaa
open Go.RowKit

theorem pk_reads {w : World} {g : Nat} {poll last : Bool} {f : Nat} {sn off : Int} {A : Option Addr} {n cap : Nat} (h : Row w g 24 #[.bool poll, .int .i64 (f : Int), .int .i64 sn, .bool false, .bool last, .int .i64 off, .slice A n cap]) : w.cell? ⟨g, 0, none⟩ = some (.bool poll) ∧ w.cell? ⟨g, 1, none⟩ = some (.int .i64 (f : Int)) ∧ w.cell? ⟨g, 2, none⟩ = some (.int .i64 sn) ∧ w.cell? ⟨g, 3, none⟩ = some (.bool false) ∧ w.cell? ⟨g, 4, none⟩ = some (.bool last) ∧ w.cell? ⟨g, 5, none⟩ = some (.int .i64 off) ∧ w.cell? ⟨g, 6, none⟩ = some (.slice A n cap) := cells_pk h
theorem src_cell2 {W w : World} {A : Option Addr} {xs : List Value} {j : Nat} {u : Value} (h : Src W A xs) (hb : Below W.heap.size W w) (hj : xs[j]? = some u) : ∃ ad, A = some ad ∧ w.cell? (ad.add j) = some u := by
  obtain ⟨ad, rfl, hc⟩ := h (by have := (List.getElem?_eq_some_iff.1 hj).1; omega)
  exact ⟨ad, rfl, cell_below hb (hc j u hj)⟩
theorem pk8 {w : World} {g : Nat} {poll last : Bool} {f : Nat} {sn off : Int} {A : Option Addr} {n cap : Nat} {ad : Addr} {u : Value} (h : Row w g 24 #[.bool poll, .int .i64 (f : Int), .int .i64 sn, .bool false, .bool last, .int .i64 off, .slice A n cap]) (hz : w.cell? ad = some u) : w.cell? ⟨g, 0, none⟩ = some (.bool poll) ∧ w.cell? ⟨g, 1, none⟩ = some (.int .i64 (f : Int)) ∧ w.cell? ⟨g, 2, none⟩ = some (.int .i64 sn) ∧ w.cell? ⟨g, 3, none⟩ = some (.bool false) ∧ w.cell? ⟨g, 4, none⟩ = some (.bool last) ∧ w.cell? ⟨g, 5, none⟩ = some (.int .i64 off) ∧ w.cell? ⟨g, 6, none⟩ = some (.slice A n cap) ∧ w.cell? ad = some u :=
  have k := pk_reads h
  ⟨k.1, k.2.1, k.2.2.1, k.2.2.2.1, k.2.2.2.2.1, k.2.2.2.2.2.1, k.2.2.2.2.2.2, hz⟩
theorem kept_at {w v : World} {a : Addr} {u : Value} (hb : Below w.heap.size w v) (h : w.cell? a = some u) : v.cell? a = some u := cell_below hb h
theorem size_of {wr Wx w10 : World} {v : Value} {M : List RowB} (_ : OwnR Wx.heap.size w10 v M) (hb : Below wr.heap.size wr Wx) : wr.heap.size ≤ Wx.heap.size := hb.size
theorem flat_bytes {w : World} {A : Option Addr} {L : List RowB} (hs : RSrc w A L) : ∀ x ∈ flat L, x < 256 := by
  intro x hx
  unfold flat at hx
  rw [List.mem_flatten] at hx
  obtain ⟨t, ht, hx⟩ := hx
  obtain ⟨r, hr, rfl⟩ := List.mem_map.1 ht
  obtain ⟨k, hk⟩ := List.getElem?_of_mem hr
  obtain ⟨ad, _, h⟩ := hs (by have := (List.getElem?_eq_some_iff.1 hk).1; omega)
  exact (h k r hk).2.2.2.2 x hx
/-- rows that are newer than a glue stay -/
theorem OwnR.keep_src {W w4 wr wy w' : World} {p1 p2 : Nat} {h1 h4 hv : Value} {s1 s : GS} {gv : Value} {G M : List RowB} {A : Option Addr} {n c : Nat} (h : OwnR wr.heap.size wy (.slice A n c) M) (hf : FedG W w4 p1 p2 h1 h4 hv s1 s gv G wr) (ho : Only (GS1 p2 hv) wy w') : RSrc w' A M :=
  (h.old ho (fun k hk => hf.two.g2.block_lt k hk)).src
theorem texts_app (L M : List RowB) : texts (L ++ M) = texts L ++ texts M := by simp [texts]
theorem leastR_bd (wd : Int) : 0 ≤ leastR wd ∧ leastR wd ≤ 100 := by
  unfold leastR headA
  repeat' split
  all_goals omega
set_option maxRecDepth 100000 in
set_option maxHeartbeats 12800000 in
theorem rwhole_some {A A1 A3 : Option Addr} {L : List RowB} {l1 la : List Nat} (poll last : Bool) (f : Nat) (sn off wd : Int) (n cap n1 c1 m c3 : Nat) (w : World) (hL : L.length = n) (hs : RSrc w A L) (h0 : amdF false last (f : Int) sn off (lens L) wd ≠ 0) (hn1 : l1.length = n1) (h1p : 0 < n1) (h1m : n1 ≤ 9223372036854775807) (hs1 : Src w A1 (u16v l1)) (hb1 : ∀ b ∈ l1, b < 65536) (hm : la.length = m) (hm5 : m ≤ 500) (hra : RowB.ok w ⟨A3, c3, la⟩) :
    Calls Try.prog 14 #[.agg #[.bool poll, .int .i64 (f : Int), .int .i64 sn, .bool false, .bool last, .int .i64 off, .slice A n cap], .slice A1 n1 c1, .int .i64 wd, .slice A3 m c3] w fun e w' => e = .returned (.bool true) ∧ Below w.heap.size w w' := by
  obtain ⟨hwd, hf0, hf3, _, _, hl1, hl24, hok, _⟩ := amdF_pos h0
  have hn24 : n ≤ 24 := by rw [← hL, ← length_lens]; exact hl24
  have hsum := sumTo_bound hok (Nat.le_refl _)
  rw [sumTo_all] at hsum
  have hbig := amdF_big false last f sn off (lens L) wd
  have hnn := amdF_nonneg false last f sn off (lens L) wd
  have hmx : ∀ m ∈ lens L, 0 < m ∧ m ≤ 9223372036854775807 := by
    intro m hm
    obtain ⟨k, hk⟩ := List.getElem?_of_mem hm
    have := okTo_small hok hk
    omega
  have HB0 := Lib.hid (bl_alloc (Below.refl w.heap.size w) (.cells #[.bool poll, .int .i64 (f : Int), .int .i64 sn, .bool false, .bool last, .int .i64 off, .slice A n cap] 24))
  have RP0 := Lib.hid (Row.made w 24 #[.bool poll, .int .i64 (f : Int), .int .i64 sn, .bool false, .bool last, .int .i64 off, .slice A n cap])
  have HGR := Lib.hid (great_any n cap (w.alloc (.cells #[.bool poll, .int .i64 (f : Int), .int .i64 sn, .bool false, .bool last, .int .i64 off, .slice A n cap] 24)) hL (by omega) (hs.later HB0.out) (fun m hm => (hmx m hm).2))
  have HR := Lib.hid (fun W (hb : Below w.heap.size w W) => aright_any (A := A) poll false last f sn off wd n cap W hL (by omega) (hs.later hb) (fun m hm => (hmx m hm).2))
  rw [decide_eq_true (show 0 < amdF false last f sn off (lens L) wd by omega)] at HR
  have HD := Lib.hid (fun W (hb : Below w.heap.size w W) => adata_len (A := A) poll false last f sn off n cap W hL (by omega) (hs.later hb) (by omega))
  have HOK := Lib.hid (okG_of (fi := f) hf0 hf3 hl1 hl24 (fun l hl => (hmx l hl).1))
  have HS := Lib.hid hs
  have HH0 := Lib.hid h0
  have HSM := Lib.hid (show (lens L).sum ≤ 96000 by omega)
  have HRA := Lib.hid hra
  have HLM := Lib.hid hm
  have hg1 : ((n1 : Int) == 0) = false := by simp; omega
  have hg2 : decide ((500 : Int) < m) = false := by simp; omega
  have HF3 := Lib.hid (show f ≤ 3 by omega)
  have HD0 := Lib.hid (show 0 < (lens L).sum by
    obtain ⟨k, hk⟩ : ∃ m, (lens L)[0]? = some m := ⟨_, List.getElem?_eq_getElem (by omega)⟩
    have := hmx k (List.mem_of_getElem? hk)
    have := le_sum_mem (List.mem_of_getElem? hk)
    omega)
  have HPA := Lib.hid (put_ahead (la := la) (by omega))
  have HLA8 := Lib.hid hra.2.2.2
  have HL := Lib.hid hL
  have HFL8 := Lib.hid (flat_bytes hs)
  clear h0 hs hok hbig hnn hmx hra hf0 hf3 hl1 hl24
  go_enter Try.func14, Try.ntmps14
  go_wp2_with (go_at_call 20; refine HGR.out.mono ?_; rintro e w1 ⟨⟨b, rfl, hbb⟩, rfl⟩; clear hbb; cases b)
  · go_upto_if 51 with (first
      | (go_at_call 26; (with_reducible refine (HR.out _ HB0.out).mono ?_); rintro e w3 ⟨rfl, hb3⟩; (have HB3 := Lib.hid (bl_step HB0.out hb3)); (have RP3 := Lib.hid (RP0.out.later hb3)); clear hb3)
      | (go_at_call 102; (with_reducible refine (gnew_any w3).mono ?_); rintro e w4 ⟨rfl, hg4, hb4⟩; (have HG4 := Lib.hid hg4); (have HB4 := Lib.hid hb4); (have RP4 := Lib.hid (RP3.out.later hb4)); clear hg4 hb4)
      | (go_at_call 102; (with_reducible refine (gnew_any w4).mono ?_); rintro e w5 ⟨rfl, hg5, hb5⟩; (have HT5 := Lib.hid (two_new HB3.out HG4.out HB4.out hg5 hb5)); (have RP5 := Lib.hid (RP4.out.later hb5)); clear hg5 hb5))
    generalize w3.heap.size = p1 at *
    generalize w4.heap.size = p2 at *
    go_cut [] (fun wx => ∃ (wy : World) (h1 h2 : Value), wy = wx ∧ Hid (TwoG w p1 p2 h1 h2 ⟨la, 0⟩ ⟨la, 0⟩ wy) ∧ Hid (Row wy w.heap.size 24 #[.bool poll, .int .i64 (f : Int), .int .i64 sn, .bool false, .bool last, .int .i64 off, .slice A n cap]))
    case first =>
      rcases Nat.eq_zero_or_pos m with h0 | h0
      · subst h0
        have e : la = [] := List.eq_nil_of_length_eq_zero HLM.out
        go_wp2
        go_meet
        exact ⟨_, _, _, rfl, by rw [e]; exact HT5, RP5⟩
      · have h0i : (0 : Int) < m := by omega
        have HP1 := Lib.hid (HT5.out.ahead HRA.out HLM.out h0 hm5)
        clear h0
        go_wp2_with (first
          | (go_at_call 104; (with_reducible refine HP1.out.mono ?_); rintro e w6 ⟨h6, A6, rfl, ht6, ho6⟩; (have HT6 := Lib.hid ht6); (have HP2 := Lib.hid (ht6.swap.ahead HRA.out HLM.out (by omega) hm5)); (have RP6 := Lib.hid ((RP5.out.more (.cells #[.slice A3 m c3] 30)).only ho6 (fun hk => by rcases hk with hk | hk; exact RP5.out.apart HT5.out.g1.1 (by decide) hk; simp [Value.ownBlock] at hk))); clear ht6 ho6)
          | (go_at_call 104; (with_reducible refine HP2.out.mono ?_); rintro e w7 ⟨h7, A7, rfl, ht7, ho7⟩; (have HT7 := Lib.hid ht7.swap); (have RP7 := Lib.hid ((RP6.out.more (.cells #[.slice A3 m c3] 30)).only ho7 (fun hk => by rcases hk with hk | hk; exact RP6.out.apart HT6.out.g2.1 (by decide) hk; simp [Value.ownBlock] at hk))); clear ht7 ho7))
        go_meet
        exact ⟨_, _, _, rfl, HT7, RP7⟩
    case rest =>
      obtain ⟨wy, h1, h2, hwy, HT, RP⟩ := hcut
      subst hwy
      obtain ⟨k0, k1, k2, k3, k4, k5, k6⟩ := pk_reads RP.out
      have HB := Lib.hid HT.out.bl
      have hlm := HLM.out
      have HP := Lib.hid (HT.out.put (A := A) (cap := cap) (M := L) (f2 := f) HL.out (fun w' ho => HS.out.later (HT.out.old1 (Below.refl _ _) ho)) HOK.out (by have := HSM.out; omega) (by simp) (by simp; omega) HLA8.out)
      have hne := HD0.out
      have hdz : (((lens L).sum : Int) == 0) = false := by simp; omega
      have hwr : IntKind.i64.wrap ((1000 : Int) - (m : Int)) = (1000 : Int) - m := IntWalk.i64_in _ (by omega)
      by_cases hbg : (1000 : Int) - (m : Int) < ((lens L).sum : Int)
      · go_wp2_with (first
          | (go_at_call 104; (with_reducible refine HP.out.mono ?_); rintro e w8 ⟨h8, L8, A8, rfl, hx8, ht8, hq8, hr8, ho8, hn8, hN8⟩; (have HT8 := Lib.hid ht8); (have RP8 := Lib.hid (RP.out.only ho8 (fun hk => by rcases hk with hk | hk; exact RP.out.apart HT.out.g1.1 (by decide) hk; exact own_apart HT.out.g1.2 RP.out (by decide) hk))); clear hx8 ht8 hq8 hr8 ho8 hn8 hN8 k0 k1 k2 k3 k4 k5 k6; obtain ⟨k0, k1, k2, k3, k4, k5, k6⟩ := pk_reads RP8.out)
          | (go_at_call 31; (with_reducible refine (HD.out _ HT8.out.bl).mono ?_); rintro e w9 ⟨A9, c9, rfl, _, hb9⟩; (have HB9 := Lib.hid (bl_step HT8.out.bl hb9)); clear hb9)
          | (go_at_call 106; (with_reducible refine (rsalive_any _).mono ?_); rintro e w10 ⟨rfl, hb10⟩; (have HB10 := Lib.hid (bl_step HB9.out hb10)); clear hb10))
        go_ret
        exact ⟨rfl, HB10.out⟩
      · have HDM := Lib.hid (show la.length + (lens L).sum ≤ 1000 by omega)
        have HPA2 := Lib.hid (show putG f (texts L) false ⟨la, 0⟩ = runB (flat L) (lens L) f 0 (lens L).sum ⟨la, 0⟩ by
          have h := putG_all (fs := texts L) (fi := f) ⟨la, 0⟩ HF3.out (fun t ht => by
            obtain ⟨r, hr, rfl⟩ := List.mem_map.1 ht
            have := HOK.out
            unfold okG at this
            simp only [Bool.and_eq_true, Bool.not_eq_true', decide_eq_false_iff_not] at this
            rcases Nat.eq_zero_or_pos r.bs.length with h9 | h9
            · exact absurd (List.mem_map.2 ⟨r, hr, h9⟩) this.2
            · exact h9) (by rw [← lens_map]; exact HD0.out) (by rw [← lens_map]; exact HDM.out)
          rw [← lens_map] at h
          exact h)
        rw [HPA2.out] at HP
        go_wp2_with (first
          | (go_at_call 104; (with_reducible refine HP.out.mono ?_); rintro e w8 ⟨h8, L8, A8, rfl, hx8, ht8, hq8, hr8, ho8, hn8, hN8⟩; (have HX8 := Lib.hid hx8); (have HT8 := Lib.hid ht8); (have HQ8 := Lib.hid hq8); (have HN8 := Lib.hid hN8); (have HS8 := Lib.hid ho8.size); (have RP8 := Lib.hid (RP.out.only ho8 (fun hk => by rcases hk with hk | hk; exact RP.out.apart HT.out.g1.1 (by decide) hk; exact own_apart HT.out.g1.2 RP.out (by decide) hk))); clear hx8 ht8 hq8 hr8 ho8 hn8 hN8 k0 k1 k2 k3 k4 k5 k6; obtain ⟨k0, k1, k2, k3, k4, k5, k6⟩ := pk_reads RP8.out)
          | (go_at_call 31; (with_reducible refine (HD.out _ HT8.out.bl).mono ?_); rintro e w9 ⟨A9, c9, rfl, _, hb9⟩; (have HT9 := Lib.hid (HT8.out.later hb9)); (have HQ9 := Lib.hid (HQ8.out.later hb9)); (have HS9 := Lib.hid hb9.size); (have RP9 := Lib.hid (RP8.out.later hb9)); clear hb9))
        have HF9 := Lib.hid (FedG.start HT9.out)
        have HRPX := Lib.hid (fun wr (ho : Only (GS1 p2 h2) w9 wr) => RP9.out.only ho (fun hk => by rcases hk with hk | hk; exact RP9.out.apart HT9.out.g2.1 (by decide) hk; exact own_apart HT9.out.g2.2 RP9.out (by decide) hk))
        have HL8 := Lib.hid (show L8.length ≤ 1000 by
          have h9 := runB_told (flat L) (lens L) f 0 (lens L).sum ⟨la, 0⟩
          rw [← HX8.out] at h9
          have := HDM.out
          simp [texts] at h9
          omega)
        clear k0 k1 k2 k3 k4 k5 k6 HP
        generalize hd : (lens L).sum = d at *
        have HDD := Lib.hid hd
        clear hd
        go_loopw [14, 15, 16] (fun s14 s15 s16 wr => ∃ (a i k c : Nat) (B : Option Addr) (hv : Value) (G : List RowB), a ≤ d ∧ i ≤ a ∧ s15 = .int .i64 a ∧ s16 = .int .i64 i ∧ s14 = .slice B k c ∧ Hid (G.length = k) ∧ Hid (FedG w w9 p1 p2 h8 h2 hv (runB (flat L) (lens L) f 0 d ⟨la, 0⟩).1 (runB (flat L) (lens L) f 0 a ⟨la, 0⟩).1 (.slice B k c) G wr) ∧ Hid (texts G = (runB (flat L) (lens L) f 0 a ⟨la, 0⟩).2)) (fun _ s15 _ _ => d - (intOf s15).toNat)
        case atStart => exact ⟨0, 0, 0, 0, none, _, [], by omega, by omega, rfl, rfl, rfl, Lib.hid rfl, HF9, Lib.hid rfl⟩
        case round =>
          obtain ⟨a, i, k, c, B, hv, G, ha, hi, rfl, rfl, rfl, HGL, HFr, HGT⟩ := hrel
          by_cases hlt : a < d
          · have hlti : (a : Int) < d := by omega
            have RPr := Lib.hid (HRPX.out _ HFr.out.old)
            have RPd := Lib.hid RPr.out.drawn
            have k0 := pk_reads RPd.out
            have HBr := Lib.hid (bl_drew HFr.out.two.bl)
            have HLE := Lib.hid (fun W => rsleast_any wd W)
            have hmod : ∃ j : Nat, (i : Int) % (n1 : Int) = (j : Int) ∧ j < n1 := ⟨i % n1, by omega, Nat.mod_lt _ h1p⟩
            obtain ⟨j, hj, hj1⟩ := hmod
            obtain ⟨v, hv1⟩ : ∃ v, l1[j]? = some v := ⟨_, List.getElem?_eq_getElem (by omega)⟩
            have hv6 := hb1 v (List.mem_of_getElem? hv1)
            obtain ⟨ad, rfl, zcr⟩ := src_cell2 hs1 HFr.out.two.bl (u16v_at hv1)
            have zc0 : wr.drew.cell? (ad.add j) = some (.int .u16 (v : Int)) := zcr
            have hv64 : ∃ r : Nat, (v : Int) % 64 = (r : Int) ∧ r ≤ 63 := ⟨v % 64, by omega, by omega⟩
            obtain ⟨r, hr, hr6⟩ := hv64
            have hle := leastR_bd wd
            obtain ⟨le, hle2⟩ : ∃ le, leastR wd = le := ⟨_, rfl⟩
            have HCU := Lib.hid (fun W' (hb' : Below wr.heap.size wr W') => rsw_cut (A := A) (L := L) poll last f sn off wd (leastR wd + r) n cap a W' HL.out (HS.out.later (bl_step HFr.out.two.bl hb')) HH0.out (by rw [HDD.out]; exact hlt) (by omega) (by omega) (by rw [HDD.out]; have := HDM.out; omega))
            rw [HDD.out, hle2] at HCU
            rw [hle2] at HLE hle
            have hw1 : IntKind.i64.wrap (le + (r : Int)) = le + r := IntWalk.i64_in _ (by omega)
            have hw2 : IntKind.i64.wrap (le + (IntKind.i64.wrap (v : Int)).tmod 64) = le + r := by rw [IntWalk.i64_in (v : Int) (by omega), Int.tmod_eq_emod_of_nonneg (by omega), hr]; exact hw1
            have ht0 : (i : Int).tmod (n1 : Int) = j := by rw [Int.tmod_eq_emod_of_nonneg (by omega)]; exact hj
            have ht1 : IntKind.i64.wrap (j : Int) = j := IntWalk.i64_in _ (by omega)
            have ht2 : ¬ (n1 : Int) = 0 := by omega
            have ht5 : ¬ n1 = 0 := by omega
            have ht3 : IntKind.i64.wrap (v : Int) = v := IntWalk.i64_in _ (by omega)
            have ht4 : (v : Int).tmod 64 = r := by rw [Int.tmod_eq_emod_of_nonneg (by omega)]; exact hr
            have hj0 : (0 : Int) ≤ j := by omega
            have hj1i : (j : Int) < n1 := by omega
            have HLT := Lib.hid (And.intro hlt hi)
            clear hlt ha hi hle2 hv1 hv6 hle
            have hz0 : wr.drew.cell? ⟨w.heap.size, 0, none⟩ = some (.bool poll) ∧ wr.drew.cell? ⟨w.heap.size, 1, none⟩ = some (.int .i64 (f : Int)) ∧ wr.drew.cell? ⟨w.heap.size, 2, none⟩ = some (.int .i64 sn) ∧ wr.drew.cell? ⟨w.heap.size, 3, none⟩ = some (.bool false) ∧ wr.drew.cell? ⟨w.heap.size, 4, none⟩ = some (.bool last) ∧ wr.drew.cell? ⟨w.heap.size, 5, none⟩ = some (.int .i64 off) ∧ wr.drew.cell? ⟨w.heap.size, 6, none⟩ = some (.slice A n cap) ∧ wr.drew.cell? (ad.add j) = some (.int .u16 (v : Int)) := ⟨k0.1, k0.2.1, k0.2.2.1, k0.2.2.2.1, k0.2.2.2.2.1, k0.2.2.2.2.2.1, k0.2.2.2.2.2.2, zc0⟩
            go_upto_region 18 with fail
            go_cut [17, 18, 19] (fun s17 s18 s19 wx => ∃ (wy : World) (xb f2 : Nat) (off2 : Int) (pt lb : Bool) (g kq q : Nat) (M : List RowB), wy = wx ∧ s17 = .pointer (some ⟨xb, 0, none⟩) ∧ s18 = .int .i64 q ∧ s19 = .int .i64 0 ∧ Hid (Row wy xb 24 #[.bool false, .int .i64 (f2 : Int), .int .i64 sn, .bool pt, .bool lb, .int .i64 off2, .slice (some ⟨g, 0, none⟩) kq kq]) ∧ Hid (M.length = kq) ∧ Hid (OwnR wr.heap.size wy (.slice (some ⟨g, 0, none⟩) kq kq) M) ∧ Hid (Below wr.heap.size wr wy) ∧ Hid (a < q ∧ q ≤ (lens L).sum) ∧ Hid (okG (f2 : Int) (lens M) = true) ∧ Hid (∀ s : GS, s.held.length + (q - a) ≤ 1000 → putG f2 (texts M) false s = runB (flat L) (lens L) f a (q - a) s) ∧ Hid ((lens M).sum ≤ 96000))
            case first =>
              go_region_held3 (fun w' => w'.cell? ⟨w.heap.size, 0, none⟩ = some (.bool poll) ∧ w'.cell? ⟨w.heap.size, 1, none⟩ = some (.int .i64 (f : Int)) ∧ w'.cell? ⟨w.heap.size, 2, none⟩ = some (.int .i64 sn) ∧ w'.cell? ⟨w.heap.size, 3, none⟩ = some (.bool false) ∧ w'.cell? ⟨w.heap.size, 4, none⟩ = some (.bool last) ∧ w'.cell? ⟨w.heap.size, 5, none⟩ = some (.int .i64 off) ∧ w'.cell? ⟨w.heap.size, 6, none⟩ = some (.slice A n cap) ∧ w'.cell? (ad.add j) = some (.int .u16 (v : Int))) (first | with_reducible exact hz0 | with_reducible exact pk8 (RPr.out.later (by repeat (first | with_reducible exact HY3.out | with_reducible exact Below.refl _ _ | with_reducible refine bl_drew ?_ | with_reducible refine bl_alloc ?_ _ | with_reducible refine Below.setCell ?_ ?_ _ | exact Nat.le_refl _ | exact HYS.out))) (kept_at (by repeat (first | with_reducible exact HY3.out | with_reducible exact Below.refl _ _ | with_reducible refine bl_drew ?_ | with_reducible refine bl_alloc ?_ _ | with_reducible refine Below.setCell ?_ ?_ _ | exact Nat.le_refl _ | exact HYS.out)) zcr) | go_keep) (first
                | (go_at_call 108; (with_reducible refine (HLE.out _).mono ?_); rintro e w11 ⟨rfl, rfl⟩)
                | (go_at_call 107; (try rw [hw2]); (with_reducible refine (HCU.out _ (by repeat (first | with_reducible exact Below.refl _ _ | with_reducible refine bl_drew ?_ | with_reducible refine bl_alloc ?_ _))).mono ?_); rintro e w10 ⟨pt, lb, f2, off2, g, kq, q, M, rfl, y1, y2, y3, y4, y5, y6, y7, y8, y9⟩; (try (have RX : Row w10 wr.heap.size 24 #[.bool false, .int .i64 0, .int .i64 0, .bool false, .bool false, .int .i64 0, .slice none 0 0] := (row_made_at (w := wr.drew) (t := 24) (cs := #[.bool false, .int .i64 0, .int .i64 0, .bool false, .bool false, .int .i64 0, .slice none 0 0]) rfl).later y3; have RXH := Lib.hid RX; obtain ⟨xx0, xx1, xx2, xx3, xx4, xx5, xx6⟩ := cells_pk RX; have x0 := RX.free 0; have x1 := RX.free 1; have x2 := RX.free 2; have x3 := RX.free 3; have x4 := RX.free 4; have x5 := RX.free 5; have x6 := RX.free 6; clear RX)); (have HY3 := Lib.hid (show Below wr.heap.size wr w10 from bl_step (by repeat (first | with_reducible exact Below.refl _ _ | with_reducible refine bl_drew ?_ | with_reducible refine bl_alloc ?_ _)) y3)); (have Y1 := Lib.hid y1); (have Y2 := Lib.hid y2); (have HYZ := Lib.hid (size_of (wr := wr) y2 (by repeat (first | with_reducible exact Below.refl _ _ | with_reducible refine bl_drew ?_ | with_reducible refine bl_alloc ?_ _)))); (have Y4 := Lib.hid (And.intro y4 y5)); (have Y6 := Lib.hid y6); (have Y8 := Lib.hid y8); (have Y9 := Lib.hid y9); (have HYS := Lib.hid (show wr.heap.size ≤ w10.heap.size from (show Below wr.heap.size wr w10 from bl_step (by repeat (first | with_reducible exact Below.refl _ _ | with_reducible refine bl_drew ?_ | with_reducible refine bl_alloc ?_ _)) y3).size)); clear y1 y2 y3 y4 y5 y6 y7 y8 y9))
              all_goals
                go_wp2_with fail
                go_meet
                refine ⟨_, _, f2, off2, pt, lb, g, kq, q, M, rfl, rfl, rfl, rfl, ?_, Y1, ?_, ?_, Y4, Y6, Y8, Y9⟩
                · first
                    | with_reducible exact Lib.hid (Row.made _ _ _)
                    | with_reducible exact Lib.hid (row_set7 RXH.out)
                · first
                    | with_reducible exact Lib.hid ((Y2.out.later (bl_alloc (Below.refl _ _) _)).down HYZ.out)
                    | exact Lib.hid ((Y2.out.old (only_set7 (S := fun k => k = wr.heap.size) (Only.refl _ _) rfl) (fun k hk => by subst hk; first | simp | (show wr.heap.size < (wr.alloc _).heap.size; simp))).down HYZ.out)
                · exact Lib.hid (by repeat (first | with_reducible exact HY3.out | with_reducible exact Below.refl _ _ | with_reducible refine bl_drew ?_ | with_reducible refine bl_alloc ?_ _ | with_reducible refine Below.setCell ?_ ?_ _ | exact Nat.le_refl _ | exact HYS.out))
            case rest =>
              obtain ⟨wy, xb, f2, off2, pt, lb, g, kq, q, M, hwy, rfl, rfl, rfl, HXR, Y1, Y2, HYB, Y4, Y6, Y8, Y9⟩ := hcut
              subst hwy
              have HFy := Lib.hid (HFr.out.later HYB.out)
              obtain ⟨x0, x1, x2, x3, x4, x5, x6⟩ := cells_pk HXR.out
              have HLTB := Lib.hid Y4.out
              have hqa : (a : Int) < q := by have := Y4.out.1; omega
              have HRH := Lib.hid (runB_held (flat L) (lens L) f 0 a ⟨la, 0⟩)
              have HRL := Lib.hid (runB_lost (flat L) (lens L) f 0 a ⟨la, 0⟩)
              have HRB := Lib.hid (runB_bytes (flat L) (lens L) f 0 a ⟨la, 0⟩ HLA8.out HFL8.out)
              have HRT := Lib.hid (runB_told (flat L) (lens L) f 0 q ⟨la, 0⟩)
              have HADD := Lib.hid (by
                have h := runB_add (flat L) (lens L) f 0 a (q - a) ⟨la, 0⟩
                rw [Nat.zero_add, show a + (q - a) = q by have := Y4.out.1; omega] at h
                exact h : runB (flat L) (lens L) f 0 q ⟨la, 0⟩ = ((runB (flat L) (lens L) f a (q - a) (runB (flat L) (lens L) f 0 a ⟨la, 0⟩).1).1, (runB (flat L) (lens L) f 0 a ⟨la, 0⟩).2 ++ (runB (flat L) (lens L) f a (q - a) (runB (flat L) (lens L) f 0 a ⟨la, 0⟩).1).2))
              have HPG := Lib.hid (Y8.out (runB (flat L) (lens L) f 0 a ⟨la, 0⟩).1 (by have h1 := HRH.out; have h2 := HDM.out; have h3 := Y4.out; have h4 := HDD.out; simp only at h1; omega))
              have HGT2 := Lib.hid (by have h := HGT.out; have h2 := congrArg List.length h; simp [texts] at h2; exact h2 : G.length = (runB (flat L) (lens L) f 0 a ⟨la, 0⟩).2.length)
              have HPU := Lib.hid (HFy.out.put (A := some ⟨g, 0, none⟩) (n := kq) (cap := kq) (M := M) (f2 := f2) Y1.out (fun w' ho => Y2.out.keep_src HFr.out ho) Y6.out Y9.out (by have h1 := HRL.out; have h2 := HLTB.out; have h3 := HDM.out; have h4 := HDD.out; simp only at h1; omega) (by have h1 := HRH.out; have h2 := HLTB.out; have h3 := HDM.out; have h4 := HDD.out; simp only at h1; omega) HRB.out.1 (by rw [HPG.out]; have h1 := HRT.out; rw [HADD.out] at h1; simp only [List.length_append] at h1; have h2 := HGT2.out; have h3 := Y4.out; have h4 := HDM.out; have h5 := HDD.out; omega))
              rw [HPG.out] at HPU
              have hib : i ≤ 1000 := by have := HLT.out; have := HDM.out; have := HDD.out; omega
              clear x0 x2 x3 x4 x5
              go_wp2_with (first
                | (go_at_call 104; (with_reducible refine HPU.out.mono ?_); rintro e w11 ⟨k2, A2, rfl, A3', c3', A', c', w12, hv', L2, hgv, hrun, hlen, htx, hf, ho1, ho2⟩; (have HLEN := Lib.hid hlen); (have HTX := Lib.hid htx); (have HF12 := Lib.hid hf); clear hlen htx hf ho1 ho2 hgv)
                | (at_builtin; refine wpList_is rfl (.tmp 128) (.tmp 129) 22 rfl _ _ (by rfl) (by rfl) hrun ?_)
                | go_in)
              go_roundw
              case rel => exact ⟨q, i + 1, G.length + k2, c', A', hv', G ++ L2, by have := HLTB.out; have := HDD.out; omega, by have := HLT.out; have := HLTB.out; omega, rfl, by go_num, rfl, HLEN, Lib.hid (by rw [HADD.out]; exact HF12.out), Lib.hid (by rw [HADD.out]; show texts (G ++ L2) = _; rw [texts_app, HGT.out, HTX.out])⟩
              case measure => have := HLT.out; have := HLTB.out; have := HDD.out; simp [intOf]; omega
          · have hlti : ¬ (a : Int) < d := by omega
            obtain rfl : a = d := by omega
            have HTG := Lib.hid HFr.out.two
            have HE1 := Lib.hid (gheld_any HTG.out.g1)
            have HE2 := Lib.hid (gheld_any HTG.out.g2)
            have HE3 := Lib.hid (glost_any HTG.out.g1)
            have HE4 := Lib.hid (glost_any HTG.out.g2)
            have HB8 := Lib.hid (runB_bytes (flat L) (lens L) f 0 a ⟨la, 0⟩ HLA8.out HFL8.out).2
            have HKL := Lib.hid (show L8.length = k by
              have h1 := congrArg List.length HX8.out
              have h2 := congrArg List.length HGT.out
              simp [texts] at h1 h2
              rw [h1, ← h2, HGL.out])
            have HS1 := Lib.hid (told_apart HT.out HQ9.out HN8.out (Nat.le_trans HS8.out HS9.out) HT9.out.g2 (by rw [HX8.out]; exact HB8.out) HFr.out.old)
            have HS2 := Lib.hid (show RSrc wr B G from ToldIs.src (hv := hv) (B := w.heap.size) ⟨⟨w9.heap.size, c, by have h := HFr.out.own; rw [HGL.out] at h ⊢; exact h⟩, HFr.out.ok⟩ (by rw [HGT.out]; exact HB8.out))
            have HBE := Lib.hid HFr.out.two.bl
            have hk1 : k ≤ 1000 := by have h1 := HL8.out; have h2 := HKL.out; omega
            rw [HKL.out]
            clear hlt hlti HFr HTG
            go_wp2_with (first
              | (go_at_call 109; (with_reducible refine HE1.out.mono ?_); rintro e w21 ⟨rfl, rfl⟩)
              | (go_at_call 109; (with_reducible refine HE2.out.mono ?_); rintro e w22 ⟨rfl, rfl⟩)
              | (go_at_call 105; (with_reducible refine HE3.out.mono ?_); rintro e w23 ⟨rfl, rfl⟩)
              | (go_at_call 105; (with_reducible refine HE4.out.mono ?_); rintro e w24 ⟨rfl, rfl⟩))
            have HTT := Lib.hid (show texts G = texts L8 by rw [HGT.out, HX8.out])
            have HGLN := HGL
            go_loopw [22] (fun s22 wu => ∃ mm : Nat, mm ≤ k ∧ s22 = .int .i64 mm ∧ Hid (Below wr.heap.size wr wu)) (fun s22 _ => k - (intOf s22).toNat)
            case atStart => exact ⟨0, by omega, rfl, Lib.hid (Below.refl _ _)⟩
            case round =>
              obtain ⟨mm, hmm, rfl, HBU⟩ := hrel
              by_cases hlt : mm < k
              · have hlti : (mm : Int) < k := by omega
                have hm0 : (0 : Int) ≤ mm := by omega
                obtain ⟨r2, hr2⟩ : ∃ r, G[mm]? = some r := ⟨_, List.getElem?_eq_getElem (by rw [HGLN.out]; exact hlt)⟩
                obtain ⟨rk, hrk⟩ : ∃ r, L8[mm]? = some r := ⟨_, List.getElem?_eq_getElem (by have := HKL.out; omega)⟩
                obtain ⟨ad2, rfl, hcl2⟩ := (HS2.out.later HBU.out) (by rw [HGLN.out]; omega)
                obtain ⟨adk, rfl, hclk⟩ := (HS1.out.later HBU.out) (by have := (List.getElem?_eq_some_iff.1 hrk).1; omega)
                have heq : r2.bs = rk.bs := by
                  have h1 := texts_at hr2
                  rw [HTT.out, texts_at hrk] at h1
                  injection h1 with h1
                  exact h1.symm
                obtain ⟨q1, q2⟩ := hcl2 mm r2 hr2
                obtain ⟨q3, q4⟩ := hclk mm rk hrk
                unfold RowB.v at q1 q3
                have cv1 := conv_src (w := wr.drew) (A := r2.A) (l := r2.bs) r2.bs.length r2.cap rfl (src_later q2.1 (bl_drew (Below.refl _ _))) q2.2.2.2
                have cv2 := conv_src (w := wr.drew) (A := rk.A) (l := r2.bs) r2.bs.length rk.cap rfl (by rw [heq]; exact src_later q4.1 (bl_drew (Below.refl _ _))) q2.2.2.2
                rw [← heq] at q3
                have x1 : wr.drew.cell? (ad2.add mm) = some (.slice r2.A r2.bs.length r2.cap) := q1
                have x2 : wr.drew.cell? (adk.add mm) = some (.slice rk.A r2.bs.length rk.cap) := q3
                have HLT := Lib.hid hlt
                clear hcl2 hclk q1 q2 q3 q4 heq hr2 hrk hlt
                generalize r2.bs.length = bl at *
                generalize strOf r2.bs = st at *
                go_wp2_with fail
                refine wp_region_still_lit (by kernel_rfl) (by kernel_rfl) ?_
                change wpStill _ _ wr.drew (fun b => _) _ _
                generalize wr.drew = wd9 at x1 x2 cv1 cv2 ⊢
                repeat still_step
                refine wpStill_nil ?_
                go_wp2_with fail
                go_roundw
                case rel => exact ⟨mm + 1, by have := HLT.out; omega, by go_num, Lib.hid (bl_step HBU.out (bl_drew (Below.refl _ _)))⟩
                case measure => have := HLT.out; simp [intOf]; omega
              · have hlti : ¬ (mm : Int) < k := by omega
                clear hlt
                go_wp2_with (go_at_call 106; refine (rsalive_any _).mono ?_; rintro e w2 ⟨rfl, hb2⟩)
                go_ret
                exact ⟨rfl, bl_step (bl_step HBE.out HBU.out) hb2⟩
  · go_wp2_with (go_at_call 106; refine (rsalive_any _).mono ?_; rintro e w2 ⟨rfl, hb2⟩)
    go_ret
    exact ⟨rfl, bl_step HB0.out hb2⟩
theorem rwhole_all {A A1 A3 : Option Addr} (poll part last : Bool) (fi sn off : Int) (l1 la : List Nat) (c1 : Nat) (wd : Int) (c3 : Nat) (L : List RowB) (cap : Nat) (w : World) (hcap : L.length ≤ cap) (hcm : cap ≤ 9223372036854775807) (hs : RSrc w A L) (hm : ∀ m ∈ lens L, m ≤ 9223372036854775807) (hc1 : l1.length ≤ c1) (hm1 : c1 ≤ 9223372036854775807) (hs1 : Src w A1 (u16v l1)) (hb1 : ∀ b ∈ l1, b < 65536) (hc3 : la.length ≤ c3) (hm3 : c3 ≤ 9223372036854775807) (hs3 : Src w A3 (bts la)) (hb3 : ∀ b ∈ la, b < 256) :
    Calls Try.prog 14 #[.agg #[.bool poll, .int .i64 fi, .int .i64 sn, .bool part, .bool last, .int .i64 off, .slice A L.length cap], .slice A1 l1.length c1, .int .i64 wd, .slice A3 la.length c3] w fun e w' => e = .returned (.bool true) ∧ Below w.heap.size w w' := by
  by_cases h0 : part = true ∨ amdF part last fi sn off (lens L) wd = 0 ∨ l1.length = 0 ∨ 500 < la.length
  · exact rwhole_none poll part last fi sn off wd L.length cap l1.length c1 la.length c3 w rfl (by omega) (by omega) (by omega) hs hm h0
  · cases part
    · have h1 : amdF false last fi sn off (lens L) wd ≠ 0 := fun h => h0 (.inr (.inl h))
      obtain ⟨_, hf0, _, _⟩ := amdF_pos h1
      obtain ⟨f, rfl⟩ : ∃ f : Nat, fi = f := ⟨fi.toNat, by omega⟩
      have h2 : 0 < l1.length := by
        rcases Nat.eq_zero_or_pos l1.length with h | h
        · exact absurd (.inr (.inr (.inl h))) h0
        · exact h
      have h3 : la.length ≤ 500 := by
        rcases Nat.lt_or_ge 500 la.length with h | h
        · exact absurd (.inr (.inr (.inr h))) h0
        · exact h
      exact rwhole_some poll last f sn off wd L.length cap l1.length c1 la.length c3 w rfl hs h1 rfl h2 (by omega) hs1 hb1 rfl h3 ⟨hs3, hc3, hm3, hb3⟩
    · exact absurd (.inl rfl) h0
end Go.Proofs.Ytfgjlhklioijmaa
namespace Go.Proofs.Ytfgjlhklioijmaa
open Go.ChangeShapes Go.WideShapes Go.ChangeAt Go.RowKit

theorem lawOwn : ownKnob Try.prog.godebug = none := by kernel_rfl
theorem lawLaid : laidOutB Try.prog = true := by kernel_rfl

section
variable {H : Type} {enc : TypeId × Value → H} {P : Program}
/-- what was read in the old world is read in the new one -/
theorem args_stay (hl : laidOutB P = true) {W W' : World} (hb : Below W.heap.size W W') : ∀ (ts : List TypeId) (vs : List Value) (ds : List (DataW H)) (ps : List MemPlace),
    (∀ t ∈ ts, P.readableRec t = true ∧ t < P.types.size) → DataW.TrodAll enc P W 0 (fun _ => true) true ts vs ds ps → (∀ x ∈ ps, x.block < W.heap.size) →
    DataW.TrodAll enc P W' 0 (fun b => decide (b < W.heap.size)) true ts vs ds ps := by
  intro ts
  induction ts with
  | nil =>
    intro vs ds ps _ h _
    obtain ⟨rfl, rfl, rfl⟩ := trodAll_nil h
    exact trodAll_mk0
  | cons t ts ih =>
    intro vs ds ps hr h hlt
    obtain ⟨v, vs', d, ds', p, q, rfl, rfl, rfl, h1, h2⟩ := trodAll_cons h
    have ht := hr t (List.mem_cons_self ..)
    exact trodAll_cons_mk (Below.trod hl ht.1 ht.2 h1 hb fun x hx => hlt x (List.mem_append_left _ hx))
      (ih vs' ds' q (fun u hu => hr u (List.mem_cons_of_mem _ hu)) h2 fun x hx => hlt x (List.mem_append_right _ hx))

theorem law_post {f : Func} {s : ChangeSpec} {W W' : World} {args : Array Value} {ds gs : List (DataW H)} {before : List MemPlace} {B : TypeId}
    (hl : laidOutB P = true) (hr : f.params.toList.all (fun t => P.readableRec t && decide (t < P.types.size)) = true) (hv : s.vars = [])
    (hW : DataW.Whole enc P f.params.toList s.vars false W args.toList ds gs before)
    (hs : s.fn H (ds ++ gs) = { results := [.lit (.bool true)], args := ds }) (ht : f.resultTypes = #[B]) (hB : P.underlying B = some .bool)
    (hb : Below W.heap.size W W') : s.post enc P f false true false false W args (.bool true) W' := by
  have hW' := hW
  obtain ⟨p, q, hA, hV, rfl, _, _⟩ := hW
  rw [hv] at hV
  obtain ⟨rfl, rfl⟩ := trodVars_none hV
  refine ⟨ds, [], p ++ [], [], p, [], hW', ?_, ?_, ?_, hb.frame _, fun h => by cases h⟩
  · rw [hs, ht]
    exact trodAll_mk1 (shut_bool hB true)
  · rw [hs]
    exact args_stay hl hb _ _ _ _ (fun t h => by have := List.all_eq_true.1 hr t h; simpa using this) hA fun x hx => hW'.lt x (List.mem_append_left _ hx)
  · rw [hs, hv]
    exact rfl
end
end Go.Proofs.Ytfgjlhklioijmaa
