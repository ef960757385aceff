/-
  sent: what must come of fixed calls. SentCounts: the walk. SentCounts: the walk of a packet that is put, and of bytes that are meant. SentCounts: bytes that are not meant; whatever is asked.
-/
import Derived.Test.YtdaipfmckonfpaaJSentCounts09
import Derived.Test.YtdaipfmckonfpaaJSentCounts04
import Derived.Deep.DeepCutAuto
import Derived.Deep.CutBlock
import Derived.BigQuiet
import Derived.Deep.RegionHeld3
namespace Go.Proofs.Ytdaipfmckonfpaa
open Go.RowKit Go.Maps

section
variable {W : World} {g1 g2 g3 : Nat}
/-- the fields 1 2 and 3 -/
def f123 (g1 g2 : Nat) : List RowB := [⟨some ⟨g1, 0, none⟩, 2, [1, 2]⟩, ⟨some ⟨g2, 0, none⟩, 1, [3]⟩]
theorem f123_src (h1 : Row W g1 5 #[.int .u8 1, .int .u8 2]) (h2 : Row W g2 5 #[.int .u8 3]) (h3 : Row W g3 42 #[.slice (some ⟨g1, 0, none⟩) 2 2, .slice (some ⟨g2, 0, none⟩) 1 1]) : RSrc W (some ⟨g3, 0, none⟩) (f123 g1 g2) := rsrc_of h3 (fun r hr => by
    unfold f123 at hr
    rw [List.mem_cons, List.mem_singleton] at hr
    rcases hr with rfl | rfl
    · exact ok_of_row (l := [1, 2]) h1 (by decide) (by decide)
    · exact ok_of_row (l := [3]) h2 (by decide) (by decide))
def f1 (g1 : Nat) : List RowB := [⟨some ⟨g1, 0, none⟩, 1, [1]⟩]
theorem f1_src (h1 : Row W g1 5 #[.int .u8 1]) (h3 : Row W g3 42 #[.slice (some ⟨g1, 0, none⟩) 1 1]) : RSrc W (some ⟨g3, 0, none⟩) (f1 g1) := rsrc_of h3 (fun r hr => by
    unfold f1 at hr
    rw [List.mem_singleton] at hr
    subst hr
    exact ok_of_row (l := [1]) h1 (by decide) (by decide))
theorem data123 {M : List RowB} (h : texts M = [[1, 2], [3]]) : dataN M = 3 := by
  unfold dataN
  rw [lens_texts, h]
  rfl
set_option maxRecDepth 100000 in
set_option maxHeartbeats 6400000 in
theorem alive19_any (w : World) : Calls Try.prog 35 #[] w fun e w' => e = .returned (.bool true) ∧ Below w.heap.size w w' := by
  have HN := Lib.hid (snew_any 10 w (.inl rfl))
  go_enter Try.func35, Try.ntmps35
  go_upto_region 4 with (go_at_call 32; (with_reducible refine HN.out.mono ?_); rintro e w1 ⟨rfl, hs, hb⟩; (have HS1 := Lib.hid hs; have HB1 := Lib.hid hb; clear hs hb))
  have hba := bl_alloc (bl_alloc (bl_alloc (Below.refl w1.heap.size w1) (.cells #[.int .u8 1, .int .u8 2] 5)) (.cells #[.int .u8 3] 5)) (.cells #[.slice (some ⟨w1.heap.size, 0, none⟩) 2 2, .slice (some ⟨w1.heap.size + 1, 0, none⟩) 1 1] 42)
  have r1 : Row (((w1.alloc (.cells #[.int .u8 1, .int .u8 2] 5)).alloc (.cells #[.int .u8 3] 5)).alloc (.cells #[.slice (some ⟨w1.heap.size, 0, none⟩) 2 2, .slice (some ⟨w1.heap.size + 1, 0, none⟩) 1 1] 42)) w1.heap.size 5 #[.int .u8 1, .int .u8 2] := ((Row.made w1 5 _).more _).more _
  have r2 : Row (((w1.alloc (.cells #[.int .u8 1, .int .u8 2] 5)).alloc (.cells #[.int .u8 3] 5)).alloc (.cells #[.slice (some ⟨w1.heap.size, 0, none⟩) 2 2, .slice (some ⟨w1.heap.size + 1, 0, none⟩) 1 1] 42)) (w1.heap.size + 1) 5 #[.int .u8 3] := by
    have h := (Row.made (w1.alloc (.cells #[.int .u8 1, .int .u8 2] 5)) 5 #[.int .u8 3]).more (.cells #[.slice (some ⟨w1.heap.size, 0, none⟩) 2 2, .slice (some ⟨w1.heap.size + 1, 0, none⟩) 1 1] 42)
    rwa [show (w1.alloc (.cells #[.int .u8 1, .int .u8 2] 5)).heap.size = w1.heap.size + 1 by simp] at h
  have r3 : Row (((w1.alloc (.cells #[.int .u8 1, .int .u8 2] 5)).alloc (.cells #[.int .u8 3] 5)).alloc (.cells #[.slice (some ⟨w1.heap.size, 0, none⟩) 2 2, .slice (some ⟨w1.heap.size + 1, 0, none⟩) 1 1] 42)) (w1.heap.size + 2) 42 #[.slice (some ⟨w1.heap.size, 0, none⟩) 2 2, .slice (some ⟨w1.heap.size + 1, 0, none⟩) 1 1] := by
    have h := Row.made ((w1.alloc (.cells #[.int .u8 1, .int .u8 2] 5)).alloc (.cells #[.int .u8 3] 5)) 42 #[.slice (some ⟨w1.heap.size, 0, none⟩) 2 2, .slice (some ⟨w1.heap.size + 1, 0, none⟩) 1 1]
    rwa [show ((w1.alloc (.cells #[.int .u8 1, .int .u8 2] 5)).alloc (.cells #[.int .u8 3] 5)).heap.size = w1.heap.size + 2 by simp] at h
  have hB := HB1.out.size
  have hput := one_put (B := w.heap.size) false false 0 7 0 2 2 (HS1.out.later hba) (Nat.le_trans hB hba.size) (Nat.le_refl _) (Nat.le_succ _) (L := f123 w1.heap.size (w1.heap.size + 1)) rfl (f123_src r1 r2 r3) (by show 0 < amdF false false 0 7 0 [2, 1] 10; decide +kernel) (by decide)
  have HPUT := Lib.hid hput
  have HBA := Lib.hid (bl_step HB1.out hba)
  clear r1 r2 r3 hput hba hB
  go_upto_region 5 with (go_at_call 34; (with_reducible refine HPUT.out.mono ?_); rintro e w2 ⟨rfl, g, M, ht, h2, hb2⟩; (have HD := Lib.hid (data123 ht); have H2 := Lib.hid h2; have HB2 := Lib.hid hb2; clear ht h2 hb2))
  have ha := again_new H2.out 0 0 0 3 (by rw [HD.out]; decide) (by decide) (by decide) (by decide) (by decide)
  rw [show addF ((0 : Int), (3 : Int)) [] = [(0, 3)] from by decide, show (0 : Int) + 1 = 1 from rfl] at ha
  have HA := Lib.hid ha
  clear ha
  go_upto_region 6 with (go_at_call 37; (with_reducible refine HA.out.mono ?_); rintro e w3 ⟨rfl, s3, h3, hb3⟩; (have H3 := Lib.hid h3; have HB3 := Lib.hid (HB2.out.trans hb3); clear h3 hb3))
  have HA4 := Lib.hid (again_has H3.out 1 3 1 3 (by rw [HD.out]; decide) (by decide))
  go_upto_region 7 with (go_at_call 37; (with_reducible refine HA4.out.mono ?_); rintro e w4 ⟨rfl, hb4⟩; (have H4 := Lib.hid (H3.out.later hb4); have HB4 := Lib.hid (HB3.out.trans (hb4.mono H3.out.hB)); clear hb4))
  have hse := sent_ok H4.out 1 2 1 2 (by rw [HD.out]; decide) (by decide)
  rw [show takeF ((1 : Int), (2 : Int)) [(0, 3)] = [(0, 1), (2, 3)] from by decide] at hse
  have HSE := Lib.hid hse
  clear hse
  go_upto_region 8 with (go_at_call 41; (with_reducible refine HSE.out.mono ?_); rintro e w5 ⟨rfl, o5, _, h5, hb5⟩; (have H5 := Lib.hid h5; have HB5 := Lib.hid (HB4.out.trans hb5); clear h5 hb5))
  have ha6 := again_new H5.out 1 2 1 2 (by rw [HD.out]; decide) (by decide) (by decide) (by decide) (by decide)
  rw [show addF ((1 : Int), (2 : Int)) [(0, 1), (2, 3)] = [(0, 3)] from by decide, show (1 : Int) + 1 = 2 from rfl] at ha6
  have HA6 := Lib.hid ha6
  clear ha6
  go_upto_region 9 with (go_at_call 37; (with_reducible refine HA6.out.mono ?_); rintro e w6 ⟨rfl, s6, h6, hb6⟩; (have H6 := Lib.hid h6; have HB6 := Lib.hid (HB5.out.trans hb6); clear h6 hb6))
  have HA7 := Lib.hid (again_none (n := 8) H6.out.sto (by decide) (by simp) 0 0)
  go_upto_region 10 with (go_at_call 37; (with_reducible refine HA7.out.mono ?_); rintro e w7 ⟨rfl, hb7⟩; (have H7 := Lib.hid (H6.out.later hb7); have HB7 := Lib.hid (HB6.out.trans (hb7.mono H6.out.hB)); clear hb7))
  have HBY := Lib.hid (sbytes_any H7.out (by decide) (by decide))
  rw [show countF [((0 : Int), (3 : Int))] = 3 from by decide] at HBY
  go_wp2_with (first
    | (go_at_call 38; (with_reducible refine HBY.out.mono ?_); rintro e w8 ⟨rfl, hb8⟩; (
        have H8 := Lib.hid (H7.out.later hb8)
        have HB8 := Lib.hid (HB7.out.trans (hb8.mono H7.out.hB))
        have HCN := Lib.hid (scount_any H8.out)
        have hba := bl_alloc (bl_alloc (Below.refl w8.heap.size w8) (.cells #[.int .u8 1] 5)) (.cells #[.slice (some ⟨w8.heap.size, 0, none⟩) 1 1] 42)
        have r1 : Row ((w8.alloc (.cells #[.int .u8 1] 5)).alloc (.cells #[.slice (some ⟨w8.heap.size, 0, none⟩) 1 1] 42)) w8.heap.size 5 #[.int .u8 1] := (Row.made w8 5 _).more _
        have r3 : Row ((w8.alloc (.cells #[.int .u8 1] 5)).alloc (.cells #[.slice (some ⟨w8.heap.size, 0, none⟩) 1 1] 42)) (w8.heap.size + 1) 42 #[.slice (some ⟨w8.heap.size, 0, none⟩) 1 1] := (by
          have h := Row.made (w8.alloc (.cells #[.int .u8 1] 5)) 42 #[.slice (some ⟨w8.heap.size, 0, none⟩) 1 1]
          rwa [show (w8.alloc (.cells #[.int .u8 1] 5)).heap.size = w8.heap.size + 1 by simp] at h)
        have H9 := Lib.hid (H8.out.later hba)
        have HPT := Lib.hid (sput_twice (L := f1 w8.heap.size) false false 0 7 0 1 1 H9.out.sto rfl (by decide) (f1_src r1 r3) (by show ∀ m ∈ [1], m ≤ 9223372036854775807; decide) (by show 0 < amdF false false 0 7 0 [1] 10; decide +kernel) (by decide) (by rw [if_pos rfl]))
        have HBX := Lib.hid (HB8.out.trans (hba.mono H8.out.hB))
        clear hb8 hba r1 r3))
    | (go_at_call 39; (with_reducible refine HCN.out.mono ?_); rintro e w9 ⟨rfl, rfl⟩)
    | (go_at_call 34; (with_reducible refine HPT.out.mono ?_); rintro e w10 ⟨rfl, hb⟩; (have HBZ := Lib.hid (HBX.out.trans (hb.mono H9.out.hB)); clear hb)))
  go_ret
  exact ⟨rfl, HBA.out.trans HBZ.out⟩
end
end Go.Proofs.Ytdaipfmckonfpaa
namespace Go.Proofs.Ytdaipfmckonfpaa
open Go.RowKit Go.Maps

section
set_option maxRecDepth 100000 in
set_option maxHeartbeats 25600000 in
theorem scounts_bad {A : Option Addr} {L : List RowB} (poll part last : Bool) (fi sn off fr tq rd : Int) (n cap : Nat) (W : World) (hL : L.length = n) (hn : n ≤ 9223372036854775807) (hs : RSrc W A L) (hm : ∀ m ∈ lens L, m ≤ 9223372036854775807) (hbad : part = true ∨ amdF false last fi sn off (lens L) 16 = 0) :
    Calls Try.prog 10 #[.agg #[.bool poll, .int .i64 fi, .int .i64 sn, .bool part, .bool last, .int .i64 off, .slice A n cap], .int .i64 fr, .int .i64 tq, .int .u8 rd] W fun e w' => e = .returned (.bool true) ∧ Below W.heap.size W w' := by
  have HA := Lib.hid alive19_any
  have hb0 := bl_alloc (Below.refl W.heap.size W) (.cells #[.bool poll, .int .i64 fi, .int .i64 sn, .bool part, .bool last, .int .i64 off, .slice A n cap] 61)
  have HB0 := Lib.hid hb0
  have HP0 := Lib.hid (Row.made W 61 #[.bool poll, .int .i64 fi, .int .i64 sn, .bool part, .bool last, .int .i64 off, .slice A n cap])
  have HG := Lib.hid (fun V (hb : Below W.heap.size W V) => great_any n cap V hL hn (hs.later hb) hm)
  have HN := Lib.hid (fun V => snew_any 16 V (.inr rfl))
  go_enter Try.func10, Try.ntmps10
  go_upto_region 2 with (go_at_call 32; (with_reducible refine (HN.out _).mono ?_); rintro e w1 ⟨rfl, hs1, hb⟩; (have HS1 := Lib.hid hs1; have HB1 := Lib.hid (bl_step HB0.out hb); have HP1 := Lib.hid (HP0.out.later hb); clear hs1 hb))
  have hput : Calls Try.prog 34 #[.pointer (some ⟨W.heap.size + 1 + 2, 0, none⟩), .agg #[.bool poll, .int .i64 fi, .int .i64 sn, .bool part, .bool last, .int .i64 off, .slice A n cap]] w1 fun e w' => e = .returned (.int .i64 3) ∧ Below w1.heap.size w1 w' := by
    have hst := HS1.out
    simp only [World.size_alloc] at hst
    cases part with
    | true => exact sput_part poll last fi sn off n cap hst
    | false => exact sput_bad poll last fi sn off n cap hst hL hn (hs.later HB1.out) hm (hbad.resolve_left (by simp))
  have HPUT := Lib.hid hput
  clear hput hbad hs hm
  obtain ⟨a0, a1, a2, a3, a4, a5, a6⟩ := scells7 HP1.out
  go_wp2_with (first
    | (go_at_call 33; (with_reducible refine (HG.out _ HB1.out).mono ?_); rintro e w2 ⟨⟨gb, rfl, _⟩, rfl⟩)
    | (go_at_call 34; (with_reducible refine HPUT.out.mono ?_); rintro e w3 ⟨rfl, hb⟩; (have HB3 := Lib.hid (bl_step HB1.out hb); clear hb))
    | (go_at_call 35; (with_reducible refine (HA.out _).mono ?_); rintro e w4 ⟨rfl, hb⟩; (have HB4 := Lib.hid hb; clear hb)))
  all_goals
    go_ret
    first
      | exact ⟨rfl, bl_step HB3.out HB4.out⟩
      | exact ⟨rfl, bl_step HB1.out HB4.out⟩
end
end Go.Proofs.Ytdaipfmckonfpaa
namespace Go.Proofs.Ytdaipfmckonfpaa
open Go.RowKit Go.Maps

section
theorem and7 (rd : Int) (h0 : 0 ≤ rd) (h1 : rd ≤ 255) : ∃ R : Nat, bits .and .u8 rd 7 = (R : Int) ∧ R ≤ 7 := by
  obtain ⟨n, rfl⟩ : ∃ n : Nat, rd = n := ⟨rd.toNat, by omega⟩
  refine ⟨n &&& 7, ?_, Nat.and_le_right⟩
  rw [show (7 : Int) = ((7 : Nat) : Int) from rfl, u8_and_nat _ _ (by omega) (by omega)]
theorem bstep {B : Nat} {w v u : World} (h : Below B w v) (hs : B ≤ v.heap.size) (k : Below v.heap.size v u) : Below B w u := h.trans (k.mono hs)
theorem count_one (a b : Int) : countF [(a, b)] = b - a := by rw [countF_cons, countF_nil]; simp
theorem has_none (x : Int × Int) : (hasF x [] && srightB x) = false := by simp [hasF]
theorem row_under {B g : Nat} {w v : World} {t : TypeId} {cs : Array Value} (h : Row w g t cs) (hb : Below B w v) (hg : g < B) : Row v g t cs := (hb.block g hg).trans h
theorem add_one (x : Int × Int) : addF x [] = [x] := rfl
theorem take_one (a b : Int) : takeF (a, b) [(a, b)] = [] := by
  unfold takeF takeY keepF
  simp
  constructor <;> omega
theorem has_one (a b c d : Int) (h1 : a ≤ c) (h2 : d ≤ b) (h3 : 0 ≤ c) (h4 : c < d) (h5 : d ≤ 65536) : (hasF (c, d) [(a, b)] && srightB (c, d)) = true := by
  have hr : srightB (c, d) = true := rightB_iff.2 ⟨h3, h5, h4⟩
  rw [hr, Bool.and_true]
  unfold hasF
  simp [h1, h2]
set_option maxRecDepth 100000 in
set_option maxHeartbeats 25600000 in
theorem scounts_ok {A : Option Addr} {L : List RowB} (poll last : Bool) (fi sn off fr tq t rd : Int) (n cap N : Nat) (W : World) (hL : L.length = n) (hn : n ≤ 9223372036854775807) (hs : RSrc W A L) (hm : ∀ m ∈ lens L, m ≤ 9223372036854775807) (hz : 0 < amdF false last fi sn off (lens L) 16) (hwf : (Lit.int .i64 sn).wf = true) (hN : (lens L).sum = N) (ht : (if tq = 0 ∨ (N : Int) < tq then (N : Int) else tq) = t) (hr0 : 0 ≤ rd) (hr1 : rd ≤ 255) (hf : 0 ≤ fr) (hft : fr < t) :
    Calls Try.prog 10 #[.agg #[.bool poll, .int .i64 fi, .int .i64 sn, .bool false, .bool last, .int .i64 off, .slice A n cap], .int .i64 fr, .int .i64 tq, .int .u8 rd] W fun e w' => e = .returned (.bool true) ∧ Below W.heap.size W w' := by
  have HA := Lib.hid alive19_any
  obtain ⟨h24, hm2, hs4, hs0, _, _⟩ := amd_facts hz
  have hb0 := bl_alloc (Below.refl W.heap.size W) (.cells #[.bool poll, .int .i64 fi, .int .i64 sn, .bool false, .bool last, .int .i64 off, .slice A n cap] 61)
  have HB0 := Lib.hid hb0
  have HP0 := Lib.hid (Row.made W 61 #[.bool poll, .int .i64 fi, .int .i64 sn, .bool false, .bool last, .int .i64 off, .slice A n cap])
  have HG := Lib.hid (fun V (hb : Below W.heap.size W V) => great_any n cap V hL hn (hs.later hb) hm)
  have HN := Lib.hid (fun V => snew_any 16 V (.inr rfl))
  have HDT := Lib.hid (fun V (hb : Below W.heap.size W V) => adata_len poll false last fi sn off n cap V hL hn (hs.later hb) (by omega))
  rw [hN] at HDT hs4 hs0
  have HT := Lib.hid ht
  have HX := Lib.hid (show someF N fr tq = some (fr, t) by rw [someF_is ht, if_neg (by omega)])
  have htN : t ≤ N := by rw [← ht]; split <;> omega
  have HX3 := Lib.hid (show someF N (t - 1) t = some (t - 1, t) by rw [someF_is (t := t) (by rw [if_neg (by omega)]), if_neg (by omega)])
  go_enter Try.func10, Try.ntmps10
  go_upto_region 2 with (go_at_call 32; (with_reducible refine (HN.out _).mono ?_); rintro e w1 ⟨rfl, hs1, hb⟩; (have HS1 := Lib.hid hs1; have HB1 := Lib.hid (bl_step HB0.out hb); have HP1 := Lib.hid (HP0.out.later hb); clear hs1 hb))
  have hst := HS1.out
  simp only [World.size_alloc] at hst
  have HPUT := Lib.hid (one_put (B := W.heap.size + 1) poll last fi sn off n cap hst (by have := HB1.out.size; have := HP1.out; have := (Array.getElem?_eq_some_iff.1 HP1.out).1; omega) (by omega) (by omega) hL (hs.later HB1.out) hz hwf)
  have HLN := Lib.hid (fun M (h : texts M = texts L) => show dataN M = N by unfold dataN; rw [lens_texts, h, ← lens_texts, hN])
  clear hst hs hm hm2 hz ht
  obtain ⟨a0, a1, a2, a3, a4, a5, a6⟩ := scells7 HP1.out
  go_upto_if 41 with (first
    | (go_at_call 33; (with_reducible refine (HG.out _ HB1.out).mono ?_); rintro e w2 ⟨⟨gb, rfl, _⟩, rfl⟩)
    | (go_at_call 34; (with_reducible refine HPUT.out.mono ?_); rintro e w3 ⟨rfl, g, M, htx, h3, hb⟩; (have HD := Lib.hid (HLN.out M htx); have H3 := Lib.hid h3; have HB3 := Lib.hid (HB1.out.trans (hb.mono (Nat.le_succ _))); have HP3 := Lib.hid (row_under HP1.out hb (Nat.lt_succ_self _)); clear htx h3 hb)))
  · go_wp2_with (go_at_call 35; (with_reducible refine (HA.out _).mono ?_); rintro e w4 ⟨rfl, hb⟩; (have HB4 := Lib.hid hb; clear hb))
    go_ret
    exact ⟨rfl, bl_step HB1.out HB4.out⟩
  · clear a0 a1 a2 a3 a4 a5 a6
    obtain ⟨a0, a1, a2, a3, a4, a5, a6⟩ := scells7 HP3.out
    go_upto_region 5 with (go_at_call 36; (with_reducible refine (HDT.out _ HB3.out).mono ?_); rintro e w4 ⟨A4, c4, rfl, _, hb⟩; (have H4 := Lib.hid (H3.out.later hb); have HB4 := Lib.hid (bl_step HB3.out hb); have HP4 := Lib.hid (HP3.out.later hb); clear hb a0 a1 a2 a3 a4 a5 a6))
    have hcase : (tq = 0 ∧ t = N) ∨ ((tq == 0) = false ∧ (N : Int) < tq ∧ t = N) ∨ ((tq == 0) = false ∧ ¬ (N : Int) < tq ∧ t = tq) := by
      have h := HT.out
      by_cases h1 : tq = 0
      · rw [if_pos (.inl h1)] at h; exact .inl ⟨h1, h.symm⟩
      · by_cases h2 : (N : Int) < tq
        · rw [if_pos (.inr h2)] at h; exact .inr (.inl ⟨by simpa using h1, h2, h.symm⟩)
        · rw [if_neg (by omega)] at h; exact .inr (.inr ⟨by simpa using h1, h2, h.symm⟩)
    have HC := Lib.hid hcase
    go_upto_region 6 with fail
    go_cut [61] (fun s61 wx => wx = w4 ∧ ((s61 = .bool true ∧ t = N) ∨ (s61 = .bool false ∧ t = tq)))
    case first =>
      rcases HC.out with ⟨q1, q2⟩ | ⟨q1, q2, q3⟩ | ⟨q1, q2, q3⟩
      · subst q1
        go_wp2
        go_meet
        exact ⟨rfl, .inl ⟨rfl, q2⟩⟩
      · go_wp2
        go_meet
        exact ⟨rfl, .inl ⟨rfl, q3⟩⟩
      · go_wp2
        go_meet
        exact ⟨rfl, .inr ⟨rfl, q3⟩⟩
    case rest =>
      obtain ⟨rfl, hs⟩ := hcut
      obtain ⟨R, hR, hR7⟩ := and7 rd hr0 hr1
      have HTQ := Lib.hid (show ¬ tq < 0 by
        rcases hs with ⟨_, q2⟩ | ⟨_, q2⟩
        · rcases HC.out with ⟨r1, r2⟩ | ⟨r1, r2, r3⟩ | ⟨r1, r2, r3⟩ <;> omega
        · omega)
      have hNb : (N : Int) ≤ 65536 := by omega
      rcases hs with ⟨q1, q2⟩ | ⟨q1, q2⟩
      · subst q1
        clear HC HT HPUT HDT HG HN HLN
        go_upto_region 8 with fail
        rw [← q2]
        clear q2
        have HXM := Lib.hid (show someF (dataN M) fr tq = some (fr, t) by rw [HD.out]; exact HX.out)
        have HX3M := Lib.hid (show someF (dataN M) (t - 1) t = some (t - 1, t) by rw [HD.out]; exact HX3.out)
        have hfT : fr < t := hft
        have hTN : t ≤ (N : Int) := htN
        have hN4 : (N : Int) ≤ 65536 := by omega
        have e1 : ¬ fr < 0 := by omega
        have e2 : ¬ tq < 0 := HTQ.out
        have e3 : ¬ t ≤ fr := by omega
        go_wp2
        go_loopw [13] (fun i wr => ∃ k : Nat, k ≤ R + 1 ∧ i = .int .i64 ((k : Int) + 1) ∧ Hid (OneR (W.heap.size + 1) wr (W.heap.size + 1 + 2) (W.heap.size + 1) (W.heap.size + 1 + 1) g 16 fi sn poll last off M k none []) ∧ Hid (Below (W.heap.size + 1) wc wr)) (fun i _ => R + 2 - (intOf i).toNat)
        case atStart => exact ⟨0, by omega, rfl, H4, Lib.hid (Below.refl _ _)⟩
        case round =>
          obtain ⟨k, hk, rfl, HO0, HB0k⟩ := hrel
          have a2 := (row_under HP4.out HB0k.out (Nat.lt_succ_self _)).read (i := 2) rfl
          by_cases hkR : k ≤ R
          · have hkI : (k : Int) + 1 ≤ 1 + (R : Int) := by omega
            have HA1 := Lib.hid (again_new HO0.out fr tq fr t HXM.out (has_none _) (by simp) (by omega) (by omega))
            rw [add_one] at HA1
            go_wp2_with (first
              | (go_at_call 37; (with_reducible refine HA1.out.mono ?_); rintro e v1 ⟨rfl, s1, ho1, hb1⟩; (have HO1 := Lib.hid ho1; have HB1k := Lib.hid (HB0k.out.trans hb1); have HA2 := Lib.hid (again_has ho1 fr tq fr t HXM.out (has_one fr t fr t (by omega) (by omega) (by omega) (by omega) (by omega))); clear ho1 hb1 HA1 a2; have a2 := (row_under HP4.out HB1k.out (Nat.lt_succ_self _)).read (i := 2) rfl))
              | (go_at_call 37; (with_reducible refine HA2.out.mono ?_); rintro e v2 ⟨rfl, hb2⟩; (have HO2 := Lib.hid (HO1.out.later hb2); have HB2k := Lib.hid (bstep HB1k.out HO1.out.hB hb2); have HA3 := Lib.hid (again_has (HO1.out.later hb2) (t - 1) t (t - 1) t HX3M.out (has_one fr t (t - 1) t (by omega) (by omega) (by omega) (by omega) (by omega))); clear hb2 HA2 a2; have a2 := (row_under HP4.out HB2k.out (Nat.lt_succ_self _)).read (i := 2) rfl))
              | (go_at_call 37; (with_reducible refine HA3.out.mono ?_); rintro e v3 ⟨rfl, hb3⟩; (have HO3 := Lib.hid (HO2.out.later hb3); have HB3k := Lib.hid (bstep HB2k.out HO2.out.hB hb3); have HD1 := Lib.hid (sdue_any (HO2.out.later hb3) (by simp)); clear hb3 HA3 a2; have a2 := (row_under HP4.out HB3k.out (Nat.lt_succ_self _)).read (i := 2) rfl))
              | (go_at_call 40; (with_reducible refine HD1.out.mono ?_); rintro e v4 ⟨AD, rfl, hrow, hb4⟩; obtain ⟨qd, rfl, hq⟩ := hrow (by simp); (have d0 := hq.read (i := 0) (x := .int .i64 fr) rfl; have d1 := hq.read (i := 1) (x := .int .i64 t) rfl; have HO4 := Lib.hid (HO3.out.later hb4); have HB4k := Lib.hid (bstep HB3k.out HO3.out.hB hb4); have HY1 := Lib.hid (sbytes_any (HO3.out.later hb4) (by simp) (by rw [count_one]; omega)); rw [count_one] at HY1; clear hb4 HD1 a2 hrow hq; have a2 := (row_under HP4.out HB4k.out (Nat.lt_succ_self _)).read (i := 2) rfl))
              | (go_at_call 38; (with_reducible refine HY1.out.mono ?_); rintro e v5 ⟨rfl, hb5⟩; (have HB5k := Lib.hid (bstep HB4k.out HO4.out.hB hb5); have HS5 := Lib.hid (sent_ok (HO4.out.later hb5) fr tq fr t HXM.out (by simp)); rw [take_one] at HS5; clear hb5 HY1 a2 d0 d1; have a2 := (row_under HP4.out HB5k.out (Nat.lt_succ_self _)).read (i := 2) rfl))
              | (go_at_call 41; (with_reducible refine HS5.out.mono ?_); rintro e v6 ⟨rfl, o6, hn6, ho6, hb6⟩; obtain rfl : o6 = none := (by first | exact hn6 rfl | exact hn6 trivial); (have HO6 := Lib.hid ho6; have HB6k := Lib.hid (HB5k.out.trans hb6); have HY2 := Lib.hid (sbytes_any ho6 (by simp) (by rw [countF_nil]; omega)); rw [countF_nil] at HY2; clear ho6 hb6 hn6 HS5 a2; have a2 := (row_under HP4.out HB6k.out (Nat.lt_succ_self _)).read (i := 2) rfl))
              | (go_at_call 38; (with_reducible refine HY2.out.mono ?_); rintro e v7 ⟨rfl, hb7⟩; (have HO7 := Lib.hid (HO6.out.later hb7); have HB7k := Lib.hid (bstep HB6k.out HO6.out.hB hb7); have HD2 := Lib.hid (sdue_any (HO6.out.later hb7) (by simp)); clear hb7 HY2 a2; have a2 := (row_under HP4.out HB7k.out (Nat.lt_succ_self _)).read (i := 2) rfl))
              | (go_at_call 40; (with_reducible refine HD2.out.mono ?_); rintro e v8 ⟨AE, rfl, hrow8, hb8⟩; (have HO8 := Lib.hid (HO7.out.later hb8); have HB8k := Lib.hid (bstep HB7k.out HO7.out.hB hb8); have HC8 := Lib.hid (scount_any (HO7.out.later hb8)); clear hb8 HD2 a2 hrow8; have a2 := (row_under HP4.out HB8k.out (Nat.lt_succ_self _)).read (i := 2) rfl))
              | (go_at_call 39; (with_reducible refine HC8.out.mono ?_); rintro e v9 ⟨rfl, rfl⟩))
            go_roundw
            case rel => exact ⟨k + 1, by omega, by go_num, HO8, HB8k⟩
            case measure => simp [intOf]; omega
          · have hkI : ¬ (k : Int) + 1 ≤ 1 + (R : Int) := by omega
            go_wp2_with (first
              | (go_at_call 35; (with_reducible refine (HA.out _).mono ?_); rintro e v1 ⟨rfl, hb1⟩; (have HO1 := Lib.hid (HO0.out.later hb1); have HB1k := Lib.hid (bstep HB0k.out HO0.out.hB hb1); have HR1 := Lib.hid (sdrop_ok (HO0.out.later hb1)); have HWF := Lib.hid HO1.out.wf; clear hb1 a2; have a2 := (row_under HP4.out HB1k.out (Nat.lt_succ_self _)).read (i := 2) rfl))
              | (go_at_call 42; (with_reducible refine HR1.out.mono ?_); rintro e v2 ⟨rfl, hs2, hb2⟩; (have HB2k := Lib.hid (HB1k.out.trans hb2); have HR2 := Lib.hid (sdrop_none hs2 HWF.out rfl); clear hs2 hb2 HR1 a2; have a2 := (row_under HP4.out HB2k.out (Nat.lt_succ_self _)).read (i := 2) rfl))
              | (go_at_call 42; (with_reducible refine HR2.out.mono ?_); rintro e v3 ⟨rfl, rfl⟩))
            go_ret
            exact ⟨rfl, HB4.out.trans (HB2k.out.mono (Nat.le_succ _))⟩
      · subst q1 q2
        clear HC HT HPUT HDT HG HN HLN
        go_upto_region 8 with fail
        have HXM := Lib.hid (show someF (dataN M) fr t = some (fr, t) by rw [HD.out]; exact HX.out)
        have HX3M := Lib.hid (show someF (dataN M) (t - 1) t = some (t - 1, t) by rw [HD.out]; exact HX3.out)
        have hfT : fr < t := hft
        have hTN : t ≤ (N : Int) := htN
        have hN4 : (N : Int) ≤ 65536 := by omega
        have e1 : ¬ fr < 0 := by omega
        have e2 : ¬ t < 0 := HTQ.out
        have e3 : ¬ t ≤ fr := by omega
        go_wp2
        go_loopw [13] (fun i wr => ∃ k : Nat, k ≤ R + 1 ∧ i = .int .i64 ((k : Int) + 1) ∧ Hid (OneR (W.heap.size + 1) wr (W.heap.size + 1 + 2) (W.heap.size + 1) (W.heap.size + 1 + 1) g 16 fi sn poll last off M k none []) ∧ Hid (Below (W.heap.size + 1) wc wr)) (fun i _ => R + 2 - (intOf i).toNat)
        case atStart => exact ⟨0, by omega, rfl, H4, Lib.hid (Below.refl _ _)⟩
        case round =>
          obtain ⟨k, hk, rfl, HO0, HB0k⟩ := hrel
          have a2 := (row_under HP4.out HB0k.out (Nat.lt_succ_self _)).read (i := 2) rfl
          by_cases hkR : k ≤ R
          · have hkI : (k : Int) + 1 ≤ 1 + (R : Int) := by omega
            have HA1 := Lib.hid (again_new HO0.out fr t fr t HXM.out (has_none _) (by simp) (by omega) (by omega))
            rw [add_one] at HA1
            go_wp2_with (first
              | (go_at_call 37; (with_reducible refine HA1.out.mono ?_); rintro e v1 ⟨rfl, s1, ho1, hb1⟩; (have HO1 := Lib.hid ho1; have HB1k := Lib.hid (HB0k.out.trans hb1); have HA2 := Lib.hid (again_has ho1 fr t fr t HXM.out (has_one fr t fr t (by omega) (by omega) (by omega) (by omega) (by omega))); clear ho1 hb1 HA1 a2; have a2 := (row_under HP4.out HB1k.out (Nat.lt_succ_self _)).read (i := 2) rfl))
              | (go_at_call 37; (with_reducible refine HA2.out.mono ?_); rintro e v2 ⟨rfl, hb2⟩; (have HO2 := Lib.hid (HO1.out.later hb2); have HB2k := Lib.hid (bstep HB1k.out HO1.out.hB hb2); have HA3 := Lib.hid (again_has (HO1.out.later hb2) (t - 1) t (t - 1) t HX3M.out (has_one fr t (t - 1) t (by omega) (by omega) (by omega) (by omega) (by omega))); clear hb2 HA2 a2; have a2 := (row_under HP4.out HB2k.out (Nat.lt_succ_self _)).read (i := 2) rfl))
              | (go_at_call 37; (with_reducible refine HA3.out.mono ?_); rintro e v3 ⟨rfl, hb3⟩; (have HO3 := Lib.hid (HO2.out.later hb3); have HB3k := Lib.hid (bstep HB2k.out HO2.out.hB hb3); have HD1 := Lib.hid (sdue_any (HO2.out.later hb3) (by simp)); clear hb3 HA3 a2; have a2 := (row_under HP4.out HB3k.out (Nat.lt_succ_self _)).read (i := 2) rfl))
              | (go_at_call 40; (with_reducible refine HD1.out.mono ?_); rintro e v4 ⟨AD, rfl, hrow, hb4⟩; obtain ⟨qd, rfl, hq⟩ := hrow (by simp); (have d0 := hq.read (i := 0) (x := .int .i64 fr) rfl; have d1 := hq.read (i := 1) (x := .int .i64 t) rfl; have HO4 := Lib.hid (HO3.out.later hb4); have HB4k := Lib.hid (bstep HB3k.out HO3.out.hB hb4); have HY1 := Lib.hid (sbytes_any (HO3.out.later hb4) (by simp) (by rw [count_one]; omega)); rw [count_one] at HY1; clear hb4 HD1 a2 hrow hq; have a2 := (row_under HP4.out HB4k.out (Nat.lt_succ_self _)).read (i := 2) rfl))
              | (go_at_call 38; (with_reducible refine HY1.out.mono ?_); rintro e v5 ⟨rfl, hb5⟩; (have HB5k := Lib.hid (bstep HB4k.out HO4.out.hB hb5); have HS5 := Lib.hid (sent_ok (HO4.out.later hb5) fr t fr t HXM.out (by simp)); rw [take_one] at HS5; clear hb5 HY1 a2 d0 d1; have a2 := (row_under HP4.out HB5k.out (Nat.lt_succ_self _)).read (i := 2) rfl))
              | (go_at_call 41; (with_reducible refine HS5.out.mono ?_); rintro e v6 ⟨rfl, o6, hn6, ho6, hb6⟩; obtain rfl : o6 = none := (by first | exact hn6 rfl | exact hn6 trivial); (have HO6 := Lib.hid ho6; have HB6k := Lib.hid (HB5k.out.trans hb6); have HY2 := Lib.hid (sbytes_any ho6 (by simp) (by rw [countF_nil]; omega)); rw [countF_nil] at HY2; clear ho6 hb6 hn6 HS5 a2; have a2 := (row_under HP4.out HB6k.out (Nat.lt_succ_self _)).read (i := 2) rfl))
              | (go_at_call 38; (with_reducible refine HY2.out.mono ?_); rintro e v7 ⟨rfl, hb7⟩; (have HO7 := Lib.hid (HO6.out.later hb7); have HB7k := Lib.hid (bstep HB6k.out HO6.out.hB hb7); have HD2 := Lib.hid (sdue_any (HO6.out.later hb7) (by simp)); clear hb7 HY2 a2; have a2 := (row_under HP4.out HB7k.out (Nat.lt_succ_self _)).read (i := 2) rfl))
              | (go_at_call 40; (with_reducible refine HD2.out.mono ?_); rintro e v8 ⟨AE, rfl, hrow8, hb8⟩; (have HO8 := Lib.hid (HO7.out.later hb8); have HB8k := Lib.hid (bstep HB7k.out HO7.out.hB hb8); have HC8 := Lib.hid (scount_any (HO7.out.later hb8)); clear hb8 HD2 a2 hrow8; have a2 := (row_under HP4.out HB8k.out (Nat.lt_succ_self _)).read (i := 2) rfl))
              | (go_at_call 39; (with_reducible refine HC8.out.mono ?_); rintro e v9 ⟨rfl, rfl⟩))
            go_roundw
            case rel => exact ⟨k + 1, by omega, by go_num, HO8, HB8k⟩
            case measure => simp [intOf]; omega
          · have hkI : ¬ (k : Int) + 1 ≤ 1 + (R : Int) := by omega
            go_wp2_with (first
              | (go_at_call 35; (with_reducible refine (HA.out _).mono ?_); rintro e v1 ⟨rfl, hb1⟩; (have HO1 := Lib.hid (HO0.out.later hb1); have HB1k := Lib.hid (bstep HB0k.out HO0.out.hB hb1); have HR1 := Lib.hid (sdrop_ok (HO0.out.later hb1)); have HWF := Lib.hid HO1.out.wf; clear hb1 a2; have a2 := (row_under HP4.out HB1k.out (Nat.lt_succ_self _)).read (i := 2) rfl))
              | (go_at_call 42; (with_reducible refine HR1.out.mono ?_); rintro e v2 ⟨rfl, hs2, hb2⟩; (have HB2k := Lib.hid (HB1k.out.trans hb2); have HR2 := Lib.hid (sdrop_none hs2 HWF.out rfl); clear hs2 hb2 HR1 a2; have a2 := (row_under HP4.out HB2k.out (Nat.lt_succ_self _)).read (i := 2) rfl))
              | (go_at_call 42; (with_reducible refine HR2.out.mono ?_); rintro e v3 ⟨rfl, rfl⟩))
            go_ret
            exact ⟨rfl, HB4.out.trans (HB2k.out.mono (Nat.le_succ _))⟩
end
end Go.Proofs.Ytdaipfmckonfpaa
namespace Go.Proofs.Ytdaipfmckonfpaa
open Go.RowKit Go.Maps

section
set_option maxRecDepth 100000 in
set_option maxHeartbeats 25600000 in
theorem scounts_none {A : Option Addr} {L : List RowB} (poll last : Bool) (fi sn off fr tq t rd : Int) (n cap N : Nat) (W : World) (hL : L.length = n) (hn : n ≤ 9223372036854775807) (hs : RSrc W A L) (hm : ∀ m ∈ lens L, m ≤ 9223372036854775807) (hz : 0 < amdF false last fi sn off (lens L) 16) (hwf : (Lit.int .i64 sn).wf = true) (hN : (lens L).sum = N) (ht : (if tq = 0 ∨ (N : Int) < tq then (N : Int) else tq) = t) (hr0 : 0 ≤ rd) (hr1 : rd ≤ 255) (hno : fr < 0 ∨ t ≤ fr) :
    Calls Try.prog 10 #[.agg #[.bool poll, .int .i64 fi, .int .i64 sn, .bool false, .bool last, .int .i64 off, .slice A n cap], .int .i64 fr, .int .i64 tq, .int .u8 rd] W fun e w' => e = .returned (.bool true) ∧ Below W.heap.size W w' := by
  have HA := Lib.hid alive19_any
  obtain ⟨h24, hm2, hs4, hs0, _, _⟩ := amd_facts hz
  have hb0 := bl_alloc (Below.refl W.heap.size W) (.cells #[.bool poll, .int .i64 fi, .int .i64 sn, .bool false, .bool last, .int .i64 off, .slice A n cap] 61)
  have HB0 := Lib.hid hb0
  have HP0 := Lib.hid (Row.made W 61 #[.bool poll, .int .i64 fi, .int .i64 sn, .bool false, .bool last, .int .i64 off, .slice A n cap])
  have HG := Lib.hid (fun V (hb : Below W.heap.size W V) => great_any n cap V hL hn (hs.later hb) hm)
  have HN := Lib.hid (fun V => snew_any 16 V (.inr rfl))
  have HDT := Lib.hid (fun V (hb : Below W.heap.size W V) => adata_len poll false last fi sn off n cap V hL hn (hs.later hb) (by omega))
  rw [hN] at HDT hs4 hs0
  have HT := Lib.hid ht
  have HX := Lib.hid (show someF N fr tq = none by rw [someF_is ht, if_pos hno])
  go_enter Try.func10, Try.ntmps10
  go_upto_region 2 with (go_at_call 32; (with_reducible refine (HN.out _).mono ?_); rintro e w1 ⟨rfl, hs1, hb⟩; (have HS1 := Lib.hid hs1; have HB1 := Lib.hid (bl_step HB0.out hb); have HP1 := Lib.hid (HP0.out.later hb); clear hs1 hb))
  have hst := HS1.out
  simp only [World.size_alloc] at hst
  have HPUT := Lib.hid (one_put (B := W.heap.size + 1) poll last fi sn off n cap hst (by have := HB1.out.size; have := HP1.out; have := (Array.getElem?_eq_some_iff.1 HP1.out).1; omega) (by omega) (by omega) hL (hs.later HB1.out) hz hwf)
  have HLN := Lib.hid (fun M (h : texts M = texts L) => show dataN M = N by unfold dataN; rw [lens_texts, h, ← lens_texts, hN])
  clear hst hs hm hm2 hz ht
  obtain ⟨a0, a1, a2, a3, a4, a5, a6⟩ := scells7 HP1.out
  go_upto_if 41 with (first
    | (go_at_call 33; (with_reducible refine (HG.out _ HB1.out).mono ?_); rintro e w2 ⟨⟨gb, rfl, _⟩, rfl⟩)
    | (go_at_call 34; (with_reducible refine HPUT.out.mono ?_); rintro e w3 ⟨rfl, g, M, htx, h3, hb⟩; (have HD := Lib.hid (HLN.out M htx); have H3 := Lib.hid h3; have HB3 := Lib.hid (HB1.out.trans (hb.mono (Nat.le_succ _))); have HP3 := Lib.hid (row_under HP1.out hb (Nat.lt_succ_self _)); clear htx h3 hb)))
  · go_wp2_with (go_at_call 35; (with_reducible refine (HA.out _).mono ?_); rintro e w4 ⟨rfl, hb⟩; (have HB4 := Lib.hid hb; clear hb))
    go_ret
    exact ⟨rfl, bl_step HB1.out HB4.out⟩
  · clear a0 a1 a2 a3 a4 a5 a6
    obtain ⟨a0, a1, a2, a3, a4, a5, a6⟩ := scells7 HP3.out
    go_upto_region 5 with (go_at_call 36; (with_reducible refine (HDT.out _ HB3.out).mono ?_); rintro e w4 ⟨A4, c4, rfl, _, hb⟩; (have H4 := Lib.hid (H3.out.later hb); have HB4 := Lib.hid (bl_step HB3.out hb); have HP4 := Lib.hid (HP3.out.later hb); clear hb a0 a1 a2 a3 a4 a5 a6))
    have hcase : (tq = 0 ∧ t = N) ∨ ((tq == 0) = false ∧ (N : Int) < tq ∧ t = N) ∨ ((tq == 0) = false ∧ ¬ (N : Int) < tq ∧ t = tq) := by
      have h := HT.out
      by_cases h1 : tq = 0
      · rw [if_pos (.inl h1)] at h; exact .inl ⟨h1, h.symm⟩
      · by_cases h2 : (N : Int) < tq
        · rw [if_pos (.inr h2)] at h; exact .inr (.inl ⟨by simpa using h1, h2, h.symm⟩)
        · rw [if_neg (by omega)] at h; exact .inr (.inr ⟨by simpa using h1, h2, h.symm⟩)
    have HC := Lib.hid hcase
    go_upto_region 6 with fail
    go_cut [61] (fun s61 wx => wx = w4 ∧ ((s61 = .bool true ∧ t = N) ∨ (s61 = .bool false ∧ t = tq)))
    case first =>
      rcases HC.out with ⟨q1, q2⟩ | ⟨q1, q2, q3⟩ | ⟨q1, q2, q3⟩
      · subst q1
        go_wp2
        go_meet
        exact ⟨rfl, .inl ⟨rfl, q2⟩⟩
      · go_wp2
        go_meet
        exact ⟨rfl, .inl ⟨rfl, q3⟩⟩
      · go_wp2
        go_meet
        exact ⟨rfl, .inr ⟨rfl, q3⟩⟩
    case rest =>
      obtain ⟨rfl, hs⟩ := hcut
      obtain ⟨R, hR, hR7⟩ := and7 rd hr0 hr1
      have HTQ := Lib.hid (show tq < 0 → (fr < 0 ∨ t ≤ fr) from fun _ => hno)
      rcases hs with ⟨q1, q2⟩ | ⟨q1, q2⟩
      · subst q1
        clear HC HT HPUT HDT HG HN HLN
        go_upto_region 8 with fail
        rw [← q2]
        clear q2
        have HXM := Lib.hid (show someF (dataN M) fr tq = none by rw [HD.out]; exact HX.out)
        go_wp2
        go_loopw [13] (fun i wr => i = .int .i64 1 ∧ wc = wr) (fun i _ => 0)
        case atStart => exact ⟨rfl, rfl⟩
        case round =>
          obtain ⟨rfl, rfl⟩ := hrel
          have a2 := HP4.out.read (i := 2) rfl
          have hkI : (1 : Int) ≤ 1 + (R : Int) := by omega
          have HA1 := Lib.hid (again_bad H4.out fr tq HXM.out)
          by_cases g1 : fr < 0
          · go_wp2_with (first
              | (go_at_call 37; (with_reducible refine HA1.out.mono ?_); rintro e v1 ⟨rfl, hb1⟩; (have HO1 := Lib.hid (H4.out.later hb1); have HB1k := Lib.hid (bl_step HB4.out hb1); have HP1k := Lib.hid (HP4.out.later hb1); clear HA1 hb1))
              | (go_at_call 35; (with_reducible refine (HA.out _).mono ?_); rintro e v2 ⟨rfl, hb2⟩; (have HO2 := Lib.hid (HO1.out.later hb2); have HB2k := Lib.hid (bl_step HB1k.out hb2); have HY2 := Lib.hid (sbytes_any (HO1.out.later hb2) (by simp) (by rw [countF_nil]; omega)); rw [countF_nil] at HY2; have HP2 := Lib.hid (HP1k.out.later hb2); clear hb2))
              | (go_at_call 38; (with_reducible refine HY2.out.mono ?_); rintro e v3 ⟨rfl, hb3⟩; (have HB3k := Lib.hid (bl_step HB2k.out hb3); have HC3 := Lib.hid (scount_any (HO2.out.later hb3)); have a2 := (HP2.out.later hb3).read (i := 2) rfl; clear hb3))
              | (go_at_call 39; (with_reducible refine HC3.out.mono ?_); rintro e v4 ⟨rfl, rfl⟩))
            go_ret
            exact ⟨rfl, HB3k.out⟩
          · by_cases g2 : tq < 0
            · go_wp2_with (first
                | (go_at_call 37; (with_reducible refine HA1.out.mono ?_); rintro e v1 ⟨rfl, hb1⟩; (have HO1 := Lib.hid (H4.out.later hb1); have HB1k := Lib.hid (bl_step HB4.out hb1); have HP1k := Lib.hid (HP4.out.later hb1); clear HA1 hb1))
                | (go_at_call 35; (with_reducible refine (HA.out _).mono ?_); rintro e v2 ⟨rfl, hb2⟩; (have HO2 := Lib.hid (HO1.out.later hb2); have HB2k := Lib.hid (bl_step HB1k.out hb2); have HY2 := Lib.hid (sbytes_any (HO1.out.later hb2) (by simp) (by rw [countF_nil]; omega)); rw [countF_nil] at HY2; have HP2 := Lib.hid (HP1k.out.later hb2); clear hb2))
                | (go_at_call 38; (with_reducible refine HY2.out.mono ?_); rintro e v3 ⟨rfl, hb3⟩; (have HB3k := Lib.hid (bl_step HB2k.out hb3); have HC3 := Lib.hid (scount_any (HO2.out.later hb3)); have a2 := (HP2.out.later hb3).read (i := 2) rfl; clear hb3))
                | (go_at_call 39; (with_reducible refine HC3.out.mono ?_); rintro e v4 ⟨rfl, rfl⟩))
              go_ret
              exact ⟨rfl, HB3k.out⟩
            · have g3 : t ≤ fr := by omega
              go_wp2_with (first
                | (go_at_call 37; (with_reducible refine HA1.out.mono ?_); rintro e v1 ⟨rfl, hb1⟩; (have HO1 := Lib.hid (H4.out.later hb1); have HB1k := Lib.hid (bl_step HB4.out hb1); have HP1k := Lib.hid (HP4.out.later hb1); clear HA1 hb1))
                | (go_at_call 35; (with_reducible refine (HA.out _).mono ?_); rintro e v2 ⟨rfl, hb2⟩; (have HO2 := Lib.hid (HO1.out.later hb2); have HB2k := Lib.hid (bl_step HB1k.out hb2); have HY2 := Lib.hid (sbytes_any (HO1.out.later hb2) (by simp) (by rw [countF_nil]; omega)); rw [countF_nil] at HY2; have HP2 := Lib.hid (HP1k.out.later hb2); clear hb2))
                | (go_at_call 38; (with_reducible refine HY2.out.mono ?_); rintro e v3 ⟨rfl, hb3⟩; (have HB3k := Lib.hid (bl_step HB2k.out hb3); have HC3 := Lib.hid (scount_any (HO2.out.later hb3)); have a2 := (HP2.out.later hb3).read (i := 2) rfl; clear hb3))
                | (go_at_call 39; (with_reducible refine HC3.out.mono ?_); rintro e v4 ⟨rfl, rfl⟩))
              go_ret
              exact ⟨rfl, HB3k.out⟩
      · subst q1 q2
        clear HC HT HPUT HDT HG HN HLN
        go_upto_region 8 with fail
        have HXM := Lib.hid (show someF (dataN M) fr t = none by rw [HD.out]; exact HX.out)
        go_wp2
        go_loopw [13] (fun i wr => i = .int .i64 1 ∧ wc = wr) (fun i _ => 0)
        case atStart => exact ⟨rfl, rfl⟩
        case round =>
          obtain ⟨rfl, rfl⟩ := hrel
          have a2 := HP4.out.read (i := 2) rfl
          have hkI : (1 : Int) ≤ 1 + (R : Int) := by omega
          have HA1 := Lib.hid (again_bad H4.out fr t HXM.out)
          by_cases g1 : fr < 0
          · go_wp2_with (first
              | (go_at_call 37; (with_reducible refine HA1.out.mono ?_); rintro e v1 ⟨rfl, hb1⟩; (have HO1 := Lib.hid (H4.out.later hb1); have HB1k := Lib.hid (bl_step HB4.out hb1); have HP1k := Lib.hid (HP4.out.later hb1); clear HA1 hb1))
              | (go_at_call 35; (with_reducible refine (HA.out _).mono ?_); rintro e v2 ⟨rfl, hb2⟩; (have HO2 := Lib.hid (HO1.out.later hb2); have HB2k := Lib.hid (bl_step HB1k.out hb2); have HY2 := Lib.hid (sbytes_any (HO1.out.later hb2) (by simp) (by rw [countF_nil]; omega)); rw [countF_nil] at HY2; have HP2 := Lib.hid (HP1k.out.later hb2); clear hb2))
              | (go_at_call 38; (with_reducible refine HY2.out.mono ?_); rintro e v3 ⟨rfl, hb3⟩; (have HB3k := Lib.hid (bl_step HB2k.out hb3); have HC3 := Lib.hid (scount_any (HO2.out.later hb3)); have a2 := (HP2.out.later hb3).read (i := 2) rfl; clear hb3))
              | (go_at_call 39; (with_reducible refine HC3.out.mono ?_); rintro e v4 ⟨rfl, rfl⟩))
            go_ret
            exact ⟨rfl, HB3k.out⟩
          · by_cases g2 : t < 0
            · go_wp2_with (first
                | (go_at_call 37; (with_reducible refine HA1.out.mono ?_); rintro e v1 ⟨rfl, hb1⟩; (have HO1 := Lib.hid (H4.out.later hb1); have HB1k := Lib.hid (bl_step HB4.out hb1); have HP1k := Lib.hid (HP4.out.later hb1); clear HA1 hb1))
                | (go_at_call 35; (with_reducible refine (HA.out _).mono ?_); rintro e v2 ⟨rfl, hb2⟩; (have HO2 := Lib.hid (HO1.out.later hb2); have HB2k := Lib.hid (bl_step HB1k.out hb2); have HY2 := Lib.hid (sbytes_any (HO1.out.later hb2) (by simp) (by rw [countF_nil]; omega)); rw [countF_nil] at HY2; have HP2 := Lib.hid (HP1k.out.later hb2); clear hb2))
                | (go_at_call 38; (with_reducible refine HY2.out.mono ?_); rintro e v3 ⟨rfl, hb3⟩; (have HB3k := Lib.hid (bl_step HB2k.out hb3); have HC3 := Lib.hid (scount_any (HO2.out.later hb3)); have a2 := (HP2.out.later hb3).read (i := 2) rfl; clear hb3))
                | (go_at_call 39; (with_reducible refine HC3.out.mono ?_); rintro e v4 ⟨rfl, rfl⟩))
              go_ret
              exact ⟨rfl, HB3k.out⟩
            · have g3 : t ≤ fr := by omega
              go_wp2_with (first
                | (go_at_call 37; (with_reducible refine HA1.out.mono ?_); rintro e v1 ⟨rfl, hb1⟩; (have HO1 := Lib.hid (H4.out.later hb1); have HB1k := Lib.hid (bl_step HB4.out hb1); have HP1k := Lib.hid (HP4.out.later hb1); clear HA1 hb1))
                | (go_at_call 35; (with_reducible refine (HA.out _).mono ?_); rintro e v2 ⟨rfl, hb2⟩; (have HO2 := Lib.hid (HO1.out.later hb2); have HB2k := Lib.hid (bl_step HB1k.out hb2); have HY2 := Lib.hid (sbytes_any (HO1.out.later hb2) (by simp) (by rw [countF_nil]; omega)); rw [countF_nil] at HY2; have HP2 := Lib.hid (HP1k.out.later hb2); clear hb2))
                | (go_at_call 38; (with_reducible refine HY2.out.mono ?_); rintro e v3 ⟨rfl, hb3⟩; (have HB3k := Lib.hid (bl_step HB2k.out hb3); have HC3 := Lib.hid (scount_any (HO2.out.later hb3)); have a2 := (HP2.out.later hb3).read (i := 2) rfl; clear hb3))
                | (go_at_call 39; (with_reducible refine HC3.out.mono ?_); rintro e v4 ⟨rfl, rfl⟩))
              go_ret
              exact ⟨rfl, HB3k.out⟩

theorem okn_range {sn : Int} (h : okn 16 sn = true) : 0 ≤ sn ∧ sn < 65536 := by
  have e : sz 16 = 65536 := by
    unfold sz
    rw [if_pos (by decide)]
    rfl
  unfold okn at h
  rw [e] at h
  exact of_decide_eq_true h
theorem scounts_every {A : Option Addr} {L : List RowB} {n : Nat} (poll part last : Bool) (fi sn off fr tq rd : Int) (cap : Nat) (W : World) (hL : L.length = n) (hn : n ≤ 9223372036854775807) (hs : RSrc W A L) (hm : ∀ m ∈ lens L, m ≤ 9223372036854775807) (hr0 : 0 ≤ rd) (hr1 : rd ≤ 255) :
    Calls Try.prog 10 #[.agg #[.bool poll, .int .i64 fi, .int .i64 sn, .bool part, .bool last, .int .i64 off, .slice A n cap], .int .i64 fr, .int .i64 tq, .int .u8 rd] W fun e w' => e = .returned (.bool true) ∧ Below W.heap.size W w' := by
  by_cases hp : part = true
  · exact scounts_bad poll part last fi sn off fr tq rd n cap W hL hn hs hm (.inl hp)
  · obtain rfl : part = false := by simpa using hp
    by_cases hz : amdF false last fi sn off (lens L) 16 = 0
    · exact scounts_bad poll false last fi sn off fr tq rd n cap W hL hn hs hm (.inr hz)
    · have hz' : 0 < amdF false last fi sn off (lens L) 16 := by have := amdF_nonneg false last fi sn off (lens L) 16; omega
      have hwf : (Lit.int .i64 sn).wf = true := by
        have h := (amd_facts hz').2.2.2.2.1
        have h' := okn_range h
        exact WalkArith.wf_i64 (by omega)
      by_cases h : 0 ≤ fr ∧ fr < (if tq = 0 ∨ (((lens L).sum : Nat) : Int) < tq then (((lens L).sum : Nat) : Int) else tq)
      · exact scounts_ok poll last fi sn off fr tq _ rd n cap _ W hL hn hs hm hz' hwf rfl rfl hr0 hr1 h.1 h.2
      · exact scounts_none poll last fi sn off fr tq _ rd n cap _ W hL hn hs hm hz' hwf rfl rfl hr0 hr1 (by omega)
end
end Go.Proofs.Ytdaipfmckonfpaa
