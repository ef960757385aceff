/-
  mux: parts that are too much for a statement; parts as the document's. mux: whether parts are equal, as the document says. mux: parts go there and back, in one way alone. A law's row follows from its walk: the call returns true, and below the heap's old size the world is as it was; then every argument reads as it did. How the packets and bytes that a statement draws read. How parts that a statement draws read.
-/
import Derived.Test.YtdaipfmckonfpaaJMuxBack05
import Derived.Test.YtdaipfmckonfpaaJMuxBack02
import Derived.Test.YtdaipfmckonfpaaJMuxBack03
import Derived.StillTailTactics
import Derived.Test.YtdaipfmckonfpaaRows
import Derived.WalkKit
import Derived.ProofKit
import Derived.OpenShut
import Derived.SizedLaws
import Derived.Deep.Matrix
import Derived.Lib.SmallJoins
import Derived.Test.YtdaipfmckonfpaaJMuxBack01
import Derived.Deep.Slices
import Derived.Deep.SlicePairs
namespace Go.Proofs.Ytdaipfmckonfpaa
open Go.RowKit

def greatM (L : List PartM) : Bool := decide (40 < L.length) || L.any (fun m => decide (2100 < m.r.bs.length)) || decide (9000 < (plens L).sum)
set_option maxRecDepth 100000 in
set_option maxHeartbeats 800000 in
theorem mgreat_long {A : Option Addr} (n cap : Nat) (w : World) (hn : 40 < n) (hn9 : n ≤ 9223372036854775807) :
    Calls Try.prog 23 #[.slice A n cap] w fun e w' => e = .returned (.bool true) ∧ w = w' := by
  have h1 : (40 : Int) < n := by omega
  have h2 : (0 : Int) < n := by omega
  go_enter Try.func23, Try.ntmps23
  go_wp2
  go_loopw [3, 4] (fun t i wr => t = .int .i64 0 ∧ i = .int .i64 0 ∧ w = wr) (fun _ i _ => 0)
  case atStart => exact ⟨rfl, rfl, rfl⟩
  case round =>
    obtain ⟨rfl, rfl, rfl⟩ := hrel
    go_wp2
    go_ret
    exact ⟨rfl, rfl⟩
set_option maxRecDepth 100000 in
set_option maxHeartbeats 1600000 in
theorem mgreat_short {A : Option Addr} {L : List PartM} (n cap : Nat) (w : World) (hL : L.length = n) (hn : n ≤ 40) (hs : XSrc w A L) :
    Calls Try.prog 23 #[.slice A n cap] w fun e w' => e = .returned (.bool (L.any (fun m => decide (2100 < m.r.bs.length)) || decide (9000 < (plens L).sum))) ∧ w = w' := by
  have HS := Lib.hid hs
  have HL := Lib.hid hL
  have hn' : ¬ (40 : Int) < n := by omega
  clear hs hL
  go_enter Try.func23, Try.ntmps23
  go_wp2
  go_loopw [3, 4] (fun s i wr => ∃ k t : Nat, k ≤ n ∧ i = .int .i64 k ∧ s = .int .i64 t ∧ t ≤ 2100 * k ∧ Hid (t = (plens (L.take k)).sum) ∧ Hid (L.any (fun m => decide (2100 < m.r.bs.length)) = (L.drop k).any (fun m => decide (2100 < m.r.bs.length))) ∧ w = wr) (fun _ i _ => n - (intOf i).toNat)
  case atStart => exact ⟨0, 0, by omega, rfl, rfl, by omega, Lib.hid rfl, Lib.hid rfl, rfl⟩
  case round =>
    obtain ⟨k, t, hk, rfl, rfl, ht, HK, HA, rfl⟩ := hrel
    by_cases hlt : k < n
    · obtain ⟨ab, ao, rfl, hc⟩ := HS.out (by rw [HL.out]; omega)
      obtain ⟨⟨id, ⟨RA, rcap, bs⟩⟩, hr⟩ : ∃ r, L[k]? = some r := ⟨_, List.getElem?_eq_getElem (by rw [HL.out]; exact hlt)⟩
      obtain ⟨f0, f1, e2⟩ := hc k _ hr
      simp only [RowB.v] at f0 f1
      have HT := Lib.hid (plens_take hr)
      have HD := Lib.hid (show L.drop k = ⟨id, ⟨RA, rcap, bs⟩⟩ :: L.drop (k + 1) by
        obtain ⟨h1, h2⟩ := List.getElem?_eq_some_iff.1 hr
        rw [List.drop_eq_getElem_cons h1, h2])
      simp only at HT
      have hkI : (k : Int) < (n : Int) := by omega
      clear hc hr e2
      by_cases hb : 2100 < bs.length
      · have hbI : (2100 : Int) < (bs.length : Int) := by omega
        have HF := Lib.hid (show (L.any (fun m => decide (2100 < m.r.bs.length)) || decide (9000 < (plens L).sum)) = true by
          rw [HA.out, HD.out, List.any_cons, decide_eq_true hb]; rfl)
        go_wp2
        go_ret
        exact ⟨by rw [HF.out]; rfl, rfl⟩
      · have hbI : ¬ (2100 : Int) < (bs.length : Int) := by omega
        have HF := Lib.hid (show L.any (fun m => decide (2100 < m.r.bs.length)) = (L.drop (k + 1)).any (fun m => decide (2100 < m.r.bs.length)) by
          rw [HA.out, HD.out, List.any_cons, decide_eq_false hb, Bool.false_or])
        go_wp2
        go_roundw
        case rel => exact ⟨k + 1, t + bs.length, by omega, by go_num, by go_num, by omega, Lib.hid (by rw [HT.out, HK.out]; simp), HF, trivial⟩
        case measure => simp [intOf]; omega
    · have hkn : k = n := by omega
      subst hkn
      have HF := Lib.hid (show (L.any (fun m => decide (2100 < m.r.bs.length)) || decide (9000 < (plens L).sum)) = decide (9000 < t) by
        rw [HA.out, List.drop_of_length_le (by rw [HL.out]; exact Nat.le_refl _), HK.out, List.take_of_length_le (by rw [HL.out]; exact Nat.le_refl _)]; rfl)
      by_cases h9 : 9000 < t
      · have h9I : (9000 : Int) < (t : Int) := by omega
        go_wp2
        go_ret
        exact ⟨by rw [HF.out, decide_eq_true h9]; rfl, rfl⟩
      · have h9I : ¬ (9000 : Int) < (t : Int) := by omega
        go_wp2
        go_ret
        exact ⟨by rw [HF.out, decide_eq_false h9]; rfl, rfl⟩
theorem mgreat_any {A : Option Addr} {L : List PartM} (n cap : Nat) (w : World) (hL : L.length = n) (hn9 : n ≤ 9223372036854775807) (hs : XSrc w A L) :
    Calls Try.prog 23 #[.slice A n cap] w fun e w' => e = .returned (.bool (greatM L)) ∧ w = w' := by
  unfold greatM
  rw [hL]
  by_cases h : 40 < n
  · rw [decide_eq_true h]
    exact mgreat_long n cap w h hn9
  · rw [decide_eq_false h, Bool.false_or]
    exact mgreat_short n cap w hL (by omega) hs
theorem great_no {L : List PartM} (h : greatM L = false) : L.length ≤ 40 ∧ (∀ m ∈ L, m.r.bs.length ≤ 2100) ∧ (plens L).sum ≤ 9000 := by
  unfold greatM at h
  simp only [Bool.or_eq_false_iff, decide_eq_false_iff_not, List.any_eq_false, decide_eq_true_eq] at h
  exact ⟨by omega, fun m hm => by have := h.1.2 m hm; omega, by omega⟩
theorem Try.infoxparts : (Try.prog.info? 123).map (fun i => (i.zero, i.size, i.bytes)) = some (some (.agg #[.int .i64 0, .slice none 0 0]), 2, 32) := by kernel_rfl
theorem Try.underxparts : Try.prog.underlying 46 = some (.slice 123) := by kernel_rfl
theorem own_xsrc2 {B j c : Nat} {v : World} {A : Option Addr} {L : List PartM} (h : v.ownsRow B 123 2 (.slice A j c) j (pcells L)) (hok : ∀ m ∈ L, m.r.ok v) : XSrc v A L := by
  intro h0
  rcases h.2 with ⟨h1, h2⟩ | ⟨g, cap, cur, h1, h2, h3, h4, h5, h6, h7⟩
  · exfalso
    have h3 := h.1
    rw [h2] at h3
    have h4 : (pcells L).length = 2 * L.length := by
      clear h h0 hok h3
      induction L with
      | nil => rfl
      | cons a L ih => rw [show a :: L = [a] ++ L from rfl]; simp [pcells] at ih ⊢; omega
    omega
  · injection h1 with hA _ _
    refine ⟨g, 0, hA, fun k m hm => ?_⟩
    obtain ⟨h8, h9⟩ := pcells_at hm
    have hrd : ∀ (i : Nat) (u : Value), (pcells L)[i]? = some u → v.cell? ⟨g, i, none⟩ = some u := fun i u hu => by
      refine Row.read (t := 123) (cs := cur) h3 ?_
      rw [← h7, List.getElem?_take] at hu
      split at hu
      · simpa using hu
      · cases hu
    rw [Nat.zero_add]
    exact ⟨hrd _ _ h8, hrd _ _ h9, hok m (List.mem_of_getElem? hm)⟩
theorem new_two (w : World) (t : TypeId) (a b : Value) : ∀ j u, [a, b][j]? = some u → (w.alloc (.cells #[a, b] t)).cell? ((⟨w.heap.size, 0, none⟩ : Addr).add j) = some u := fun j u hu => by
  match j, hu with
  | 0, hu =>
    simp only [List.getElem?_cons_zero, Option.some.injEq] at hu
    subst hu
    rw [add_zero_o]
    exact (Row.made w t #[a, b]).read rfl
  | 1, hu =>
    simp only [List.getElem?_cons_succ, List.getElem?_cons_zero, Option.some.injEq] at hu
    subst hu
    rw [add_zero_o]
    exact (Row.made w t #[a, b]).read rfl
  | j + 2, hu => simp at hu
theorem two_one (a : Int) (A : Option Addr) (n c : Nat) : ∀ u ∈ [Value.int .i64 a, .slice A n c], u.oneCell' = true := by
  intro u hu
  simp at hu
  rcases hu with rfl | rfl <;> rfl
theorem own_shp {m E s n : Nat} {w : World} {x : Value} {xs : List Value} (h : w.ownsRow m E s x n xs) : ∃ A c, x = .slice A n c ∧ n ≤ c := by
  rcases h.2 with ⟨rfl, rfl⟩ | ⟨g, cap, cur, rfl, _, _, h1, _⟩
  · exact ⟨none, 0, rfl, Nat.le_refl _⟩
  · exact ⟨_, cap, rfl, h1⟩
set_option maxRecDepth 100000 in
set_option maxHeartbeats 3200000 in
theorem mas_any {A : Option Addr} {L : List PartM} (n c : Nat) (w : World) (hL : L.length = n) (hn : n ≤ 1000) (hs : XSrc w A L) :
    Calls Try.prog 27 #[.slice A n c] w fun e w' => ∃ A' c', e = .returned (.slice A' n c') ∧ n ≤ c' ∧ XSrc w' A' L ∧ Below w.heap.size w w' := by
  obtain ⟨i0, hi, hi0, hi1, hi2⟩ := info_parts Try.infoxparts
  have HS := Lib.hid hs
  have HN := Lib.hid hL
  clear hs hL
  go_enter Try.func27, Try.ntmps27
  go_wp2
  go_loopw [3, 4] (fun x i wr => ∃ k : Nat, k ≤ n ∧ i = .int .i64 k ∧ Hid (wr.ownsRow w.heap.size 123 2 x k (pcells (L.take k))) ∧ Hid (Below w.heap.size w wr)) (fun _ i _ => n - (intOf i).toNat)
  case atStart => exact ⟨0, by omega, rfl, Lib.hid (World.ownsRow_nil _ _ _ _), Lib.hid (Below.refl _ _)⟩
  case round =>
    obtain ⟨k, hk, rfl, HO, HB⟩ := hrel
    obtain ⟨Ax, cx, rfl, hkc⟩ := own_shp HO.out
    by_cases hkn : k < n
    · have hkn' : (k : Int) < n := by omega
      have hk0 : (0 : Int) ≤ k := by omega
      obtain ⟨ab, ao, rfl, hc⟩ := HS.out (by rw [HN.out]; omega)
      obtain ⟨⟨id, ⟨RA, rcap, bs⟩⟩, hr⟩ : ∃ r, L[k]? = some r := ⟨_, List.getElem?_eq_getElem (by rw [HN.out]; exact hkn)⟩
      obtain ⟨e0, e1, e2⟩ := hc k _ hr
      have u0 := cell_below HB.out e0
      have u1 := cell_below HB.out e1
      simp only [RowB.v] at u0 u1
      have HT := Lib.hid (show pcells (L.take (k + 1)) = pcells (L.take k) ++ [.int .i64 id, .slice RA bs.length rcap] by
        rw [List.take_add_one, hr, Option.toList_some, pcells_snoc]; rfl)
      have HK := Lib.hid hkn
      clear hr hc e0 e1 e2
      go_wp2
      go_region_law ((refine step_append_lies _ rfl (.tmp 11) (.tmp 23) 46 rfl w.heap.size 123 i0 (.agg #[.int .i64 0, .slice none 0 0]) 2 32 Try.underxparts hi hi0 hi1 hi2 rfl (by omega) (.slice Ax k cx) k (pcells (L.take k)) (by simp [Act.eval]) (World.ownsRow.alloc (w := wr.drew) HO.out _) ⟨wr.heap.size, 0, none⟩ 1 1 [.int .i64 id, .slice RA bs.length rcap] (by simp [Act.eval]) rfl (new_two _ _ _ _) (two_one _ _ _ _) (by omega) (by unfold maxLen; omega) (by omega) (by have := HB.out.size; simp; omega) _ rfl ?_); intro g3 c3 w3 hown3 hgrow3 hg3 hlt3)
      all_goals
        have HO3 := Lib.hid (show w3.ownsRow w.heap.size 123 2 (.slice (Option.some ⟨g3, 0, none⟩) (k + 1) c3) (k + 1) (pcells (L.take (k + 1))) from by
          rw [HT.out]
          exact hown3)
        have HB3 := Lib.hid ((bl_step HB.out (bl_drew (bl_alloc (Below.refl _ _) (.cells #[.int .i64 id, .slice RA bs.length rcap] 123)))).grown hgrow3 (by have := HB.out.size; simp; omega) (fun r hr => (own_block HO.out r hr).1))
        clear hown3 hgrow3 hg3
        go_wp2
        go_roundw
        case rel => exact ⟨k + 1, HK.out, by go_num, HO3, HB3⟩
        case measure => have := HK.out; simp [intOf]; omega
    · have hkn' : ¬ (k : Int) < n := by omega
      obtain rfl : k = n := by omega
      have HX := Lib.hid (show XSrc wr Ax L by
        have h := HO.out
        rw [List.take_of_length_le (by rw [HN.out]; exact Nat.le_refl _)] at h
        exact own_xsrc2 h (fun m hm => (HS.out.ok m hm).later HB.out))
      go_wp2
      go_ret
      exact ⟨_, _, rfl, hkc, HX.out, HB.out⟩
end Go.Proofs.Ytdaipfmckonfpaa
namespace Go.Proofs.Ytdaipfmckonfpaa
open Go.RowKit

set_option maxRecDepth 100000 in
set_option maxHeartbeats 3200000 in
theorem rsame30_any {A B : Option Addr} {L M : List PartM} (n m cap capb : Nat) (w : World) (hL : L.length = n) (hM : M.length = m) (hn : n ≤ 9223372036854775807) (hs : XSrc w A L) (hs' : XSrc w B M) :
    Calls Try.prog 30 #[.slice A n cap, .slice B m capb] w (SameAns (decide (pks L = pks M)) w) := by
  by_cases h : n = m
  · subst h
    have HS := Lib.hid hs
    have HS2 := Lib.hid hs'
    have HL := Lib.hid hL
    have HM := Lib.hid hM
    have hnn : ((n : Int) != (n : Int)) = false := by simp
    clear hs hs' hL hM
    go_enter Try.func30, Try.ntmps30
    go_wp2
    go_loopw [5] (fun i wr => ∃ k : Nat, k ≤ n ∧ i = .int .i64 k ∧ Hid (∀ j, j < k → (pks L)[j]? = (pks M)[j]?) ∧ Hid (Below w.heap.size w wr)) (fun i _ => n - (intOf i).toNat)
    case atStart => exact ⟨0, by omega, rfl, Lib.hid (fun j hj => by omega), Lib.hid (Below.refl _ _)⟩
    case round =>
      obtain ⟨k, hk, rfl, HK, HB⟩ := hrel
      by_cases hlt : k < n
      · obtain ⟨ab, ao, rfl, hc⟩ := HS.out (by rw [HL.out]; omega)
        obtain ⟨bb, bo, rfl, hc'⟩ := HS2.out (by rw [HM.out]; omega)
        obtain ⟨⟨i1, r⟩, hr⟩ : ∃ r, L[k]? = some r := ⟨_, List.getElem?_eq_getElem (by rw [HL.out]; exact hlt)⟩
        obtain ⟨⟨i2, r'⟩, hr'⟩ : ∃ r, M[k]? = some r := ⟨_, List.getElem?_eq_getElem (by rw [HM.out]; exact hlt)⟩
        have c1 := cell_below HB.out (hc k _ hr).1
        have c2 : wr.cell? ⟨ab, ao + k * 2 + 1, none⟩ = some (.slice r.A r.bs.length r.cap) := cell_below HB.out (hc k _ hr).2.1
        have c3 := cell_below HB.out (hc' k _ hr').1
        have c4 : wr.cell? ⟨bb, bo + k * 2 + 1, none⟩ = some (.slice r'.A r'.bs.length r'.cap) := cell_below HB.out (hc' k _ hr').2.1
        simp only at c1 c3
        have ho := (hc k _ hr).2.2.later HB.out
        have ho' := (hc' k _ hr').2.2.later HB.out
        simp only at ho ho'
        have d1 := fun q => conv_src r.bs.length r.cap rfl (src_later ho.1 (below_drewN (Below.refl _ _) q)) ho.2.2.2
        have d2 := fun q => conv_src r'.bs.length r'.cap rfl (src_later ho'.1 (below_drewN (Below.refl _ _) q)) ho'.2.2.2
        have hq := strOf_beq ho.2.2.2 ho'.2.2.2
        have hstep : i1 = i2 ∧ r.bs = r'.bs → ∀ j, j < k + 1 → (pks L)[j]? = (pks M)[j]? := fun he j hj => by
          rcases Nat.lt_or_ge j k with h2 | h2
          · exact HK.out j h2
          · obtain rfl : j = k := by omega
            rw [pks_at hr, pks_at hr']
            simp only [pk, he.1, he.2]
        have hdiff : ¬ (i1 = i2 ∧ r.bs = r'.bs) → pks L ≠ pks M := fun hd he => hd (by
          have h3 := pks_at hr
          rw [he, pks_at hr'] at h3
          injection h3 with h3
          simp only [pk, Prod.mk.injEq] at h3
          exact ⟨h3.1.symm, h3.2.symm⟩)
        have HST := Lib.hid hstep
        have HDF := Lib.hid hdiff
        have hkI : (k : Int) < (n : Int) := by omega
        have hk0 : (0 : Int) ≤ (k : Int) := by omega
        clear hc hc' hr hr' ho ho' hstep hdiff
        by_cases hi : i1 = i2
        · have hiI : (i1 != i2) = false := by simp [hi]
          by_cases he : r.bs = r'.bs
          · have HE := Lib.hid (And.intro hi he)
            rw [decide_eq_true he] at hq
            have hq2 : ((strOf r.bs).toList != (strOf r'.bs).toList) = false := by rw [bne, hq]; rfl
            clear he hi
            generalize r.bs.length = n1 at *
            generalize r'.bs.length = n2 at *
            generalize strOf r.bs = s1 at *
            generalize strOf r'.bs = s2 at *
            go_wp2_with fail
            go_quiet (fail)
            rename_i nq
            have HBD := Lib.hid (below_drewN HB.out nq)
            go_wp2_with fail
            go_roundw
            case rel => exact ⟨k + 1, by omega, by go_num, Lib.hid (HST.out HE.out), HBD⟩
            case measure => simp [intOf]; omega
          · have HE := Lib.hid (show ¬ (i1 = i2 ∧ r.bs = r'.bs) from fun h => he h.2)
            rw [decide_eq_false he] at hq
            have hq2 : ((strOf r.bs).toList != (strOf r'.bs).toList) = true := by rw [bne, hq]; rfl
            clear he hi
            generalize r.bs.length = n1 at *
            generalize r'.bs.length = n2 at *
            generalize strOf r.bs = s1 at *
            generalize strOf r'.bs = s2 at *
            go_wp2_with fail
            go_quiet (fail)
            rename_i nq
            have HBD := Lib.hid (below_drewN HB.out nq)
            go_wp2_with fail
            go_ret
            exact ⟨by rw [decide_eq_false (HDF.out HE.out)]; rfl, HBD.out⟩
        · have hiI : (i1 != i2) = true := by simp [hi]
          have HE := Lib.hid (show ¬ (i1 = i2 ∧ r.bs = r'.bs) from fun h => hi h.1)
          clear hq hi d1 d2
          go_wp2_with fail
          go_quiet (fail)
          rename_i nq
          have HBD := Lib.hid (below_drewN HB.out nq)
          go_wp2_with fail
          go_ret
          exact ⟨by rw [decide_eq_false (HDF.out HE.out)]; rfl, HBD.out⟩
      · have hkn : k = n := by omega
        have HA := Lib.hid (show pks L = pks M from List.ext_getElem? fun j => by
          rcases Nat.lt_or_ge j k with h2 | h2
          · exact HK.out j h2
          · rw [List.getElem?_eq_none (by rw [length_pks, HL.out]; omega), List.getElem?_eq_none (by rw [length_pks, HM.out]; omega)])
        clear hkn
        go_wp2
        go_ret
        exact ⟨by rw [decide_eq_true HA.out]; rfl, HB.out⟩
  · have HF := Lib.hid (show decide (pks L = pks M) = false from decide_eq_false fun h1 => h (by have := congrArg List.length h1; rw [length_pks, length_pks] at this; omega))
    have hnm : ((n : Int) != (m : Int)) = true := by simp; omega
    clear hL hM hs hs' h
    go_enter Try.func30, Try.ntmps30
    go_wp2
    go_ret
    exact ⟨by rw [HF.out]; rfl, Below.refl _ _⟩
end Go.Proofs.Ytdaipfmckonfpaa
namespace Go.Proofs.Ytdaipfmckonfpaa
open Go.RowKit

set_option maxRecDepth 100000 in
set_option maxHeartbeats 3200000 in
theorem mback_great {A B : Option Addr} {L : List PartM} (n cap m cb : Nat) (w : World) (hL : L.length = n) (hn9 : n ≤ 9223372036854775807) (hs : XSrc w A L) (hm9 : m ≤ 9223372036854775807) (hg : greatM L = true ∨ (greatM L = false ∧ 4200 < m)) :
    Calls Try.prog 7 #[.slice A n cap, .slice B m cb] w fun e w' => e = .returned (.bool true) ∧ Below w.heap.size w w' := by
  have HG := Lib.hid (mgreat_any n cap w hL hn9 hs)
  have HA := Lib.hid malive_any
  clear hs hL
  rcases hg with hg | ⟨hg, hm⟩
  · rw [hg] at HG
    go_enter Try.func7, Try.ntmps7
    go_wp2_with (first
      | (go_at_call 23; (with_reducible refine HG.out.mono ?_); rintro e w1 ⟨rfl, rfl⟩)
      | (go_at_call 24; (with_reducible refine (HA.out _).mono ?_); rintro e w1 ⟨rfl, hb1⟩))
    go_ret
    exact ⟨rfl, hb1⟩
  · rw [hg] at HG
    have hmI : (4200 : Int) < m := by omega
    go_enter Try.func7, Try.ntmps7
    go_wp2_with (first
      | (go_at_call 23; (with_reducible refine HG.out.mono ?_); rintro e w1 ⟨rfl, rfl⟩)
      | (go_at_call 24; (with_reducible refine (HA.out _).mono ?_); rintro e w1 ⟨rfl, hb1⟩))
    go_ret
    exact ⟨rfl, hb1⟩
theorem readB_no {l : List Nat} (h : (readB l).2 ≠ 0) : (readB l).1 = [] := by
  unfold readB clear0 at *
  split at h
  · rw [if_pos ‹_›]
  · rw [if_neg ‹_›]
    split at h
    · rw [if_pos ‹_›]
    · rw [if_neg ‹_›]
      split at h
      · rw [if_pos ‹_›]
        split at h
        · exact absurd ‹_› h
        · rw [if_neg ‹_›]
      · rw [if_neg ‹_›]
set_option maxRecDepth 100000 in
set_option maxHeartbeats 6400000 in
theorem mback_small {A B : Option Addr} {L : List PartM} {l : List Nat} (n cap m cb : Nat) (w : World) (hL : L.length = n) (hs : XSrc w A L) (hl : l.length = m) (hm : m ≤ 4200) (hmc : m ≤ cb) (hb : ∀ b ∈ l, b < 256) (hsl : Src w B (bts l)) (hg : greatM L = false) :
    Calls Try.prog 7 #[.slice A n cap, .slice B m cb] w fun e w' => e = .returned (.bool true) ∧ Below w.heap.size w w' := by
  obtain ⟨q1, q2, q3⟩ := great_no hg
  have hn : n ≤ 40 := by omega
  have hd : ∀ m ∈ L, m.r.bs.length ≤ 100000 := fun m hm => by have := q2 m hm; omega
  have hby : ∀ m ∈ L, ∀ b ∈ m.r.bs, b < 256 := fun m hm => (hs.ok m hm).2.2.2
  have HG := Lib.hid (mgreat_any n cap w hL (by omega) hs)
  rw [hg] at HG
  have HA := Lib.hid malive_any
  have HRD := Lib.hid (fun W (hb2 : Below w.heap.size w W) => mread_any m cb W hl hmc (src_later hsl hb2) hb)
  have HWN := Lib.hid (fun W (hb2 : Below w.heap.size w W) hf => mwrite_no n cap W hL (by omega) (hs.later hb2) hd hf)
  have HWO := Lib.hid (fun W (hb2 : Below w.heap.size w W) hf => mwrite_ok n (psum (plens L)) cap W hL (hs.later hb2) hf rfl)
  have HAS := Lib.hid (fun W (hb2 : Below w.heap.size w W) => mas_any n cap W hL (by omega) (hs.later hb2))
  have HSZ := Lib.hid (fun W (hb2 : Below w.heap.size w W) => mSize_any n cap W hL (by omega) (hs.later hb2) hd)
  have HSL := Lib.hid hsl
  have HS := Lib.hid hs
  have HL := Lib.hid hL
  have HBY := Lib.hid hby
  have HB := Lib.hid hb
  have HLL := Lib.hid hl
  have hmI : ¬ (4200 : Int) < m := by omega
  clear hs hL q1 q2 q3 hd hby hsl hb hl hg
  have HFB : (readB l).2 = 0 → Hid (∀ L7 : List PartM, L7.map rkey = (readB l).1 → (∀ m ∈ L7, 0 ≤ m.id) → faultM L7 = 0 ∧ closed (wb L7) = l) := fun h0 => Lib.hid fun L7 h1 h2 =>
    mwrite_read (K := (readB l).1) (by rw [← h0]) HB.out h1 h2
  have HFN : (readB l).2 ≠ 0 → Hid (∀ L7 : List PartM, L7.map rkey = (readB l).1 → (∀ m ∈ L7, 0 ≤ m.id) → faultM L7 = 0 ∧ True) := fun h0 => Lib.hid fun L7 h1 _ => by
    rw [readB_no h0] at h1
    obtain rfl : L7 = [] := by simpa using h1
    exact ⟨rfl, trivial⟩
  by_cases hf : faultM L = 0
  · have HF := Lib.hid hf
    have HGP := Lib.hid (good_part hf).2.2
    have hrw := mread_write hf HBY.out
    have HPK := Lib.hid (fun (L2 : List PartM) (h1 : L2.map rkey = L.map rkey) (h2 : ∀ m ∈ L2, 0 ≤ m.id) => show pks L = pks L2 from (rkey_pks h1 h2 (fun m hm => by have := HGP.out m hm; omega)).symm)
    have HR2 := Lib.hid (fun (W : World) g (h : Row W g 5 (bts (closed (wb L))).toArray) => show Calls Try.prog 31 #[.slice (some ⟨g, 0, none⟩) (psum (plens L) + 2 : Nat) (psum (plens L) + 2 : Nat)] W fun e w' => ∃ A2 j2 L2, e = .returned (.tuple #[.slice A2 j2 j2, .int .i64 0]) ∧ L2.length = j2 ∧ L2.map rkey = L.map rkey ∧ (∀ m ∈ L2, 0 ≤ m.id) ∧ XSrc w' A2 L2 ∧ Below W.heap.size W w' by
      have h1 := mread_any (l := closed (wb L)) (psum (plens L) + 2) (psum (plens L) + 2) W (by rw [length_closed, length_wb]) (Nat.le_refl _) (row_src h) (closed_lt (wb_lt HF.out HBY.out))
      rw [hrw] at h1
      exact h1)
    have hsz : sizeM L = psum (plens L) + 2 := by unfold sizeM; rw [if_pos hf]; omega
    rw [hsz] at HSZ
    have hLm : (L.map rkey).length ≤ 40 := by rw [List.length_map, HL.out]; omega
    have HLM := Lib.hid hLm
    clear hrw hsz hf hLm HWN
    generalize psum (plens L) = N at *
    by_cases h0 : (readB l).2 = 0
    · have HFC := HFB h0
      clear HFN HFB
      have HRD := Lib.hid (fun W (hb2 : Below w.heap.size w W) => show Calls Try.prog 31 #[.slice B m cb] W fun e w' => ∃ A7 j7 L7, e = .returned (.tuple #[.slice A7 j7 j7, .int .i64 0]) ∧ L7.length = j7 ∧ L7.map rkey = (readB l).1 ∧ (∀ m ∈ L7, 0 ≤ m.id) ∧ XSrc w' A7 L7 ∧ Below W.heap.size W w' by
        have h1 := HRD.out W hb2
        unfold ReadDone at h1
        rw [h0] at h1
        exact h1)
      go_enter Try.func7, Try.ntmps7
      go_wp2_with (first
        | (go_at_call 23; (with_reducible refine HG.out.mono ?_); rintro e w0 ⟨rfl, rfl⟩)
        | (go_at_call 25; (with_reducible refine (HWO.out _ (Below.refl _ _) HF.out).mono ?_); rintro e w1 ⟨g1, rfl, hg1, hr1, hb1⟩; (have HR1 := Lib.hid hr1; have HB1 := Lib.hid hb1; clear hr1 hb1 HG))
        | (go_at_call 31; (with_reducible refine (HR2.out _ _ HR1.out).mono ?_); rintro e w2 ⟨A2, j2, L2, rfl, hj2, hx2⟩; (have HX2 := Lib.hid hx2; have HJ2 := Lib.hid hj2; have HB2 := Lib.hid (bl_step HB1.out hx2.2.2.2); have HX2j := Lib.hid (show j2 ≤ 1000 from by have h1 := congrArg List.length hx2.1; rw [List.length_map, List.length_map, HL.out] at h1; omega); clear hx2 hj2))
        | (go_at_call 27; (with_reducible refine (HAS.out _ HB2.out).mono ?_); rintro e w3 ⟨A3, c3, rfl, hc3, hx3, hb3⟩; (have HB3 := Lib.hid (bl_step HB2.out hb3); have HX3 := Lib.hid hx3; have HA4 := Lib.hid (mas_any j2 j2 w3 HJ2.out HX2j.out (HX2.out.2.2.1.later hb3)); clear hb3 hx3))
        | (go_at_call 27; (with_reducible refine HA4.out.mono ?_); rintro e w4 ⟨A4, c4, rfl, hc4, hx4, hb4⟩; (have HB4 := Lib.hid (bl_step HB3.out hb4); have HSM := Lib.hid (rsame30_any n j2 c3 c4 w4 HL.out HJ2.out (by omega) (HX3.out.later hb4) hx4); rw [decide_eq_true (HPK.out L2 HX2.out.1 HX2.out.2.1)] at HSM; clear hb4 hx4 HA4))
        | (go_at_call 30; (with_reducible refine HSM.out.mono ?_); rintro e w5 ⟨rfl, hb5⟩; (have HB5 := Lib.hid (bl_step HB4.out hb5); clear hb5 HSM))
        | (go_at_call 28; (with_reducible refine (HSZ.out _ HB5.out).mono ?_); rintro e w6 ⟨rfl, hb6⟩; (have HB6 := Lib.hid (bl_step HB5.out hb6); clear hb6))
        | (go_at_call 31; (with_reducible refine (HRD.out _ HB6.out).mono ?_); rintro e w7 ⟨A7, j7, L7, rfl, hj7, hm7, hi7, hx7, hb7⟩; (have HB7 := Lib.hid (bl_step HB6.out hb7); have HF7 := Lib.hid (HFC.out L7 hm7 hi7); have HW7 := Lib.hid (mwrite_ok j7 (psum (plens L7)) j7 w7 hj7 hx7 HF7.out.1 rfl); clear hb7 hx7 hm7 hi7 hj7))
        | (go_at_call 25; (with_reducible refine HW7.out.mono ?_); rintro e w8 ⟨g8, rfl, hg8, hr8, hb8⟩; (have HR8 := Lib.hid hr8; have HB8 := Lib.hid (bl_step HB7.out hb8); clear hr8 hb8 HW7))
        | (go_at_call 24; (with_reducible refine (HA.out _).mono ?_); rintro e w9 ⟨rfl, hb9⟩; (have HB9 := Lib.hid (bl_step HB8.out hb9); have cv1 := conv_src (psum (plens L7) + 2) (psum (plens L7) + 2) (by rw [length_closed, length_wb]) (row_src (HR8.out.later hb9)) (by rw [HF7.out.2]; exact HB.out); rw [HF7.out.2] at cv1; have cv2 := conv_src m cb HLL.out (src_later HSL.out HB9.out) HB.out; clear hb9; generalize strOf l = sl at cv1 cv2)))
      go_ret
      exact ⟨rfl, HB9.out⟩
    · have HFC := HFN h0
      clear HFN HFB
      have hfb : ((readB l).2 != 0) = true := by simpa using h0
      have HRD := Lib.hid (fun W (hb2 : Below w.heap.size w W) => show Calls Try.prog 31 #[.slice B m cb] W fun e w' => ∃ A7 j7 L7, e = .returned (.tuple #[.slice A7 j7 j7, .int .i64 (readB l).2]) ∧ L7.length = j7 ∧ L7.map rkey = (readB l).1 ∧ (∀ m ∈ L7, 0 ≤ m.id) ∧ XSrc w' A7 L7 ∧ Below W.heap.size W w' from HRD.out W hb2)
      clear h0
      generalize (readB l).2 = fb at *
      go_enter Try.func7, Try.ntmps7
      go_wp2_with (first
        | (go_at_call 23; (with_reducible refine HG.out.mono ?_); rintro e w0 ⟨rfl, rfl⟩)
        | (go_at_call 25; (with_reducible refine (HWO.out _ (Below.refl _ _) HF.out).mono ?_); rintro e w1 ⟨g1, rfl, hg1, hr1, hb1⟩; (have HR1 := Lib.hid hr1; have HB1 := Lib.hid hb1; clear hr1 hb1 HG))
        | (go_at_call 31; (with_reducible refine (HR2.out _ _ HR1.out).mono ?_); rintro e w2 ⟨A2, j2, L2, rfl, hj2, hx2⟩; (have HX2 := Lib.hid hx2; have HJ2 := Lib.hid hj2; have HB2 := Lib.hid (bl_step HB1.out hx2.2.2.2); have HX2j := Lib.hid (show j2 ≤ 1000 from by have h1 := congrArg List.length hx2.1; rw [List.length_map, List.length_map, HL.out] at h1; omega); clear hx2 hj2))
        | (go_at_call 27; (with_reducible refine (HAS.out _ HB2.out).mono ?_); rintro e w3 ⟨A3, c3, rfl, hc3, hx3, hb3⟩; (have HB3 := Lib.hid (bl_step HB2.out hb3); have HX3 := Lib.hid hx3; have HA4 := Lib.hid (mas_any j2 j2 w3 HJ2.out HX2j.out (HX2.out.2.2.1.later hb3)); clear hb3 hx3))
        | (go_at_call 27; (with_reducible refine HA4.out.mono ?_); rintro e w4 ⟨A4, c4, rfl, hc4, hx4, hb4⟩; (have HB4 := Lib.hid (bl_step HB3.out hb4); have HSM := Lib.hid (rsame30_any n j2 c3 c4 w4 HL.out HJ2.out (by omega) (HX3.out.later hb4) hx4); rw [decide_eq_true (HPK.out L2 HX2.out.1 HX2.out.2.1)] at HSM; clear hb4 hx4 HA4))
        | (go_at_call 30; (with_reducible refine HSM.out.mono ?_); rintro e w5 ⟨rfl, hb5⟩; (have HB5 := Lib.hid (bl_step HB4.out hb5); clear hb5 HSM))
        | (go_at_call 28; (with_reducible refine (HSZ.out _ HB5.out).mono ?_); rintro e w6 ⟨rfl, hb6⟩; (have HB6 := Lib.hid (bl_step HB5.out hb6); clear hb6))
        | (go_at_call 31; (with_reducible refine (HRD.out _ HB6.out).mono ?_); rintro e w7 ⟨A7, j7, L7, rfl, hj7, hm7, hi7, hx7, hb7⟩; (have HB7 := Lib.hid (bl_step HB6.out hb7); have HF7 := Lib.hid (HFC.out L7 hm7 hi7); have HW7 := Lib.hid (mwrite_ok j7 (psum (plens L7)) j7 w7 hj7 hx7 HF7.out.1 rfl); clear hb7 hx7 hm7 hi7 hj7))
        | (go_at_call 25; (with_reducible refine HW7.out.mono ?_); rintro e w8 ⟨g8, rfl, hg8, hr8, hb8⟩; (have HR8 := Lib.hid hr8; have HB8 := Lib.hid (bl_step HB7.out hb8); clear hr8 hb8 HW7))
        | (go_at_call 24; (with_reducible refine (HA.out _).mono ?_); rintro e w9 ⟨rfl, hb9⟩; (have HB9 := Lib.hid (bl_step HB8.out hb9); clear hb9)))
      go_ret
      exact ⟨rfl, HB9.out⟩
  · have HF := Lib.hid hf
    have hfI : (faultM L == 0) = false := by simpa using hf
    clear hf HWO
    generalize faultM L = f1 at *
    by_cases h0 : (readB l).2 = 0
    · have HFC := HFB h0
      clear HFN HFB
      have HRD := Lib.hid (fun W (hb2 : Below w.heap.size w W) => show Calls Try.prog 31 #[.slice B m cb] W fun e w' => ∃ A7 j7 L7, e = .returned (.tuple #[.slice A7 j7 j7, .int .i64 0]) ∧ L7.length = j7 ∧ L7.map rkey = (readB l).1 ∧ (∀ m ∈ L7, 0 ≤ m.id) ∧ XSrc w' A7 L7 ∧ Below W.heap.size W w' by
        have h1 := HRD.out W hb2
        unfold ReadDone at h1
        rw [h0] at h1
        exact h1)
      go_enter Try.func7, Try.ntmps7
      go_wp2_with (first
        | (go_at_call 23; (with_reducible refine HG.out.mono ?_); rintro e w0 ⟨rfl, rfl⟩)
        | (go_at_call 25; (with_reducible refine (HWN.out _ (Below.refl _ _) HF.out).mono ?_); rintro e w1 ⟨rfl, hb1⟩; (have HB6 := Lib.hid hb1; clear hb1 HG))
        | (go_at_call 31; (with_reducible refine (HRD.out _ HB6.out).mono ?_); rintro e w7 ⟨A7, j7, L7, rfl, hj7, hm7, hi7, hx7, hb7⟩; (have HB7 := Lib.hid (bl_step HB6.out hb7); have HF7 := Lib.hid (HFC.out L7 hm7 hi7); have HW7 := Lib.hid (mwrite_ok j7 (psum (plens L7)) j7 w7 hj7 hx7 HF7.out.1 rfl); clear hb7 hx7 hm7 hi7 hj7))
        | (go_at_call 25; (with_reducible refine HW7.out.mono ?_); rintro e w8 ⟨g8, rfl, hg8, hr8, hb8⟩; (have HR8 := Lib.hid hr8; have HB8 := Lib.hid (bl_step HB7.out hb8); clear hr8 hb8 HW7))
        | (go_at_call 24; (with_reducible refine (HA.out _).mono ?_); rintro e w9 ⟨rfl, hb9⟩; (have HB9 := Lib.hid (bl_step HB8.out hb9); have cv1 := conv_src (psum (plens L7) + 2) (psum (plens L7) + 2) (by rw [length_closed, length_wb]) (row_src (HR8.out.later hb9)) (by rw [HF7.out.2]; exact HB.out); rw [HF7.out.2] at cv1; have cv2 := conv_src m cb HLL.out (src_later HSL.out HB9.out) HB.out; clear hb9; generalize strOf l = sl at cv1 cv2)))
      go_ret
      exact ⟨rfl, HB9.out⟩
    · have HFC := HFN h0
      clear HFN HFB
      have hfb : ((readB l).2 != 0) = true := by simpa using h0
      have HRD := Lib.hid (fun W (hb2 : Below w.heap.size w W) => show Calls Try.prog 31 #[.slice B m cb] W fun e w' => ∃ A7 j7 L7, e = .returned (.tuple #[.slice A7 j7 j7, .int .i64 (readB l).2]) ∧ L7.length = j7 ∧ L7.map rkey = (readB l).1 ∧ (∀ m ∈ L7, 0 ≤ m.id) ∧ XSrc w' A7 L7 ∧ Below W.heap.size W w' from HRD.out W hb2)
      clear h0
      generalize (readB l).2 = fb at *
      go_enter Try.func7, Try.ntmps7
      go_wp2_with (first
        | (go_at_call 23; (with_reducible refine HG.out.mono ?_); rintro e w0 ⟨rfl, rfl⟩)
        | (go_at_call 25; (with_reducible refine (HWN.out _ (Below.refl _ _) HF.out).mono ?_); rintro e w1 ⟨rfl, hb1⟩; (have HB6 := Lib.hid hb1; clear hb1 HG))
        | (go_at_call 31; (with_reducible refine (HRD.out _ HB6.out).mono ?_); rintro e w7 ⟨A7, j7, L7, rfl, hj7, hm7, hi7, hx7, hb7⟩; (have HB7 := Lib.hid (bl_step HB6.out hb7); have HF7 := Lib.hid (HFC.out L7 hm7 hi7); have HW7 := Lib.hid (mwrite_ok j7 (psum (plens L7)) j7 w7 hj7 hx7 HF7.out.1 rfl); clear hb7 hx7 hm7 hi7 hj7))
        | (go_at_call 25; (with_reducible refine HW7.out.mono ?_); rintro e w8 ⟨g8, rfl, hg8, hr8, hb8⟩; (have HR8 := Lib.hid hr8; have HB8 := Lib.hid (bl_step HB7.out hb8); clear hr8 hb8 HW7))
        | (go_at_call 24; (with_reducible refine (HA.out _).mono ?_); rintro e w9 ⟨rfl, hb9⟩; (have HB9 := Lib.hid (bl_step HB8.out hb9); clear hb9)))
      go_ret
      exact ⟨rfl, HB9.out⟩
theorem mback_every {A B : Option Addr} {L : List PartM} {l : List Nat} {n m : Nat} (cap cb : Nat) (w : World) (hL : L.length = n) (hn9 : n ≤ 9223372036854775807) (hs : XSrc w A L) (hl : l.length = m) (hm9 : m ≤ 9223372036854775807) (hmc : m ≤ cb) (hb : ∀ b ∈ l, b < 256) (hsl : Src w B (bts l)) :
    Calls Try.prog 7 #[.slice A n cap, .slice B m cb] w fun e w' => e = .returned (.bool true) ∧ Below w.heap.size w w' := by
  cases hg : greatM L
  · by_cases hm : m ≤ 4200
    · exact mback_small n cap m cb w hL hs hl hm hmc hb hsl hg
    · exact mback_great n cap m cb w hL hn9 hs hm9 (.inr ⟨hg, by omega⟩)
  · exact mback_great n cap m cb w hL hn9 hs hm9 (.inl hg)
end Go.Proofs.Ytdaipfmckonfpaa
namespace Go.Proofs.Ytdaipfmckonfpaa
open Go.ChangeShapes Go.WideShapes Go.ChangeAt Go.RowKit

theorem lawOwn : ownKnob Try.prog.godebug = none := by kernel_rfl
theorem lawLaid : laidOutB Try.prog = true := by kernel_rfl

section
variable {H : Type} {enc : TypeId × Value → H} {P : Program}
/-- what was read in the old world is read in the new one -/
theorem args_stay (hl : laidOutB P = true) {W W' : World} (hb : Below W.heap.size W W') : ∀ (ts : List TypeId) (vs : List Value) (ds : List (DataW H)) (ps : List MemPlace),
    (∀ t ∈ ts, P.readableRec t = true ∧ t < P.types.size) → DataW.TrodAll enc P W 0 (fun _ => true) true ts vs ds ps → (∀ x ∈ ps, x.block < W.heap.size) →
    DataW.TrodAll enc P W' 0 (fun b => decide (b < W.heap.size)) true ts vs ds ps := by
  intro ts
  induction ts with
  | nil =>
    intro vs ds ps _ h _
    obtain ⟨rfl, rfl, rfl⟩ := trodAll_nil h
    exact trodAll_mk0
  | cons t ts ih =>
    intro vs ds ps hr h hlt
    obtain ⟨v, vs', d, ds', p, q, rfl, rfl, rfl, h1, h2⟩ := trodAll_cons h
    have ht := hr t (List.mem_cons_self ..)
    exact trodAll_cons_mk (Below.trod hl ht.1 ht.2 h1 hb fun x hx => hlt x (List.mem_append_left _ hx))
      (ih vs' ds' q (fun u hu => hr u (List.mem_cons_of_mem _ hu)) h2 fun x hx => hlt x (List.mem_append_right _ hx))

theorem law_post {f : Func} {s : ChangeSpec} {W W' : World} {args : Array Value} {ds gs : List (DataW H)} {before : List MemPlace} {B : TypeId}
    (hl : laidOutB P = true) (hr : f.params.toList.all (fun t => P.readableRec t && decide (t < P.types.size)) = true) (hv : s.vars = [])
    (hW : DataW.Whole enc P f.params.toList s.vars false W args.toList ds gs before)
    (hs : s.fn H (ds ++ gs) = { results := [.lit (.bool true)], args := ds }) (ht : f.resultTypes = #[B]) (hB : P.underlying B = some .bool)
    (hb : Below W.heap.size W W') : s.post enc P f false true false false W args (.bool true) W' := by
  have hW' := hW
  obtain ⟨p, q, hA, hV, rfl, _, _⟩ := hW
  rw [hv] at hV
  obtain ⟨rfl, rfl⟩ := trodVars_none hV
  refine ⟨ds, [], p ++ [], [], p, [], hW', ?_, ?_, ?_, hb.frame _, fun h => by cases h⟩
  · rw [hs, ht]
    exact trodAll_mk1 (shut_bool hB true)
  · rw [hs]
    exact args_stay hl hb _ _ _ _ (fun t h => by have := List.all_eq_true.1 hr t h; simpa using this) hA fun x hx => hW'.lt x (List.mem_append_left _ hx)
  · rw [hs, hv]
    exact rfl
end
end Go.Proofs.Ytdaipfmckonfpaa
namespace Go.Proofs.Ytdaipfmckonfpaa
open Go.ChangeShapes Go.WideShapes Go.ChangeAt Go.RowKit Go.Deep


theorem Try.cells5 : Try.prog.cellsOf 5 = 1 := by kernel_rfl
theorem Try.cells42 : Try.prog.cellsOf 42 = 1 := by kernel_rfl
theorem nums_src {W : World} {a : Addr} {cap len : Nat} {zs : List Int} (hl : len ≤ cap) (hz : zs.length = cap) (hc : ∀ j, j < cap → W.cell? (a.add j) = some (.int .u8 (zs.getD j 0))) (hw : ∀ n ∈ zs, (Lit.int .u8 n).wf = true) :
    ((zs.take len).map Int.toNat).length = len ∧ Src W (some a) (bts ((zs.take len).map Int.toNat)) ∧ ∀ b ∈ (zs.take len).map Int.toNat, b < 256 := by
  have hlen : ((zs.take len).map Int.toNat).length = len := by rw [List.length_map, List.length_take]; omega
  refine ⟨hlen, fun h0 => ⟨a, rfl, fun j u hu => ?_⟩, fun b hb => ?_⟩
  · have hj : j < len := by
      have h1 := (List.getElem?_eq_some_iff.1 hu).1
      rw [length_bts, hlen] at h1
      exact h1
    have h2 := hc j (by omega)
    rw [h2]
    have hjz : j < zs.length := by omega
    have hww := bounds_u8 (hw zs[j] (List.getElem_mem hjz))
    have h3 : ((zs.take len).map Int.toNat)[j]? = some zs[j].toNat := by
      rw [List.getElem?_map, List.getElem?_take, if_pos hj, List.getElem?_eq_getElem hjz]
      rfl
    have h4 := bts_at h3
    rw [h4] at hu
    injection hu with hu
    rw [← hu, List.getD_eq_getElem?_getD, List.getElem?_eq_getElem hjz]
    simp only [Option.getD_some]
    rw [Int.toNat_of_nonneg hww.1]
  · rw [List.mem_map] at hb
    obtain ⟨z, hz2, rfl⟩ := hb
    have hww := bounds_u8 (hw z (List.mem_of_mem_take hz2))
    omega
set_option maxRecDepth 100000 in
theorem bytes_arg {H : Type} {enc : TypeId × Value → H} {W : World} {base : Nat} {v : Value} {d : DataW H} {p : List MemPlace} (hok : Value.okWide Try.prog W .any base 42 v)
    (h : DataW.Trod enc Try.prog W 0 (fun _ => true) true 42 v d p) : ∃ (A : Option Addr) (cap : Nat) (l : List Nat), v = .slice A l.length cap ∧ l.length ≤ cap ∧ cap ≤ 9223372036854775807 ∧ Src W A (bts l) ∧ ∀ b ∈ l, b < 256 := by
  obtain ⟨a0, len, cap, rfl⟩ := okWide_slice Try.underlying42 hok
  obtain ⟨fuel, hf⟩ := h
  rcases open_ints Try.underlying42 Try.underlying5 Try.cells5 hf with ⟨hcs, _⟩ | ⟨a, len', cap', zs, hcs, _, hl, hm, hz, _, hcell, hwz⟩
  · simp only [Value.cells] at hcs
    have e : Value.slice a0 len cap = .slice none 0 0 := by simpa using hcs
    rw [e]
    exact ⟨none, 0, [], rfl, Nat.le_refl _, by omega, fun h0 => absurd h0 (by simp [bts]), fun b hb => by cases hb⟩
  · have e : Value.slice a0 len cap = .slice (some a) len' cap' := by simpa [Value.cells] using hcs
    rw [e]
    have hz' : zs.length = cap' := by simpa using hz
    obtain ⟨h1, h2, h3⟩ := nums_src (W := W) (a := a) hl hz' (fun j hj => hcell j (by omega)) hwz
    exact ⟨some a, cap', _, by rw [h1], by omega, by unfold maxLen at hm; exact hm, h2, h3⟩
end Go.Proofs.Ytdaipfmckonfpaa
namespace Go.Proofs.Ytdaipfmckonfpaa
open Go.ChangeShapes Go.WideShapes Go.ChangeAt Go.RowKit Go.Deep Go.Joins

theorem Try.cells57p : Try.prog.cellsOf 57 = 2 := by kernel_rfl
theorem Try.cells3p : Try.prog.cellsOf 3 = 1 := by kernel_rfl
set_option maxRecDepth 100000 in
theorem bytes_cellp {H : Type} {enc : TypeId × Value → H} {W : World} {fuel : Nat} {cs : List Value} {y : DataW H × List MemPlace} (hf : DataW.trod enc Try.prog W 0 (fun _ => true) true fuel 42 cs = some y) :
    ∃ r : RowB, cs = [r.v] ∧ r.ok W := by
  rcases open_ints Try.underlying42 Try.underlying5 Try.cells5 hf with ⟨hcs, _⟩ | ⟨a, len', cap', zs, hcs, _, hl, hm, hz, _, hcell, hwz⟩
  · exact ⟨⟨none, 0, []⟩, hcs, fun h0 => absurd h0 (by simp [bts]), Nat.le_refl _, by show 0 ≤ 9223372036854775807; omega, fun b hb => by cases hb⟩
  · have hz : zs.length = cap' := by simpa using hz
    obtain ⟨h1, h2, h3⟩ := nums_src hl hz (fun j hj => hcell j (by omega)) hwz
    refine ⟨⟨some a, cap', (zs.take len').map Int.toNat⟩, by rw [hcs]; unfold RowB.v; rw [h1], h2, by show ((zs.take len').map Int.toNat).length ≤ cap'; omega, by show cap' ≤ 9223372036854775807; unfold maxLen at hm; exact hm, h3⟩
set_option maxRecDepth 100000 in
theorem part_cells {H : Type} {enc : TypeId × Value → H} {W : World} {fuel : Nat} {cs : List Value} {x : DataW H × List MemPlace}
    (h : DataW.trod enc Try.prog W 0 (fun _ => true) true fuel 57 cs = some x) : ∃ (a : Int) (r : RowB), cs = [.int .i64 a, r.v] ∧ r.ok W := by
  obtain ⟨xs, n, _, _, hl, hxs, hf⟩ := DataW.trod_struct Try.underlying57 h
  have h0 := hf 0 _ rfl
  have h1 := hf 1 _ rfl
  rw [Try.cells57p] at hl
  match cs, hl with
  | [c0, c1], _ =>
    have hxs' : xs.length = 2 := by simpa using hxs
    match xs, hxs' with
    | [y0, y1], _ =>
      have h0' : DataW.trod enc Try.prog W 0 (fun _ => true) true n 3 (([c0, c1].drop 0).take (Try.prog.cellsOf 3)) = some y0 := h0
      have h1' : DataW.trod enc Try.prog W 0 (fun _ => true) true n 42 (([c0, c1].drop 1).take (Try.prog.cellsOf 42)) = some y1 := h1
      rw [Try.cells3p] at h0'
      rw [Try.cells42] at h1'
      obtain ⟨a, ea, _, _⟩ := DataW.trod_int Try.underlying3 h0'
      obtain ⟨r, er, hr⟩ := bytes_cellp h1'
      simp at ea er
      exact ⟨a, r, by rw [ea, er], hr⟩
set_option maxRecDepth 100000 in
theorem parts_arg {H : Type} {enc : TypeId × Value → H} {W : World} {base : Nat} {v : Value} {d : DataW H} {p : List MemPlace} (hok : Value.okWide Try.prog W .any base 40 v)
    (h : DataW.Trod enc Try.prog W 0 (fun _ => true) true 40 v d p) : ∃ (A : Option Addr) (cap : Nat) (l : List PartM), v = .slice A l.length cap ∧ l.length ≤ cap ∧ cap ≤ 9223372036854775807 ∧ XSrc W A l := by
  obtain ⟨a0, len, cap, rfl⟩ := okWide_slice Try.underlying40 hok
  obtain ⟨fuel, hf⟩ := h
  rcases open_slice Try.underlying40 hf with ⟨hcs, _⟩ | ⟨a, len', cap', m, n, D, Pl, hcs, _, hl, hm, hmm, _, hcell⟩
  · have e : Value.slice a0 len cap = .slice none 0 0 := by simpa [Value.cells] using hcs
    rw [e]
    exact ⟨none, 0, [], rfl, Nat.le_refl _, by omega, fun h0 => absurd h0 (by simp)⟩
  · have e : Value.slice a0 len cap = .slice (some a) len' cap' := by simpa [Value.cells] using hcs
    rw [e]
    have hm' : m = cap' := by simpa using hmm
    have each : ∀ i, i < len' → ∃ o : PartM, W.cell? (a.add (i * 2)) = some (.int .i64 o.id) ∧ W.cell? (a.add (i * 2 + 1)) = some o.r.v ∧ o.r.ok W := by
      intro i hi
      obtain ⟨cs', hc, ht⟩ := hcell i (by omega)
      rw [Try.cells57p] at hc
      obtain ⟨t, r, rfl, hr⟩ := part_cells ht
      obtain ⟨_, _, hat⟩ := World.cells?_some hc
      have h0 := hat 0 (by omega)
      have h1 := hat 1 (by omega)
      rw [add_add] at h0 h1
      exact ⟨⟨t, r⟩, h0, h1, hr⟩
    have pick : ∃ f : Nat → PartM, ∀ i, i < len' → W.cell? (a.add (i * 2)) = some (.int .i64 (f i).id) ∧ W.cell? (a.add (i * 2 + 1)) = some (f i).r.v ∧ (f i).r.ok W := by
      refine ⟨fun i => if hi : i < len' then (each i hi).choose else ⟨0, ⟨none, 0, []⟩⟩, fun i hi => ?_⟩
      simp only [dif_pos hi]
      exact (each i hi).choose_spec
    obtain ⟨f, hf'⟩ := pick
    have hlen : ((List.range len').map f).length = len' := by simp
    refine ⟨some a, cap', (List.range len').map f, by rw [hlen], by omega, by unfold maxLen at hm; exact hm, fun h0 => ?_⟩
    rw [hlen] at h0
    obtain ⟨b, off, spot⟩ := a
    have hspot : spot = none := by
      have hc := (hf' 0 (by omega)).1
      simpa [Addr.add] using World.cell?_spot hc
    subst hspot
    refine ⟨b, off, rfl, fun k o ho => ?_⟩
    have hk : k < len' := by
      have h1 := (List.getElem?_eq_some_iff.1 ho).1
      rw [hlen] at h1
      exact h1
    have ho' : o = f k := by
      rw [List.getElem?_map, List.getElem?_range hk] at ho
      simp at ho
      exact ho.symm
    subst ho'
    have h3 := hf' k hk
    rw [add_plain, add_plain] at h3
    simpa [Nat.add_assoc] using h3
end Go.Proofs.Ytdaipfmckonfpaa
