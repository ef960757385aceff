/-
  mux: the document's Write. mux: the fixed calls at the end of each statement come out as they should. mux: parts that are too much for a statement; parts as the document's. mux: whether parts are equal, as the document says.
-/
import Derived.Test.YtdaipfmckonfpaaJMuxWrites04
import Derived.Test.YtdaipfmckonfpaaJMuxWrites05
import Derived.Test.YtdaipfmckonfpaaJMuxWrites03
import Derived.BigQuiet
import Derived.Lib.SlBytesConst
import Derived.Test.YtdaipfmckonfpaaJMuxWrites02
import Derived.StillTailTactics
namespace Go.Proofs.Ytdaipfmckonfpaa
open Go.RowKit

set_option maxRecDepth 100000 in
set_option maxHeartbeats 3200000 in
theorem rwrite30 {A : Option Addr} {L : List PartM} (n N cap : Nat) (w : World) (hL : L.length = n) (hn : n ≤ 1000) (hs : XSrc w A L) (hNN : psum (plens L) = N) :
    Calls Try.prog 26 #[.slice A n cap] w fun e w' => Below w.heap.size w w' ∧ ((faultM L ≠ 0 ∧ e = .returned (.tuple #[.slice none 0 0, .int .i64 (faultM L)])) ∨ (faultM L = 0 ∧ ∃ x, e = .returned (.tuple #[x, .int .i64 0]) ∧ w'.ownsRow w.heap.size 5 1 x (N + 2) (bts (closed (wb L))))) := by
  have HS := Lib.hid hs
  have HL := Lib.hid hL
  have HF := Lib.hid (show faultM L = if L.any bad then 3 else if decide (16 < n) || decide (4096 < 2 + psum (plens L)) then 2 else 0 by unfold faultM; rw [hL])
  have HLe := Lib.hid (fun k => psum_take_le L k)
  have HNN := Lib.hid hNN
  clear hs hL hNN
  go_enter Try.func26, Try.ntmps26
  go_wp2
  go_loopw [4] (fun i wr => ∃ k : Nat, k ≤ n ∧ i = .int .i64 k ∧ Hid (L.any bad = (L.drop k).any bad) ∧ w = wr) (fun i _ => n - (intOf i).toNat)
  case atStart => exact ⟨0, by omega, rfl, Lib.hid (by simp), rfl⟩
  case round =>
    obtain ⟨k, hk, rfl, HK, rfl⟩ := hrel
    by_cases hlt : k < n
    · obtain ⟨ab, ao, rfl, hc⟩ := HS.out (by rw [HL.out]; omega)
      obtain ⟨⟨id, ⟨RA, rcap, bs⟩⟩, hr⟩ : ∃ r, L[k]? = some r := ⟨_, List.getElem?_eq_getElem (by rw [HL.out]; exact hlt)⟩
      obtain ⟨f0, f1, e2⟩ := hc k _ hr
      simp only [RowB.v] at f0 f1
      have HD := Lib.hid (show L.any bad = (badP id bs.length || (L.drop (k + 1)).any bad) by
        obtain ⟨h1, h2⟩ := List.getElem?_eq_some_iff.1 hr
        rw [HK.out, List.drop_eq_getElem_cons h1, h2]; rfl)
      have hkI : (k : Int) < (n : Int) := by omega
      have hk0 : (0 : Int) ≤ (k : Int) := by omega
      clear hc hr e2
      obtain ⟨bn, hbn⟩ : ∃ bn, bs.length = bn := ⟨_, rfl⟩
      rw [hbn] at f1 HD
      clear hbn
      unfold badP at HD
      by_cases h1 : id < 1
      · rw [decide_eq_true h1] at HD
        have HX := Lib.hid (show faultM L = 3 by rw [HF.out, HD.out]; rfl)
        go_wp2
        exact bodyPost_ret (v := .tuple #[.slice none 0 0, .int .i64 3]) (by simp [results, Try.results26, go_sem]) rfl ⟨Below.refl _ _, .inl ⟨by rw [HX.out]; decide, by rw [HX.out]⟩⟩
      · rw [decide_eq_false h1] at HD
        by_cases h2 : 31 < id
        · rw [decide_eq_true h2] at HD
          have HX := Lib.hid (show faultM L = 3 by rw [HF.out, HD.out]; rfl)
          go_wp2
          exact bodyPost_ret (v := .tuple #[.slice none 0 0, .int .i64 3]) (by simp [results, Try.results26, go_sem]) rfl ⟨Below.refl _ _, .inl ⟨by rw [HX.out]; decide, by rw [HX.out]⟩⟩
        · rw [decide_eq_false h2] at HD
          by_cases h3 : bn < 1
          · rw [decide_eq_true h3] at HD
            have h3' : (bn : Int) < 1 := by omega
            have HX := Lib.hid (show faultM L = 3 by rw [HF.out, HD.out]; rfl)
            go_wp2
            exact bodyPost_ret (v := .tuple #[.slice none 0 0, .int .i64 3]) (by simp [results, Try.results26, go_sem]) rfl ⟨Below.refl _ _, .inl ⟨by rw [HX.out]; decide, by rw [HX.out]⟩⟩
          · rw [decide_eq_false h3] at HD
            have h3' : ¬ (bn : Int) < 1 := by omega
            by_cases h4 : 2047 < bn
            · rw [decide_eq_true h4] at HD
              have h4' : (2047 : Int) < (bn : Int) := by omega
              have HX := Lib.hid (show faultM L = 3 by rw [HF.out, HD.out]; rfl)
              go_wp2
              exact bodyPost_ret (v := .tuple #[.slice none 0 0, .int .i64 3]) (by simp [results, Try.results26, go_sem]) rfl ⟨Below.refl _ _, .inl ⟨by rw [HX.out]; decide, by rw [HX.out]⟩⟩
            · rw [decide_eq_false h4] at HD
              have h4' : ¬ (2047 : Int) < (bn : Int) := by omega
              go_wp2
              go_roundw
              case rel => exact ⟨k + 1, by omega, by go_num, Lib.hid (by rw [HD.out]; rfl), trivial⟩
              case measure => simp [intOf]; omega
    · have hkn : k = n := by omega
      subst hkn
      have hb : L.any bad = false := by rw [HK.out, List.drop_of_length_le (by rw [HL.out]; exact Nat.le_refl _)]; rfl
      have HG := Lib.hid (fun m (hm : m ∈ L) => show 1 ≤ m.id ∧ m.id ≤ 31 ∧ 1 ≤ m.r.bs.length ∧ m.r.bs.length ≤ 2047 by
        have h3 : ¬ bad m = true := fun h3 => by have := List.any_eq_true.2 ⟨m, hm, h3⟩; rw [hb] at this; cases this
        unfold bad badP at h3
        simp only [Bool.or_eq_true, decide_eq_true_eq, not_or] at h3
        omega)
      have HF2 := HF.out
      rw [hb, if_neg (by decide)] at HF2
      clear hb HK
      by_cases h16 : 16 < k
      · have h16' : (16 : Int) < (k : Int) := by omega
        have HX := Lib.hid (show faultM L = 2 by rw [HF2, decide_eq_true h16]; rfl)
        clear HF2
        go_wp2
        exact bodyPost_ret (v := .tuple #[.slice none 0 0, .int .i64 2]) (by simp [results, Try.results26, go_sem]) rfl ⟨Below.refl _ _, .inl ⟨by rw [HX.out]; decide, by rw [HX.out]⟩⟩
      · have h16' : ¬ (16 : Int) < (k : Int) := by omega
        rw [decide_eq_false h16, Bool.false_or] at HF2
        have HFF := Lib.hid HF2
        have hk16 : k ≤ 16 := by omega
        clear HF2 HF hn hk hlt h16
        generalize hkk : k = nn at *
        clear hkk
        go_wp2
        go_loopw [5, 6] (fun x i wr => ∃ k t : Nat, ∃ A' c', k ≤ nn ∧ i = .int .i64 k ∧ x = .slice A' t c' ∧ t ≤ 2049 * k ∧ Hid ((wb (L.take k)).length = t) ∧ Hid (OwnY w.heap.size wr x (wb (L.take k))) ∧ Hid (Below w.heap.size w wr)) (fun _ i _ => nn - (intOf i).toNat)
        case atStart => exact ⟨0, 0, none, 0, by omega, rfl, rfl, by omega, Lib.hid rfl, Lib.hid (World.ownsRow_nil _ _ _ _), Lib.hid (Below.refl _ _)⟩
        case round =>
          obtain ⟨k, t, Ax, cx, hk, rfl, rfl, ht, HT, HO, HB⟩ := hrel
          by_cases hlt : k < nn
          · obtain ⟨ab, ao, rfl, hc⟩ := HS.out (by rw [HL.out]; omega)
            obtain ⟨⟨id, ⟨RA, rcap, bs⟩⟩, hr⟩ : ∃ r, L[k]? = some r := ⟨_, List.getElem?_eq_getElem (by rw [HL.out]; exact hlt)⟩
            obtain ⟨e0, e1, e2⟩ := hc k _ hr
            have hm := HG.out _ (List.mem_of_getElem? hr)
            simp only at hm
            obtain ⟨id, rfl⟩ : ∃ q : Nat, id = q := ⟨id.toNat, by omega⟩
            have HTK := Lib.hid (wb_take hr)
            simp only [Int.toNat_natCast] at HTK
            obtain ⟨bn, hbn⟩ : ∃ bn, bs.length = bn := ⟨_, rfl⟩
            have f0 := cell_below HB.out e0
            have f1 := cell_below HB.out e1
            simp only [RowB.v] at f0 f1
            have HOK := Lib.hid e2.1
            simp only at HOK
            have HE1 := Lib.hid e1
            simp only [RowB.v] at HE1
            rw [hbn] at f1 hm HTK HE1
            have HBN := Lib.hid hbn
            have hid1 : id ≤ 31 := by omega
            have hbn2 : bn ≤ 2047 := by omega
            have hkI : (k : Int) < (nn : Int) := by omega
            have hk0 : (0 : Int) ≤ (k : Int) := by omega
            clear hc hr e0 e1 e2 hbn hm
            have hq1 : IntKind.u8.wrap ((2048 * (id : Int) + bn) / 256) = (((2048 * id + bn) / 256 : Nat) : Int) := by rw [IntKind.wrap_u8]; omega
            have hq2 : IntKind.u8.wrap ((2048 * (id : Int) + bn) % 256) = (((2048 * id + bn) % 256 : Nat) : Int) := by rw [IntKind.wrap_u8]; omega
            have hq3 : IntKind.i64.wrap ((2048 * (id : Int) + bn) / 256) = (2048 * (id : Int) + bn) / 256 := by rw [IntKind.wrap_i64]; omega
            have hq4 : (2048 * (id : Int) + bn).tmod 256 = (2048 * (id : Int) + bn) % 256 := Int.tmod_eq_emod_of_nonneg (by omega)
            have hq5 : (2048 * (id : Int) + bn).tdiv 256 = (2048 * (id : Int) + bn) / 256 := Int.tdiv_eq_ediv_of_nonneg (by omega)
            have hHD := Lib.hid (show bts (hdP id bn) = [.int .u8 (((2048 * id + bn) / 256 : Nat) : Int), .int .u8 (((2048 * id + bn) % 256 : Nat) : Int)] from rfl)
            go_upto_region 12 with fail
            go_quiet (fail)
            rename_i nq
            obtain ⟨W, hW⟩ : ∃ W, W = wr.drewN nq := ⟨_, rfl⟩
            have hbW : Below wr.heap.size wr W := by rw [hW]; exact below_drewN (Below.refl _ _) nq
            have HRW := Lib.hid (Row.made W 5 (bts (hdP id bn)).toArray)
            have hbA := bl_alloc hbW (.cells (bts (hdP id bn)).toArray 5)
            have hO1 := HO.out.later hbA
            obtain ⟨A1, c1, W1, hrun1, ho1, hb2, hon1, hat1⟩ := app_bytes 2 2 hO1 (Nat.le_trans HB.out.size hbA.size) (row_src HRW.out) rfl (by rw [HT.out]; omega)
            rw [HT.out] at hrun1 ho1
            have hBW := HB.out.trans (((hbA).mono HB.out.size).trans hb2)
            have hl1 : (wb (L.take k) ++ hdP id bn).length = t + 2 := by rw [List.length_append, HT.out]; rfl
            obtain ⟨A2, c2, W2, hrun2, ho2, hb3, hon2, hat2⟩ := app_bytes bn rcap ho1 hBW.size (src_later HOK.out hBW) HBN.out (by rw [hl1]; omega)
            rw [hl1] at hrun2 ho2
            rw [← HTK.out] at ho2
            have f3 := cell_below hBW HE1.out
            have HO2 := Lib.hid ho2
            have HB9 := Lib.hid (hBW.trans hb3)
            have HL2 := Lib.hid (show (wb (L.take (k + 1))).length = t + 2 + bn by rw [HTK.out, List.length_append, hl1, HBN.out])
            rw [hHD.out] at hrun1
            rw [← hW]
            have hRUN1 := Lib.hid hrun1
            have hRUN2 := Lib.hid hrun2
            clear hbA hO1 ho1 hb2 hon1 hat1 hBW hl1 ho2 hb3 hon2 hat2 f0 f1 hW hbW hrun1 hrun2
            go_wp2_with (first
              | (at_builtin; refine wpList_is rfl (.tmp 68) (.tmp 75) 42 rfl _ _ (by rfl) (by rfl) hRUN1.out ?_; clear hRUN1)
              | (at_builtin; refine wpList_is rfl (.tmp 77) (.tmp 82) 42 rfl _ _ (by rfl) (by rfl) hRUN2.out ?_; clear hRUN2))
            go_roundw
            case rel => exact ⟨k + 1, t + 2 + bn, _, _, by omega, by go_num, by rfl, by omega, HL2, HO2, HB9⟩
            case measure => simp [intOf]; omega
          · have hkn : k = nn := by omega
            subst hkn
            have HO2 := Lib.hid (show OwnY w.heap.size wr (.slice Ax t cx) (wb L) by have h := HO.out; rwa [List.take_of_length_le (by rw [HL.out]; exact Nat.le_refl _)] at h)
            have hT := HT.out
            rw [List.take_of_length_le (by rw [HL.out]; exact Nat.le_refl _)] at hT
            have hlen := length_wb L
            have hF := HFF.out
            have hNX : psum (plens L) = t := by omega
            have hNY := HNN.out
            rw [hNX] at hF
            by_cases h4 : 4096 < 2 + t
            · have h4' : (4094 : Int) < (t : Int) := by omega
              rw [decide_eq_true h4, if_pos rfl] at hF
              have HX := Lib.hid hF
              clear hF hT hlen hNX hNY
              go_wp2
              exact bodyPost_ret (v := .tuple #[.slice none 0 0, .int .i64 2]) (by simp [results, Try.results26, go_sem]) rfl ⟨HB.out, .inl ⟨by rw [HX.out]; decide, by rw [HX.out]⟩⟩
            · have h4' : ¬ (4094 : Int) < (t : Int) := by omega
              rw [decide_eq_false h4, if_neg (by decide)] at hF
              have HX := Lib.hid hF
              have HTT := Lib.hid hT
              obtain rfl : t = N := by omega
              have HBT := Lib.hid (wb_lt hF (fun m hm => (HS.out.ok m hm).2.2.2))
              clear hF hT hlen hNX hNY
              go_wp2_with (go_at_call 79; (with_reducible refine (refclose_any (cap := cx) t HTT.out (by omega) _ HO2.out.src HBT.out).mono ?_); rintro e w1 ⟨x, rfl, hown, hb1⟩)
              exact bodyPost_ret (v := .tuple #[x, .int .i64 0]) (by simp [results, Try.results26, go_sem]) rfl ⟨bl_step HB.out hb1, .inr ⟨HX.out, x, rfl, own_down hown HB.out.size⟩⟩
end Go.Proofs.Ytdaipfmckonfpaa
namespace Go.Proofs.Ytdaipfmckonfpaa
open Go.RowKit

theorem xsrc_two {w : World} {g g1 g2 c1 c2 : Nat} {l1 l2 : List Nat} (i1 i2 : Int) (h1 : Src w (some ⟨g1, 0, none⟩) (bts l1)) (h2 : Src w (some ⟨g2, 0, none⟩) (bts l2)) (h3 : Row w g 57 #[.int .i64 i1, .slice (some ⟨g1, 0, none⟩) l1.length c1, .int .i64 i2, .slice (some ⟨g2, 0, none⟩) l2.length c2])
    (hc1 : l1.length ≤ c1 ∧ c1 ≤ 9223372036854775807) (hc2 : l2.length ≤ c2 ∧ c2 ≤ 9223372036854775807) (hb1 : ∀ b ∈ l1, b < 256) (hb2 : ∀ b ∈ l2, b < 256) :
    XSrc w (some ⟨g, 0, none⟩) [⟨i1, ⟨some ⟨g1, 0, none⟩, c1, l1⟩⟩, ⟨i2, ⟨some ⟨g2, 0, none⟩, c2, l2⟩⟩] := by
  intro _
  refine ⟨g, 0, rfl, fun k m hm => ?_⟩
  match k, hm with
  | 0, hm =>
    simp at hm
    subst hm
    exact ⟨h3.read (i := 0) rfl, h3.read (i := 1) rfl, h1, hc1.1, hc1.2, hb1⟩
  | 1, hm =>
    simp at hm
    subst hm
    exact ⟨h3.read (i := 2) rfl, h3.read (i := 3) rfl, h2, hc2.1, hc2.2, hb2⟩
  | k + 2, hm => simp at hm
theorem xsrc_one {w : World} {g g1 c1 : Nat} {l1 : List Nat} (i1 : Int) (h1 : Src w (some ⟨g1, 0, none⟩) (bts l1)) (h3 : Row w g 57 #[.int .i64 i1, .slice (some ⟨g1, 0, none⟩) l1.length c1])
    (hc1 : l1.length ≤ c1 ∧ c1 ≤ 9223372036854775807) (hb1 : ∀ b ∈ l1, b < 256) : XSrc w (some ⟨g, 0, none⟩) [⟨i1, ⟨some ⟨g1, 0, none⟩, c1, l1⟩⟩] := by
  intro _
  refine ⟨g, 0, rfl, fun k m hm => ?_⟩
  match k, hm with
  | 0, hm =>
    simp at hm
    subst hm
    exact ⟨h3.read (i := 0) rfl, h3.read (i := 1) rfl, h1, hc1.1, hc1.2, hb1⟩
  | k + 1, hm => simp at hm
def bl9 : List Nat := [24, 2, 97, 98, 32, 1, 99, 48, 93]
theorem al_w0 (w : World) : Calls Try.prog 25 #[.slice none 0 0] w fun e w' => ∃ g, e = .returned (.tuple #[.slice (some ⟨g, 0, none⟩) 2 2, .int .i64 0]) ∧ w.heap.size ≤ g ∧ Row w' g 5 (bts [255, 255]).toArray ∧ Below w.heap.size w w' :=
  mwrite_ok (L := []) 0 0 0 w rfl (fun h => by simp at h) rfl rfl
theorem al_w2 {w : World} {g g1 g2 : Nat} (h1 : Src w (some ⟨g1, 0, none⟩) (bts [97, 98])) (h2 : Src w (some ⟨g2, 0, none⟩) (bts [99])) (h3 : Row w g 57 #[.int .i64 3, .slice (some ⟨g1, 0, none⟩) 2 2, .int .i64 4, .slice (some ⟨g2, 0, none⟩) 1 1]) :
    Calls Try.prog 25 #[.slice (some ⟨g, 0, none⟩) 2 2] w fun e w' => ∃ g', e = .returned (.tuple #[.slice (some ⟨g', 0, none⟩) 9 9, .int .i64 0]) ∧ w.heap.size ≤ g' ∧ Row w' g' 5 (bts bl9).toArray ∧ Below w.heap.size w w' := by
  have h := mwrite_ok (L := [⟨3, ⟨some ⟨g1, 0, none⟩, 2, [97, 98]⟩⟩, ⟨4, ⟨some ⟨g2, 0, none⟩, 1, [99]⟩⟩]) 2 7 2 w rfl (xsrc_two 3 4 h1 h2 h3 (by decide) (by decide) (by decide) (by decide)) rfl rfl
  have e : closed (wb [⟨3, ⟨some ⟨g1, 0, none⟩, 2, [97, 98]⟩⟩, ⟨4, ⟨some ⟨g2, 0, none⟩, 1, [99]⟩⟩]) = bl9 := by
    have e1 : wb [⟨3, ⟨some ⟨g1, 0, none⟩, 2, [97, 98]⟩⟩, ⟨4, ⟨some ⟨g2, 0, none⟩, 1, [99]⟩⟩] = [24, 2, 97, 98, 32, 1, 99] := by simp [wb, hdP]
    rw [e1]
    decide +kernel
  rw [e] at h
  exact h
theorem al_w1 {w : World} {g g1 : Nat} (h1 : Src w (some ⟨g1, 0, none⟩) (bts [97, 98])) (h3 : Row w g 57 #[.int .i64 0, .slice (some ⟨g1, 0, none⟩) 2 2]) :
    Calls Try.prog 25 #[.slice (some ⟨g, 0, none⟩) 1 1] w fun e w' => e = .returned (.tuple #[.slice none 0 0, .int .i64 3]) ∧ Below w.heap.size w w' :=
  mwrite_no (L := [⟨0, ⟨some ⟨g1, 0, none⟩, 2, [97, 98]⟩⟩]) 1 1 w rfl (by omega) (xsrc_one 0 h1 h3 (by decide) (by decide)) (by simp) (by simp [faultM, bad, badP])
theorem al_r9 {w : World} {g : Nat} (h : Row w g 5 (bts bl9).toArray) : Calls Try.prog 31 #[.slice (some ⟨g, 0, none⟩) 9 9] w fun e w' => ∃ b o, e = .returned (.tuple #[.slice (some ⟨b, o, none⟩) 2 2, .int .i64 0]) ∧ w'.cell? ⟨b, o + 2, none⟩ = some (.int .i64 4) ∧ Below w.heap.size w w' := by
  have hr : readB bl9 = ([(3, [97, 98]), (4, [99])], 0) := by decide +kernel
  have h0 := mread_any (l := bl9) 9 9 w rfl (by omega) (row_src h) (by decide)
  rw [hr] at h0
  refine h0.mono ?_
  rintro e w' ⟨A, j, L, rfl, hj, hm, hi, hx, hb⟩
  have hl : L.length = 2 := by have := congrArg List.length hm; simpa using this
  obtain rfl : j = 2 := by omega
  obtain ⟨b, o, rfl, hc⟩ := hx (by omega)
  obtain ⟨m, hm1⟩ : ∃ m, L[1]? = some m := ⟨_, List.getElem?_eq_getElem (by omega)⟩
  have h1 : rkey m = (4, [99]) := by
    have := congrArg (fun l => l[1]?) hm
    simpa [hm1] using this
  have h2 := hi m (List.mem_of_getElem? hm1)
  have h3 : m.id = 4 := by
    have h4 := congrArg Prod.fst h1
    simp only [rkey] at h4
    omega
  have h5 := (hc 1 m hm1).1
  rw [h3] at h5
  exact ⟨b, o, rfl, h5, hb⟩
theorem al_r1 {w : World} {g : Nat} (_ : Row w g 5 (bts bl9).toArray) : Calls Try.prog 31 #[.slice (some ⟨g, 0, none⟩) 1 9] w fun e w' => e = .returned (.tuple #[.slice none 0 0, .int .i64 8]) ∧ Below w.heap.size w w' :=
  mread_bad 1 9 8 w (by omega) (by omega) (Lib.hid ((open_short (some ⟨g, 0, none⟩) 1 9 (by omega) w).mono (by rintro e w' ⟨rfl, rfl⟩; exact ⟨rfl, Below.refl _ _⟩)))
theorem src_mark (w1 : World) (l : List Nat) (fr : Nat × Nat) : Src (w1.alloc (.cells (bts l).toArray 5 fr)) (some ⟨w1.heap.size, 0, none⟩) (bts l) := by
  intro _
  have hnew : (w1.alloc (.cells (bts l).toArray 5 fr)).heap[w1.heap.size]? = some (.cells (bts l).toArray 5 fr) := heap_alloc_new w1 _
  refine ⟨_, rfl, fun j u hu => ?_⟩
  rw [add_zero_addr, cell_of_row _ w1.heap.size j _ 5 fr hnew]
  simpa using hu
theorem al_w2W (w1 : World) : Calls Try.prog 25 #[.slice (some ⟨w1.heap.size + 1 + 1, 0, none⟩) 2 2] (((w1.alloc (.cells #[.int .u8 97, .int .u8 98] 5 (2, 3))).alloc (.cells #[.int .u8 99] 5 (1, 2))).alloc (.cells #[.int .i64 3, .slice (some ⟨w1.heap.size, 0, none⟩) 2 2, .int .i64 4, .slice (some ⟨w1.heap.size + 1, 0, none⟩) 1 1] 57))
    fun e w' => ∃ g', e = .returned (.tuple #[.slice (some ⟨g', 0, none⟩) 9 9, .int .i64 0]) ∧ w1.heap.size ≤ g' ∧ Row w' g' 5 (bts bl9).toArray ∧ Below w1.heap.size w1 w' := by
  have h1 := src_later (src_mark w1 [97, 98] (2, 3)) (bl_alloc (bl_alloc (Below.refl _ _) (.cells #[.int .u8 99] 5 (1, 2))) (.cells #[.int .i64 3, .slice (some ⟨w1.heap.size, 0, none⟩) 2 2, .int .i64 4, .slice (some ⟨w1.heap.size + 1, 0, none⟩) 1 1] 57))
  have h2 := src_later (src_mark (w1.alloc (.cells #[.int .u8 97, .int .u8 98] 5 (2, 3))) [99] (1, 2)) (bl_alloc (Below.refl _ _) (.cells #[.int .i64 3, .slice (some ⟨w1.heap.size, 0, none⟩) 2 2, .int .i64 4, .slice (some ⟨w1.heap.size + 1, 0, none⟩) 1 1] 57))
  have h3 := Row.made ((w1.alloc (.cells #[.int .u8 97, .int .u8 98] 5 (2, 3))).alloc (.cells #[.int .u8 99] 5 (1, 2))) 57 #[.int .i64 3, .slice (some ⟨w1.heap.size, 0, none⟩) 2 2, .int .i64 4, .slice (some ⟨w1.heap.size + 1, 0, none⟩) 1 1]
  rw [show (w1.alloc (.cells #[.int .u8 97, .int .u8 98] 5 (2, 3))).heap.size = w1.heap.size + 1 by simp] at h2
  rw [show ((w1.alloc (.cells #[.int .u8 97, .int .u8 98] 5 (2, 3))).alloc (.cells #[.int .u8 99] 5 (1, 2))).heap.size = w1.heap.size + 1 + 1 by simp] at h3
  refine (al_w2 h1 h2 h3).mono ?_
  rintro e w' ⟨g, rfl, hg, hr, hb⟩
  have hA := bl_alloc (bl_alloc (bl_alloc (Below.refl w1.heap.size w1) (.cells #[.int .u8 97, .int .u8 98] 5 (2, 3))) (.cells #[.int .u8 99] 5 (1, 2))) (.cells #[.int .i64 3, .slice (some ⟨w1.heap.size, 0, none⟩) 2 2, .int .i64 4, .slice (some ⟨w1.heap.size + 1, 0, none⟩) 1 1] 57)
  exact ⟨g, rfl, Nat.le_trans hA.size hg, hr, bl_step hA hb⟩
theorem al_w1W (w1 : World) : Calls Try.prog 25 #[.slice (some ⟨w1.heap.size + 1, 0, none⟩) 1 1] ((w1.alloc (.cells #[.int .u8 97, .int .u8 98] 5 (2, 3))).alloc (.cells #[.int .i64 0, .slice (some ⟨w1.heap.size, 0, none⟩) 2 2] 57))
    fun e w' => e = .returned (.tuple #[.slice none 0 0, .int .i64 3]) ∧ Below w1.heap.size w1 w' := by
  have h1 := src_later (src_mark w1 [97, 98] (2, 3)) (bl_alloc (Below.refl _ _) (.cells #[.int .i64 0, .slice (some ⟨w1.heap.size, 0, none⟩) 2 2] 57))
  have h3 := Row.made (w1.alloc (.cells #[.int .u8 97, .int .u8 98] 5 (2, 3))) 57 #[.int .i64 0, .slice (some ⟨w1.heap.size, 0, none⟩) 2 2]
  rw [show (w1.alloc (.cells #[.int .u8 97, .int .u8 98] 5 (2, 3))).heap.size = w1.heap.size + 1 by simp] at h3
  refine (al_w1 h1 h3).mono ?_
  rintro e w' ⟨rfl, hb⟩
  exact ⟨rfl, bl_step (bl_alloc (bl_alloc (Below.refl w1.heap.size w1) _) _) hb⟩
theorem conv_at (w : World) (t e : TypeId) (C : Array Value) (n c g : Nat) (hg : g = w.heap.size) (ht : Try.prog.underlying t = some (.slice e)) (he : Try.prog.underlying e = some (.int .u8)) :
    (convert t t (.slice (some ⟨g, 0, none⟩) n c)).run Try.prog (w.alloc (.cells C e)) = .ok (.slice (some ⟨g, 0, none⟩) n c) (w.alloc (.cells C e (C.size, C.size + 1))) := by
  subst hg
  exact Lib.run_convert_bytes_const w t e C n c ht he
set_option maxRecDepth 100000 in
set_option maxHeartbeats 1600000 in
theorem malive_any (w : World) : Calls Try.prog 24 #[] w fun e w' => e = .returned (.bool true) ∧ Below w.heap.size w w' := by
  have kc1 := fun w => Lib.run_convert_bytes_const (P := Try.prog) w 42 5 #[.int .u8 97, .int .u8 98] 2 2 Try.underlying42 Try.underlying5
  have kc2 := fun (w1 : World) => conv_at (w1.alloc (.cells #[.int .u8 97, .int .u8 98] 5 (2, 3))) 42 5 #[.int .u8 99] 1 1 (w1.heap.size + 1) (by simp) Try.underlying42 Try.underlying5
  go_enter Try.func24, Try.ntmps24
  go_wp2_with (first
    | (go_at_call 25; (with_reducible refine (al_w0 _).mono ?_); rintro e w1 ⟨g1, rfl, hg1, hr1, hb1⟩; (have HR1 := Lib.hid hr1; have HB1 := Lib.hid hb1; clear hr1 hb1))
    | (go_at_call 25; (with_reducible refine (al_w2W w1).mono ?_); rintro e w2 ⟨g2, rfl, hg2, hr2, hb2⟩; (have HR12 := Lib.hid (HR1.out.later hb2); have HR2 := Lib.hid hr2; have HB2 := Lib.hid (bl_step HB1.out hb2); clear hr2 hb2))
    | (go_at_call 31; (with_reducible refine (al_r9 HR2.out).mono ?_); rintro e w3 ⟨b, o, rfl, hc3, hb3⟩; (have HR13 := Lib.hid (HR12.out.later hb3); have HR3 := Lib.hid (HR2.out.later hb3); have HB3 := Lib.hid (bl_step HB2.out hb3); have HC3 := Lib.hid hc3; clear hc3 hb3))
    | (go_at_call 31; (with_reducible refine (al_r1 HR3.out).mono ?_); rintro e w4 ⟨rfl, hb4⟩; (have HR14 := Lib.hid (HR13.out.later hb4); have HR4 := Lib.hid (HR3.out.later hb4); have HB4 := Lib.hid (bl_step HB3.out hb4); have HC4 := Lib.hid (cell_below hb4 HC3.out); clear hb4))
    | (go_at_call 25; (with_reducible refine (al_w1W w4).mono ?_); rintro e w5 ⟨rfl, hb5⟩; (have HB5 := Lib.hid (bl_step HB4.out hb5); have c5 := cell_below hb5 HC4.out; have d5 := (HR4.out.later hb5).read (i := 0) (x := .int .u8 24) rfl; have cv : (convert 42 9 (.slice (some ⟨g1, 0, none⟩) 2 2)).run Try.prog w5 = .ok (.string ⟨#[255, 255]⟩) w5 := conv_str (l := [255, 255]) (HR14.out.later hb5) (by decide))))
  go_ret
  exact ⟨rfl, HB5.out⟩
end Go.Proofs.Ytdaipfmckonfpaa
namespace Go.Proofs.Ytdaipfmckonfpaa
open Go.RowKit

def greatM (L : List PartM) : Bool := decide (40 < L.length) || L.any (fun m => decide (2100 < m.r.bs.length)) || decide (9000 < (plens L).sum)
set_option maxRecDepth 100000 in
set_option maxHeartbeats 800000 in
theorem mgreat_long {A : Option Addr} (n cap : Nat) (w : World) (hn : 40 < n) (hn9 : n ≤ 9223372036854775807) :
    Calls Try.prog 23 #[.slice A n cap] w fun e w' => e = .returned (.bool true) ∧ w = w' := by
  have h1 : (40 : Int) < n := by omega
  have h2 : (0 : Int) < n := by omega
  go_enter Try.func23, Try.ntmps23
  go_wp2
  go_loopw [3, 4] (fun t i wr => t = .int .i64 0 ∧ i = .int .i64 0 ∧ w = wr) (fun _ i _ => 0)
  case atStart => exact ⟨rfl, rfl, rfl⟩
  case round =>
    obtain ⟨rfl, rfl, rfl⟩ := hrel
    go_wp2
    go_ret
    exact ⟨rfl, rfl⟩
set_option maxRecDepth 100000 in
set_option maxHeartbeats 1600000 in
theorem mgreat_short {A : Option Addr} {L : List PartM} (n cap : Nat) (w : World) (hL : L.length = n) (hn : n ≤ 40) (hs : XSrc w A L) :
    Calls Try.prog 23 #[.slice A n cap] w fun e w' => e = .returned (.bool (L.any (fun m => decide (2100 < m.r.bs.length)) || decide (9000 < (plens L).sum))) ∧ w = w' := by
  have HS := Lib.hid hs
  have HL := Lib.hid hL
  have hn' : ¬ (40 : Int) < n := by omega
  clear hs hL
  go_enter Try.func23, Try.ntmps23
  go_wp2
  go_loopw [3, 4] (fun s i wr => ∃ k t : Nat, k ≤ n ∧ i = .int .i64 k ∧ s = .int .i64 t ∧ t ≤ 2100 * k ∧ Hid (t = (plens (L.take k)).sum) ∧ Hid (L.any (fun m => decide (2100 < m.r.bs.length)) = (L.drop k).any (fun m => decide (2100 < m.r.bs.length))) ∧ w = wr) (fun _ i _ => n - (intOf i).toNat)
  case atStart => exact ⟨0, 0, by omega, rfl, rfl, by omega, Lib.hid rfl, Lib.hid rfl, rfl⟩
  case round =>
    obtain ⟨k, t, hk, rfl, rfl, ht, HK, HA, rfl⟩ := hrel
    by_cases hlt : k < n
    · obtain ⟨ab, ao, rfl, hc⟩ := HS.out (by rw [HL.out]; omega)
      obtain ⟨⟨id, ⟨RA, rcap, bs⟩⟩, hr⟩ : ∃ r, L[k]? = some r := ⟨_, List.getElem?_eq_getElem (by rw [HL.out]; exact hlt)⟩
      obtain ⟨f0, f1, e2⟩ := hc k _ hr
      simp only [RowB.v] at f0 f1
      have HT := Lib.hid (plens_take hr)
      have HD := Lib.hid (show L.drop k = ⟨id, ⟨RA, rcap, bs⟩⟩ :: L.drop (k + 1) by
        obtain ⟨h1, h2⟩ := List.getElem?_eq_some_iff.1 hr
        rw [List.drop_eq_getElem_cons h1, h2])
      simp only at HT
      have hkI : (k : Int) < (n : Int) := by omega
      clear hc hr e2
      by_cases hb : 2100 < bs.length
      · have hbI : (2100 : Int) < (bs.length : Int) := by omega
        have HF := Lib.hid (show (L.any (fun m => decide (2100 < m.r.bs.length)) || decide (9000 < (plens L).sum)) = true by
          rw [HA.out, HD.out, List.any_cons, decide_eq_true hb]; rfl)
        go_wp2
        go_ret
        exact ⟨by rw [HF.out]; rfl, rfl⟩
      · have hbI : ¬ (2100 : Int) < (bs.length : Int) := by omega
        have HF := Lib.hid (show L.any (fun m => decide (2100 < m.r.bs.length)) = (L.drop (k + 1)).any (fun m => decide (2100 < m.r.bs.length)) by
          rw [HA.out, HD.out, List.any_cons, decide_eq_false hb, Bool.false_or])
        go_wp2
        go_roundw
        case rel => exact ⟨k + 1, t + bs.length, by omega, by go_num, by go_num, by omega, Lib.hid (by rw [HT.out, HK.out]; simp), HF, trivial⟩
        case measure => simp [intOf]; omega
    · have hkn : k = n := by omega
      subst hkn
      have HF := Lib.hid (show (L.any (fun m => decide (2100 < m.r.bs.length)) || decide (9000 < (plens L).sum)) = decide (9000 < t) by
        rw [HA.out, List.drop_of_length_le (by rw [HL.out]; exact Nat.le_refl _), HK.out, List.take_of_length_le (by rw [HL.out]; exact Nat.le_refl _)]; rfl)
      by_cases h9 : 9000 < t
      · have h9I : (9000 : Int) < (t : Int) := by omega
        go_wp2
        go_ret
        exact ⟨by rw [HF.out, decide_eq_true h9]; rfl, rfl⟩
      · have h9I : ¬ (9000 : Int) < (t : Int) := by omega
        go_wp2
        go_ret
        exact ⟨by rw [HF.out, decide_eq_false h9]; rfl, rfl⟩
theorem mgreat_any {A : Option Addr} {L : List PartM} (n cap : Nat) (w : World) (hL : L.length = n) (hn9 : n ≤ 9223372036854775807) (hs : XSrc w A L) :
    Calls Try.prog 23 #[.slice A n cap] w fun e w' => e = .returned (.bool (greatM L)) ∧ w = w' := by
  unfold greatM
  rw [hL]
  by_cases h : 40 < n
  · rw [decide_eq_true h]
    exact mgreat_long n cap w h hn9
  · rw [decide_eq_false h, Bool.false_or]
    exact mgreat_short n cap w hL (by omega) hs
theorem great_no {L : List PartM} (h : greatM L = false) : L.length ≤ 40 ∧ (∀ m ∈ L, m.r.bs.length ≤ 2100) ∧ (plens L).sum ≤ 9000 := by
  unfold greatM at h
  simp only [Bool.or_eq_false_iff, decide_eq_false_iff_not, List.any_eq_false, decide_eq_true_eq] at h
  exact ⟨by omega, fun m hm => by have := h.1.2 m hm; omega, by omega⟩
theorem Try.infoxparts : (Try.prog.info? 123).map (fun i => (i.zero, i.size, i.bytes)) = some (some (.agg #[.int .i64 0, .slice none 0 0]), 2, 32) := by kernel_rfl
theorem Try.underxparts : Try.prog.underlying 46 = some (.slice 123) := by kernel_rfl
theorem own_xsrc2 {B j c : Nat} {v : World} {A : Option Addr} {L : List PartM} (h : v.ownsRow B 123 2 (.slice A j c) j (pcells L)) (hok : ∀ m ∈ L, m.r.ok v) : XSrc v A L := by
  intro h0
  rcases h.2 with ⟨h1, h2⟩ | ⟨g, cap, cur, h1, h2, h3, h4, h5, h6, h7⟩
  · exfalso
    have h3 := h.1
    rw [h2] at h3
    have h4 : (pcells L).length = 2 * L.length := by
      clear h h0 hok h3
      induction L with
      | nil => rfl
      | cons a L ih => rw [show a :: L = [a] ++ L from rfl]; simp [pcells] at ih ⊢; omega
    omega
  · injection h1 with hA _ _
    refine ⟨g, 0, hA, fun k m hm => ?_⟩
    obtain ⟨h8, h9⟩ := pcells_at hm
    have hrd : ∀ (i : Nat) (u : Value), (pcells L)[i]? = some u → v.cell? ⟨g, i, none⟩ = some u := fun i u hu => by
      refine Row.read (t := 123) (cs := cur) h3 ?_
      rw [← h7, List.getElem?_take] at hu
      split at hu
      · simpa using hu
      · cases hu
    rw [Nat.zero_add]
    exact ⟨hrd _ _ h8, hrd _ _ h9, hok m (List.mem_of_getElem? hm)⟩
theorem new_two (w : World) (t : TypeId) (a b : Value) : ∀ j u, [a, b][j]? = some u → (w.alloc (.cells #[a, b] t)).cell? ((⟨w.heap.size, 0, none⟩ : Addr).add j) = some u := fun j u hu => by
  match j, hu with
  | 0, hu =>
    simp only [List.getElem?_cons_zero, Option.some.injEq] at hu
    subst hu
    rw [add_zero_o]
    exact (Row.made w t #[a, b]).read rfl
  | 1, hu =>
    simp only [List.getElem?_cons_succ, List.getElem?_cons_zero, Option.some.injEq] at hu
    subst hu
    rw [add_zero_o]
    exact (Row.made w t #[a, b]).read rfl
  | j + 2, hu => simp at hu
theorem two_one (a : Int) (A : Option Addr) (n c : Nat) : ∀ u ∈ [Value.int .i64 a, .slice A n c], u.oneCell' = true := by
  intro u hu
  simp at hu
  rcases hu with rfl | rfl <;> rfl
theorem own_shp {m E s n : Nat} {w : World} {x : Value} {xs : List Value} (h : w.ownsRow m E s x n xs) : ∃ A c, x = .slice A n c ∧ n ≤ c := by
  rcases h.2 with ⟨rfl, rfl⟩ | ⟨g, cap, cur, rfl, _, _, h1, _⟩
  · exact ⟨none, 0, rfl, Nat.le_refl _⟩
  · exact ⟨_, cap, rfl, h1⟩
set_option maxRecDepth 100000 in
set_option maxHeartbeats 3200000 in
theorem mas_any {A : Option Addr} {L : List PartM} (n c : Nat) (w : World) (hL : L.length = n) (hn : n ≤ 1000) (hs : XSrc w A L) :
    Calls Try.prog 27 #[.slice A n c] w fun e w' => ∃ A' c', e = .returned (.slice A' n c') ∧ n ≤ c' ∧ XSrc w' A' L ∧ Below w.heap.size w w' := by
  obtain ⟨i0, hi, hi0, hi1, hi2⟩ := info_parts Try.infoxparts
  have HS := Lib.hid hs
  have HN := Lib.hid hL
  clear hs hL
  go_enter Try.func27, Try.ntmps27
  go_wp2
  go_loopw [3, 4] (fun x i wr => ∃ k : Nat, k ≤ n ∧ i = .int .i64 k ∧ Hid (wr.ownsRow w.heap.size 123 2 x k (pcells (L.take k))) ∧ Hid (Below w.heap.size w wr)) (fun _ i _ => n - (intOf i).toNat)
  case atStart => exact ⟨0, by omega, rfl, Lib.hid (World.ownsRow_nil _ _ _ _), Lib.hid (Below.refl _ _)⟩
  case round =>
    obtain ⟨k, hk, rfl, HO, HB⟩ := hrel
    obtain ⟨Ax, cx, rfl, hkc⟩ := own_shp HO.out
    by_cases hkn : k < n
    · have hkn' : (k : Int) < n := by omega
      have hk0 : (0 : Int) ≤ k := by omega
      obtain ⟨ab, ao, rfl, hc⟩ := HS.out (by rw [HN.out]; omega)
      obtain ⟨⟨id, ⟨RA, rcap, bs⟩⟩, hr⟩ : ∃ r, L[k]? = some r := ⟨_, List.getElem?_eq_getElem (by rw [HN.out]; exact hkn)⟩
      obtain ⟨e0, e1, e2⟩ := hc k _ hr
      have u0 := cell_below HB.out e0
      have u1 := cell_below HB.out e1
      simp only [RowB.v] at u0 u1
      have HT := Lib.hid (show pcells (L.take (k + 1)) = pcells (L.take k) ++ [.int .i64 id, .slice RA bs.length rcap] by
        rw [List.take_add_one, hr, Option.toList_some, pcells_snoc]; rfl)
      have HK := Lib.hid hkn
      clear hr hc e0 e1 e2
      go_wp2
      go_region_law ((refine step_append_lies _ rfl (.tmp 11) (.tmp 23) 46 rfl w.heap.size 123 i0 (.agg #[.int .i64 0, .slice none 0 0]) 2 32 Try.underxparts hi hi0 hi1 hi2 rfl (by omega) (.slice Ax k cx) k (pcells (L.take k)) (by simp [Act.eval]) (World.ownsRow.alloc (w := wr.drew) HO.out _) ⟨wr.heap.size, 0, none⟩ 1 1 [.int .i64 id, .slice RA bs.length rcap] (by simp [Act.eval]) rfl (new_two _ _ _ _) (two_one _ _ _ _) (by omega) (by unfold maxLen; omega) (by omega) (by have := HB.out.size; simp; omega) _ rfl ?_); intro g3 c3 w3 hown3 hgrow3 hg3 hlt3)
      all_goals
        have HO3 := Lib.hid (show w3.ownsRow w.heap.size 123 2 (.slice (Option.some ⟨g3, 0, none⟩) (k + 1) c3) (k + 1) (pcells (L.take (k + 1))) from by
          rw [HT.out]
          exact hown3)
        have HB3 := Lib.hid ((bl_step HB.out (bl_drew (bl_alloc (Below.refl _ _) (.cells #[.int .i64 id, .slice RA bs.length rcap] 123)))).grown hgrow3 (by have := HB.out.size; simp; omega) (fun r hr => (own_block HO.out r hr).1))
        clear hown3 hgrow3 hg3
        go_wp2
        go_roundw
        case rel => exact ⟨k + 1, HK.out, by go_num, HO3, HB3⟩
        case measure => have := HK.out; simp [intOf]; omega
    · have hkn' : ¬ (k : Int) < n := by omega
      obtain rfl : k = n := by omega
      have HX := Lib.hid (show XSrc wr Ax L by
        have h := HO.out
        rw [List.take_of_length_le (by rw [HN.out]; exact Nat.le_refl _)] at h
        exact own_xsrc2 h (fun m hm => (HS.out.ok m hm).later HB.out))
      go_wp2
      go_ret
      exact ⟨_, _, rfl, hkc, HX.out, HB.out⟩
end Go.Proofs.Ytdaipfmckonfpaa
namespace Go.Proofs.Ytdaipfmckonfpaa
open Go.RowKit

set_option maxRecDepth 100000 in
set_option maxHeartbeats 3200000 in
theorem rsame30_any {A B : Option Addr} {L M : List PartM} (n m cap capb : Nat) (w : World) (hL : L.length = n) (hM : M.length = m) (hn : n ≤ 9223372036854775807) (hs : XSrc w A L) (hs' : XSrc w B M) :
    Calls Try.prog 30 #[.slice A n cap, .slice B m capb] w (SameAns (decide (pks L = pks M)) w) := by
  by_cases h : n = m
  · subst h
    have HS := Lib.hid hs
    have HS2 := Lib.hid hs'
    have HL := Lib.hid hL
    have HM := Lib.hid hM
    have hnn : ((n : Int) != (n : Int)) = false := by simp
    clear hs hs' hL hM
    go_enter Try.func30, Try.ntmps30
    go_wp2
    go_loopw [5] (fun i wr => ∃ k : Nat, k ≤ n ∧ i = .int .i64 k ∧ Hid (∀ j, j < k → (pks L)[j]? = (pks M)[j]?) ∧ Hid (Below w.heap.size w wr)) (fun i _ => n - (intOf i).toNat)
    case atStart => exact ⟨0, by omega, rfl, Lib.hid (fun j hj => by omega), Lib.hid (Below.refl _ _)⟩
    case round =>
      obtain ⟨k, hk, rfl, HK, HB⟩ := hrel
      by_cases hlt : k < n
      · obtain ⟨ab, ao, rfl, hc⟩ := HS.out (by rw [HL.out]; omega)
        obtain ⟨bb, bo, rfl, hc'⟩ := HS2.out (by rw [HM.out]; omega)
        obtain ⟨⟨i1, r⟩, hr⟩ : ∃ r, L[k]? = some r := ⟨_, List.getElem?_eq_getElem (by rw [HL.out]; exact hlt)⟩
        obtain ⟨⟨i2, r'⟩, hr'⟩ : ∃ r, M[k]? = some r := ⟨_, List.getElem?_eq_getElem (by rw [HM.out]; exact hlt)⟩
        have c1 := cell_below HB.out (hc k _ hr).1
        have c2 : wr.cell? ⟨ab, ao + k * 2 + 1, none⟩ = some (.slice r.A r.bs.length r.cap) := cell_below HB.out (hc k _ hr).2.1
        have c3 := cell_below HB.out (hc' k _ hr').1
        have c4 : wr.cell? ⟨bb, bo + k * 2 + 1, none⟩ = some (.slice r'.A r'.bs.length r'.cap) := cell_below HB.out (hc' k _ hr').2.1
        simp only at c1 c3
        have ho := (hc k _ hr).2.2.later HB.out
        have ho' := (hc' k _ hr').2.2.later HB.out
        simp only at ho ho'
        have d1 := fun q => conv_src r.bs.length r.cap rfl (src_later ho.1 (below_drewN (Below.refl _ _) q)) ho.2.2.2
        have d2 := fun q => conv_src r'.bs.length r'.cap rfl (src_later ho'.1 (below_drewN (Below.refl _ _) q)) ho'.2.2.2
        have hq := strOf_beq ho.2.2.2 ho'.2.2.2
        have hstep : i1 = i2 ∧ r.bs = r'.bs → ∀ j, j < k + 1 → (pks L)[j]? = (pks M)[j]? := fun he j hj => by
          rcases Nat.lt_or_ge j k with h2 | h2
          · exact HK.out j h2
          · obtain rfl : j = k := by omega
            rw [pks_at hr, pks_at hr']
            simp only [pk, he.1, he.2]
        have hdiff : ¬ (i1 = i2 ∧ r.bs = r'.bs) → pks L ≠ pks M := fun hd he => hd (by
          have h3 := pks_at hr
          rw [he, pks_at hr'] at h3
          injection h3 with h3
          simp only [pk, Prod.mk.injEq] at h3
          exact ⟨h3.1.symm, h3.2.symm⟩)
        have HST := Lib.hid hstep
        have HDF := Lib.hid hdiff
        have hkI : (k : Int) < (n : Int) := by omega
        have hk0 : (0 : Int) ≤ (k : Int) := by omega
        clear hc hc' hr hr' ho ho' hstep hdiff
        by_cases hi : i1 = i2
        · have hiI : (i1 != i2) = false := by simp [hi]
          by_cases he : r.bs = r'.bs
          · have HE := Lib.hid (And.intro hi he)
            rw [decide_eq_true he] at hq
            have hq2 : ((strOf r.bs).toList != (strOf r'.bs).toList) = false := by rw [bne, hq]; rfl
            clear he hi
            generalize r.bs.length = n1 at *
            generalize r'.bs.length = n2 at *
            generalize strOf r.bs = s1 at *
            generalize strOf r'.bs = s2 at *
            go_wp2_with fail
            go_quiet (fail)
            rename_i nq
            have HBD := Lib.hid (below_drewN HB.out nq)
            go_wp2_with fail
            go_roundw
            case rel => exact ⟨k + 1, by omega, by go_num, Lib.hid (HST.out HE.out), HBD⟩
            case measure => simp [intOf]; omega
          · have HE := Lib.hid (show ¬ (i1 = i2 ∧ r.bs = r'.bs) from fun h => he h.2)
            rw [decide_eq_false he] at hq
            have hq2 : ((strOf r.bs).toList != (strOf r'.bs).toList) = true := by rw [bne, hq]; rfl
            clear he hi
            generalize r.bs.length = n1 at *
            generalize r'.bs.length = n2 at *
            generalize strOf r.bs = s1 at *
            generalize strOf r'.bs = s2 at *
            go_wp2_with fail
            go_quiet (fail)
            rename_i nq
            have HBD := Lib.hid (below_drewN HB.out nq)
            go_wp2_with fail
            go_ret
            exact ⟨by rw [decide_eq_false (HDF.out HE.out)]; rfl, HBD.out⟩
        · have hiI : (i1 != i2) = true := by simp [hi]
          have HE := Lib.hid (show ¬ (i1 = i2 ∧ r.bs = r'.bs) from fun h => hi h.1)
          clear hq hi d1 d2
          go_wp2_with fail
          go_quiet (fail)
          rename_i nq
          have HBD := Lib.hid (below_drewN HB.out nq)
          go_wp2_with fail
          go_ret
          exact ⟨by rw [decide_eq_false (HDF.out HE.out)]; rfl, HBD.out⟩
      · have hkn : k = n := by omega
        have HA := Lib.hid (show pks L = pks M from List.ext_getElem? fun j => by
          rcases Nat.lt_or_ge j k with h2 | h2
          · exact HK.out j h2
          · rw [List.getElem?_eq_none (by rw [length_pks, HL.out]; omega), List.getElem?_eq_none (by rw [length_pks, HM.out]; omega)])
        clear hkn
        go_wp2
        go_ret
        exact ⟨by rw [decide_eq_true HA.out]; rfl, HB.out⟩
  · have HF := Lib.hid (show decide (pks L = pks M) = false from decide_eq_false fun h1 => h (by have := congrArg List.length h1; rw [length_pks, length_pks] at this; omega))
    have hnm : ((n : Int) != (m : Int)) = true := by simp; omega
    clear hL hM hs hs' h
    go_enter Try.func30, Try.ntmps30
    go_wp2
    go_ret
    exact ⟨by rw [HF.out]; rfl, Below.refl _ _⟩
end Go.Proofs.Ytdaipfmckonfpaa
