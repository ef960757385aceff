/-
  The document's answer for fields behind a head: the walk. The packet of amd that bytes are: the document's Read walked.
-/
import Derived.Test.YtgdpjaojlhdhdaaJAmdWrites15
import Derived.Test.YtgdpjaojlhdhdaaJAmdWrites10
namespace Go.Proofs.Ytgdpjaojlhdhdaa
open Go.RowKit


set_option maxRecDepth 100000 in
set_option maxHeartbeats 1600000 in
theorem refcut_no {A : Option Addr} {bs : List Nat} (wd n cap : Nat) (wi : Int) (w : World) (hn : bs.length = n) (hm : n ≤ 8000) (hc : n ≤ cap) (hcm : cap ≤ 9223372036854775807) (hs : Src w A (bts bs)) (hb : ∀ b ∈ bs, b < 256) :
    Calls Try.prog 179 #[.slice A n cap, .bool false, .int .i64 wi] w (RcAns A bs w (fldR bs false wd)) := by
  have hF : fldR bs false wd = ansOf (cutF bs []) := rfl
  rcases Nat.eq_zero_or_pos n with h0 | h0
  · have HF := Lib.hid (show fldR bs false wd = (8, []) by
      rw [hF]
      have : bs = [] := List.eq_nil_of_length_eq_zero (by omega)
      subst this
      rfl)
    subst h0
    clear hs hb hn hF
    go_enter Try.func179, Try.ntmps179
    go_wp2
    go_loopw [9, 13, 14] (fun av ov iv wr => av = .int .i64 0 ∧ ov = .slice none 0 0 ∧ iv = .int .i64 0 ∧ w = wr) (fun _ _ _ _ => 0)
    case atStart => exact ⟨rfl, rfl, rfl, rfl⟩
    case round =>
      obtain ⟨rfl, rfl, rfl, rfl⟩ := hrel
      go_wp2
      go_ret2
      exact ⟨.inr ⟨by rw [HF.out]; decide, by rw [HF.out]; rfl⟩, Below.refl _ _⟩
  · have HF := Lib.hid (show fldR bs false wd = (0, [bs]) by
      rw [hF]
      unfold cutF
      rw [if_neg (fun e => by rw [e] at hn; simp at hn; omega)]
      rfl)
    obtain ⟨ad, rfl, _⟩ := hs (by rw [length_bts]; omega)
    have hge : ¬ (n : Int) ≤ 0 := by omega
    have HROW := Lib.hid (fun V (hs : Src V (some ad) (bts bs)) => (show RowB.ok V ⟨some ad, cap, bs⟩ from ⟨hs, by show bs.length ≤ cap; omega, hcm, hb⟩))
    have HN := Lib.hid hn
    clear hs hb hn hF
    go_enter Try.func179, Try.ntmps179
    go_wp2
    go_loopw [9, 13, 14] (fun av ov iv wr => av = .int .i64 0 ∧ ov = .slice none 0 0 ∧ iv = .int .i64 0 ∧ w = wr) (fun _ _ _ _ => 0)
    case atStart => exact ⟨rfl, rfl, rfl, rfl⟩
    case round =>
      obtain ⟨rfl, rfl, rfl, rfl⟩ := hrel
      obtain ⟨g3, c3, w3, hr3, ho3⟩ := OwnL.next (B := w.heap.size) (w0 := w) (A0 := some ad) (bs0 := bs) (w := w) (v := .slice none 0 0) (L := []) ⟨World.ownsRow_nil _ _ _ _, (fun _ h => by cases h), Below.refl _ _⟩ (Nat.le_refl _) ⟨some ad, cap, bs⟩ HROW.out (by simp)
      simp only [List.length_nil, Nat.zero_add, List.nil_append, HN.out] at hr3 ho3
      have HO3 := Lib.hid ho3
      clear ho3
      go_wp2_with (at_builtin; refine wpList_run rfl (.tmp 65) (.tmp 69) 40 rfl (.slice none 0 0) (.slice (some ⟨w.heap.size, 0, none⟩) 1 1) (by rfl) (by rfl) hr3 ?_)
      obtain ⟨Af, cf, hf, hf1, hf2⟩ := HO3.out.form
      injection hf with hfa hfb hfc
      subst hfc
      go_ret2
      exact ⟨.inl ⟨by rw [HF.out], _, _, [⟨some ad, cap, bs⟩], by rw [HF.out]; rfl, rfl, (fun V S ho hS hs => HO3.out.src ho hS hs), hf1, hf2⟩, HO3.out.below⟩

theorem RcSt.cell {w0 wr : World} {A0 : Option Addr} {bs ls : List Nat} {at0 k a : Nat} {L : List RowB} {v : Value} (h : RcSt w0 A0 bs ls at0 k a L v wr) : (bs.drop at0).drop (a - at0) = bs.drop a := by
  rw [List.drop_drop]
  congr 1
  have := h.ge
  omega
set_option maxRecDepth 100000 in
set_option maxHeartbeats 6400000 in
theorem refcut_yes {A : Option Addr} {bs : List Nat} (wd n cap : Nat) (wi : Int) (w : World) (hw : wd = 11 ∨ wd = 15) (e : wi = wd) (hn : bs.length = n) (hm : n ≤ 8000) (hc : n ≤ cap) (hcm : cap ≤ 9223372036854775807) (hs : Src w A (bts bs)) (hb : ∀ b ∈ bs, b < 256)
    (hany : (readF bs wd).1.any (fun x => decide (2047 < x)) = false) :
    Calls Try.prog 179 #[.slice A n cap, .bool true, .int .i64 wi] w (RcAns A bs w (fldR bs true wd)) := by
  have HRD := Lib.hid (show Calls Try.prog 178 #[.slice A n cap, .int .i64 wi] w (RrAns w bs wd) from by
    subst e
    rcases hw with rfl | rfl
    · exact refread_11 n cap w hn (by omega) hs hb
    · exact refread_15 n cap w hn (by omega) hs hb)
  by_cases h0 : (readF bs wd).2.2 = 0
  · obtain ⟨ls, k0, hrf⟩ : ∃ ls k, readF bs wd = (ls, k, 0) := ⟨(readF bs wd).1, (readF bs wd).2.1, by rw [← h0]⟩
    obtain ⟨q1, q2, q3, q4, q5, q6⟩ := read_write hb hrf
    rw [hrf] at hany
    have HF := Lib.hid (show fldR bs true wd = ansOf (cutF (bs.drop k0) ls) by
      unfold fldR
      rw [hrf]
      simp only [if_true]
      rw [hany]
      rfl)
    have q7 : 1 ≤ ls.length := by
      cases ls with
      | nil => exact absurd rfl q1
      | cons => simp
    have hn1 : 1 ≤ n := by
      have : 1 ≤ packLen (ls.length * (wd + 1)) := by
        have h9 : 1 * 1 ≤ ls.length * (wd + 1) := Nat.mul_le_mul q7 (by omega)
        unfold packLen
        omega
      omega
    have HRD2 := Lib.hid (show Calls Try.prog 178 #[.slice A n cap, .int .i64 wi] w fun e w' => ∃ (Al : Option Addr) (cl : Nat), e = .returned (.tuple #[.slice Al ls.length cl, .int .i64 (k0 : Nat), .int .i64 0]) ∧ Src w' Al (insN ls) ∧ Below w.heap.size w w' from HRD.out.mono fun e w' h => by
      unfold RrAns at h
      rw [hrf] at h
      obtain ⟨h | h, hbl⟩ := h
      · obtain ⟨_, u, rfl, hu⟩ := h
        have hu2 : w'.ownsRow w.heap.size 3 1 u ls.length (insN ls) := hu
        obtain ⟨Al, cl, rfl⟩ : ∃ Al cl, u = .slice Al ls.length cl := by
          rcases hu2.2 with ⟨rfl, h0⟩ | ⟨g, cap, cur, rfl, _⟩
          · exact ⟨none, 0, by rw [h0]⟩
          · exact ⟨_, cap, rfl⟩
        refine ⟨Al, cl, rfl, fun h9 => ?_, hbl⟩
        obtain ⟨g, cap', hv, _, _⟩ := hu2.form (by omega)
        injection hv with hA _ _
        subst hA
        exact ⟨_, rfl, hu2.cells (g := g) rfl⟩
      · exact absurd rfl h.1)
    have hls : ∀ x ∈ ls, 1 ≤ x ∧ x < 65536 := fun x hx => ⟨(q3 x hx).1, Nat.lt_of_lt_of_le (q3 x hx).2 (by rcases hw with rfl | rfl <;> decide)⟩
    obtain ⟨ad, rfl, _⟩ := hs (by rw [length_bts]; omega)
    have HROW := Lib.hid (fun a m (h : a + m ≤ n) V (hs : Src V (some ad) (bts bs)) => row_at hs hb hn hc hcm a m h)
    have HN := Lib.hid hn
    have HL := Lib.hid hls
    have hk0 : k0 ≤ n := by omega
    clear hs hb hn hls HRD h0 hrf hw e hany q1 q3 q5 q6
    obtain ⟨m, hm⟩ : ∃ m, ls.length = m := ⟨_, rfl⟩
    rw [hm] at HRD2 q2 q7
    have HM := Lib.hid hm
    clear hm q4
    go_enter Try.func179, Try.ntmps179
    go_wp2_with (go_at_call 178; refine HRD2.out.mono ?_; rintro e w1 ⟨Al, cl, rfl, hsl, hb1⟩; (have HSL := Lib.hid hsl; have HB1 := Lib.hid hb1; clear hsl hb1))
    go_loopw [9, 13, 14] (fun av ov iv wr => ∃ (k a : Nat) (L : List RowB), k ≤ m ∧ a ≤ n ∧ iv = .int .i64 k ∧ av = .int .i64 a ∧ Hid (RcSt w1 (some ad) bs ls k0 k a L ov wr)) (fun _ _ iv _ => m - (intOf iv).toNat)
    case atStart => exact ⟨0, k0, [], by omega, hk0, rfl, rfl, Lib.hid ⟨⟨World.ownsRow_nil _ _ _ _, (fun _ h => by cases h), Below.refl _ _⟩, by rw [Nat.sub_self]; exact CInv.start _ _, rfl, Nat.le_refl _, by rw [HN.out]; exact hk0⟩⟩
    case round =>
      obtain ⟨k, a, L, hk, ha, rfl, rfl, HS⟩ := hrel
      obtain ⟨Av, cv, rfl, hv1, hv2⟩ := HS.out.own.form
      have hlk := HS.out.len
      rw [hlk] at hv1 HS ⊢
      have HLK := Lib.hid hlk
      clear hlk
      by_cases hlt : k < m
      · obtain ⟨adl, rfl, hcl⟩ := HSL.out (by rw [length_insN, HM.out]; omega)
        obtain ⟨mm, hmm⟩ : ∃ mm, ls[k]? = some mm := ⟨_, List.getElem?_eq_getElem (by rw [HM.out]; exact hlt)⟩
        obtain ⟨hm1, hm2⟩ := HL.out mm (List.mem_of_getElem? hmm)
        have hcell : wr.cell? (adl.add k) = some (.int .i64 mm) := cell_below HS.out.own.below (hcl _ _ (insN_at hmm))
        have hmm' : ls[(texts L).length]? = some mm := by rw [length_texts, HLK.out]; exact hmm
        clear hcl hmm
        by_cases hsh : n < a + mm
        · have hsh1 : (n : Int) < (a : Int) + mm := by omega
          have HE := Lib.hid (HS.out.inv.short hmm' (by have := HS.out.ge; have := HN.out; rw [List.length_drop]; omega))
          have HBW := Lib.hid (HB1.out.trans (HS.out.own.below.mono HB1.out.size))
          clear hmm'
          go_wp2
          go_ret2
          exact ⟨.inr ⟨by rw [HF.out, HE.out]; decide, by rw [HF.out, HE.out]; rfl⟩, HBW.out⟩
        · have hsh1 : ¬ (n : Int) < (a : Int) + mm := by omega
          have hac : a < cap := by omega
          have hamc : a + mm ≤ cap := by omega
          have hNX := HS.out.inv.next hmm' (by have := HS.out.ge; have := HN.out; rw [List.length_drop]; omega)
          rw [HS.out.cell] at hNX
          obtain ⟨g3, c3, w3, hr3, ho3⟩ := HS.out.own.next HS.out.own.below.size ⟨some (ad.add a), cap - a, (bs.drop a).take mm⟩ (HROW.out a mm (by omega)) (by have := HLK.out; omega)
          have htl : ((bs.drop a).take mm).length = mm := by rw [List.length_take, List.length_drop]; have := HN.out; omega
          simp only [htl, HLK.out] at hr3 ho3
          have HS2 := Lib.hid (show RcSt w1 (some ad) bs ls k0 (k + 1) (a + mm) (L ++ [⟨some (ad.add a), cap - a, (bs.drop a).take mm⟩]) (.slice (some ⟨g3, 0, none⟩) (k + 1) c3) w3 from
            ⟨ho3, by unfold texts; rw [List.map_append, show a + mm - k0 = a - k0 + mm by have := HS.out.ge; omega]; exact hNX, by rw [List.length_append, HLK.out]; rfl, by have := HS.out.ge; omega, by have := HN.out; omega⟩)
          have hcell3 : w3.cell? (adl.add k) = some (.int .i64 mm) := by
            have h9 := HSL.out (by rw [length_insN, HM.out]; omega)
            obtain ⟨ad9, e9, hc9⟩ := h9
            injection e9 with e9
            subst e9
            obtain ⟨hkl, hkm⟩ := List.getElem?_eq_some_iff.1 hmm'
            rw [length_texts, HLK.out] at hmm'
            exact cell_below ho3.below (hc9 _ _ (insN_at hmm'))
          clear hmm' hNX ho3 htl
          go_wp2_with (at_builtin; refine wpList_run rfl (.tmp 43) (.tmp 53) 40 rfl (.slice Av k cv) (.slice (some ⟨wr.heap.size, 0, none⟩) 1 1) (by rfl) (by rfl) hr3 ?_)
          go_roundw
          case rel => exact ⟨k + 1, a + mm, _, by omega, by omega, by go_num, by go_num, HS2⟩
          case measure => simp [intOf]; omega
      · have hkm : k = m := by omega
        have hlm : (texts L).length = ls.length := by rw [length_texts, HLK.out, HM.out]; exact hkm
        have hlt1 : ¬ ((k : Int) < (m : Int)) := by omega
        clear hkm
        by_cases hsh : n ≤ a
        · have hsh1 : (n : Int) ≤ (a : Int) := by omega
          have HE := Lib.hid (HS.out.inv.last_short hlm (by have := HS.out.ge; have := HN.out; rw [List.length_drop]; omega))
          have HBW := Lib.hid (HB1.out.trans (HS.out.own.below.mono HB1.out.size))
          clear hlm
          go_wp2
          go_ret2
          exact ⟨.inr ⟨by rw [HF.out, HE.out]; decide, by rw [HF.out, HE.out]; rfl⟩, HBW.out⟩
        · have hsh1 : ¬ (n : Int) ≤ (a : Int) := by omega
          have hac : a < cap := by omega
          have hE := HS.out.inv.last hlm (by have := HS.out.ge; have := HN.out; rw [List.length_drop]; omega)
          rw [HS.out.cell] at hE
          have hrow := HROW.out a (n - a) (by omega)
          have htk : (bs.drop a).take (n - a) = bs.drop a := List.take_of_length_le (by rw [List.length_drop, HN.out]; exact Nat.le_refl _)
          rw [htk] at hrow
          obtain ⟨g3, c3, w3, hr3, ho3⟩ := HS.out.own.next HS.out.own.below.size ⟨some (ad.add a), cap - a, bs.drop a⟩ hrow (by have := HLK.out; omega)
          have htl : (bs.drop a).length = n - a := by rw [List.length_drop, HN.out]
          simp only [htl, HLK.out] at hr3 ho3
          have HFF := Lib.hid (show fldR bs true wd = (0, texts (L ++ [⟨some (ad.add a), cap - a, bs.drop a⟩])) by
            rw [HF.out, hE]
            unfold texts
            rw [List.map_append]
            rfl)
          have HO3 := Lib.hid ho3
          clear hlm hE hrow htk htl ho3
          go_wp2_with (at_builtin; refine wpList_run rfl (.tmp 65) (.tmp 69) 40 rfl (.slice Av k cv) (.slice (some ⟨wr.heap.size, 0, none⟩) 1 1) (by rfl) (by rfl) hr3 ?_)
          obtain ⟨Af, cf, hf, hf1, hf2⟩ := HO3.out.form
          injection hf with hfa hfb hfc
          subst hfc
          have HLL := Lib.hid hfb
          clear hfa hfb
          go_ret2
          exact ⟨.inl ⟨by rw [HFF.out], some ⟨g3, 0, none⟩, c3, L ++ [⟨some (ad.add a), cap - a, bs.drop a⟩], by rw [HFF.out], by rw [← HLL.out]; rfl, (fun V S ho hS hs => HO3.out.src ho (fun k hk => Nat.lt_of_lt_of_le (hS k hk) HB1.out.size) hs), hf1, hf2⟩, HB1.out.trans (HO3.out.below.mono HB1.out.size)⟩
  · have HF := Lib.hid (show fldR bs true wd = ((readF bs wd).2.2, []) by unfold fldR; rw [if_pos rfl, if_neg h0])
    have HRD2 := Lib.hid (show Calls Try.prog 178 #[.slice A n cap, .int .i64 wi] w fun e w' => e = .returned (.tuple #[.slice none 0 0, .int .i64 0, .int .i64 (readF bs wd).2.2]) ∧ Below w.heap.size w w' from HRD.out.mono fun e w' h => by
      obtain ⟨h | h, hbl⟩ := h
      · exact absurd h.1 h0
      · exact ⟨h.2, hbl⟩)
    generalize (readF bs wd).2.2 = er at *
    have h1 : (er != 0) = true := by simpa using h0
    have H0 := Lib.hid h0
    clear hs hb hn HRD h0 hw e hany
    go_enter Try.func179, Try.ntmps179
    go_wp2_with (go_at_call 178; refine HRD2.out.mono ?_; rintro e w1 ⟨rfl, hb1⟩)
    go_ret2
    rw [HF.out]
    exact ⟨.inr ⟨H0.out, rfl⟩, hb1⟩
end Go.Proofs.Ytgdpjaojlhdhdaa
namespace Go.Proofs.Ytgdpjaojlhdhdaa
open Go.RowKit

set_option maxRecDepth 100000 in
set_option maxHeartbeats 6400000 in
theorem rr10_none {ad : Addr} {bs : List Nat}  (q : Bool) (b wd m n cap : Nat) (x0 : Int) (w : World) (hx0 : (x0 == 0) = false) (hn1 : n ≤ 4000) (hn0 : 0 < n) (hm : m ≤ n) (hcap : n ≤ cap)  (hb2 : ¬ (b : Int) < 128) (hq : ((b : Int) / 64 % 2 == 1) = q)
    (hca : ∀ W, Below w.heap.size w W → W.cell? (ad.add 0) = some (.int .u8 b) ∧ W.cell? ad = some (.int .u8 b))
    (hh : ∀ W, Calls Try.prog 45 #[.bool false, .int .i64 wd] W fun e w' => e = .returned (.int .i64 x0) ∧ W = w') (hh2 : ∀ W, Calls Try.prog 45 #[.bool q, .int .i64 wd] W fun e w' => e = .returned (.int .i64 m) ∧ W = w')
    (hbi : ∀ W, Below w.heap.size w W → Calls Try.prog 176 #[.slice (some ad) m cap] W fun e w' => ∃ A7 c7, e = .returned (.slice A7 (8 * m) c7) ∧ SrcB w' A7 (bls (bitsOf (bs.take m))) ∧ Below W.heap.size W w')
    (hr : ∀ W A7 c7, SrcB W A7 (bls (bitsOf (bs.take m))) → Calls Try.prog 175 #[.slice A7 (8 * m) c7, .int .i64 wd] W fun e w' => e = .returned (.tuple #[.agg #[.bool false, .int .i64 0, .int .i64 0, .bool false, .bool false, .int .i64 0, .slice none 0 0], .bool false, .bool false]) ∧ Below W.heap.size W w') :
    Calls Try.prog 35 #[.slice (some ad) n cap, .int .i64 wd] w fun e w' => e = .returned (.tuple #[.agg #[.bool false, .int .i64 0, .int .i64 0, .bool false, .bool false, .int .i64 0, .slice none 0 0], .int .i64 3]) ∧ Below w.heap.size w w' := by
  have hnz : ((n : Int) == 0) = false := by simp; omega
  have hn4 : ¬ (4000 : Int) < n := by omega
  have hmn : decide (n < m) = false := decide_eq_false (by omega)
  obtain ⟨ca, cb'⟩ := hca _ (bl_alloc (Below.refl w.heap.size w) (.cells #[.bool false, .int .i64 0, .int .i64 0, .bool false, .bool false, .int .i64 0, .slice none 0 0] 60))
  have HB0 := Lib.hid (bl_alloc (Below.refl w.heap.size w) (.cells #[.bool false, .int .i64 0, .int .i64 0, .bool false, .bool false, .int .i64 0, .slice none 0 0] 60))
  have ROW0 := Lib.hid (Row.made w 60 #[.bool false, .int .i64 0, .int .i64 0, .bool false, .bool false, .int .i64 0, .slice none 0 0])
  have HH := Lib.hid hh
  have HH2 := Lib.hid hh2
  have HBI := Lib.hid hbi
  have HR := Lib.hid hr
  clear hca hh hh2 hbi hr
  go_enter Try.func35, Try.ntmps35
  go_wp2_with (first
    | (go_at_call 45; (with_reducible refine (HH.out _).mono ?_); rintro e wx ⟨rfl, rfl⟩)
    | (go_at_call 45; (with_reducible refine (HH2.out _).mono ?_); rintro e wx ⟨rfl, rfl⟩)
    | (go_at_call 176; refine (HBI.out _ HB0.out).mono ?_; rintro e w2 ⟨A7, c7, rfl, hs7, hb2'⟩; (have HR7 := Lib.hid (HR.out _ _ c7 hs7); have R2 := Lib.hid (ROW0.out.later hb2'); have HB2 := Lib.hid (HB0.out.trans (hb2'.mono HB0.out.size)); clear hs7 hb2'))
    | (go_at_call 175; refine HR7.out.mono ?_; rintro e w3 ⟨rfl, hb3⟩; (have HB3 := Lib.hid (HB2.out.trans (hb3.mono HB2.out.size)); have R3 := R2.out.later hb3; have RW3 := Lib.hid R3; have hz3 : w.heap.size < w3.heap.size := R3.inside; obtain ⟨⟨d0, d1, d2, d3, d4, d5, d6⟩, e0, e1, e2, e3, e4, e5, e6⟩ := cells_ref10 R3; have HB4 := Lib.hid (bl_alloc HB3.out (.cells #[.bool false, .int .i64 0, .int .i64 0, .bool false, .bool false, .int .i64 0, .slice none 0 0] 60)); have RQ := Lib.hid (Row.made w3 60 #[.bool false, .int .i64 0, .int .i64 0, .bool false, .bool false, .int .i64 0, .slice none 0 0]); clear hb3 R3)))
  obtain ⟨dd, hdd⟩ := underref10_parts
  refine bodyPost_ret (results_two rfl _ _ w.heap.size 60 #[.bool false, .int .i64 0, .int .i64 0, .bool false, .bool false, .int .i64 0, .slice none 0 0] dd rfl ((((((((RW3.out.written 0 (.bool false)).written 1 (.int .i64 0)).written 2 (.int .i64 0)).written 3 (.bool false)).written 4 (.bool false)).written 5 (.int .i64 0)).written 6 (.slice none 0 0)).more (.cells #[.bool false, .int .i64 0, .int .i64 0, .bool false, .bool false, .int .i64 0, .slice none 0 0] 60)) hdd Try.inforef10) rfl ?_
  exact ⟨rfl, bl_alloc (((((((HB3.out.setCell (p := ⟨w.heap.size, 0, none⟩) (Nat.le_refl _) (.bool false)).setCell (p := ⟨w.heap.size, 1, none⟩) (Nat.le_refl _) (.int .i64 0)).setCell (p := ⟨w.heap.size, 2, none⟩) (Nat.le_refl _) (.int .i64 0)).setCell (p := ⟨w.heap.size, 3, none⟩) (Nat.le_refl _) (.bool false)).setCell (p := ⟨w.heap.size, 4, none⟩) (Nat.le_refl _) (.bool false)).setCell (p := ⟨w.heap.size, 5, none⟩) (Nat.le_refl _) (.int .i64 0)).setCell (p := ⟨w.heap.size, 6, none⟩) (Nat.le_refl _) (.slice none 0 0)) _⟩
set_option maxRecDepth 100000 in
set_option maxHeartbeats 6400000 in
theorem rr10_err {ad Ab : Addr} {bs : List Nat} (poll part last : Bool) (fi sn off : Nat) (er : Int) (q : Bool) (b wd m n cap cb : Nat) (lw ow : Int) (x0 : Int) (w : World) (hx0 : (x0 == 0) = false) (hn1 : n ≤ 4000) (hn0 : 0 < n) (hm : m ≤ n) (hcap : n ≤ cap) (hcut : (m < cap ∧ Ab = ad.add m ∧ cb = cap - m) ∨ (cap = m ∧ Ab = ad ∧ cb = 0)) (hb2 : ¬ (b : Int) < 128) (hq : ((b : Int) / 64 % 2 == 1) = q)
    (hca : ∀ W, Below w.heap.size w W → W.cell? (ad.add 0) = some (.int .u8 b) ∧ W.cell? ad = some (.int .u8 b))
    (hh : ∀ W, Calls Try.prog 45 #[.bool false, .int .i64 wd] W fun e w' => e = .returned (.int .i64 x0) ∧ W = w') (hh2 : ∀ W, Calls Try.prog 45 #[.bool q, .int .i64 wd] W fun e w' => e = .returned (.int .i64 m) ∧ W = w')
    (hbi : ∀ W, Below w.heap.size w W → Calls Try.prog 176 #[.slice (some ad) m cap] W fun e w' => ∃ A7 c7, e = .returned (.slice A7 (8 * m) c7) ∧ SrcB w' A7 (bls (bitsOf (bs.take m))) ∧ Below W.heap.size W w')
    (hr : ∀ W A7 c7, SrcB W A7 (bls (bitsOf (bs.take m))) → Calls Try.prog 175 #[.slice A7 (8 * m) c7, .int .i64 wd] W fun e w' => e = .returned (.tuple #[.agg #[.bool poll, .int .i64 fi, .int .i64 sn, .bool part, .bool last, .int .i64 off, .slice none 0 0], .bool true, .bool true]) ∧ Below W.heap.size W w')
    (hrd : ∀ W, Below w.heap.size w W → Calls Try.prog 178 #[.slice (some Ab) (n - m) cb, .int .i64 lw] W fun e w' => e = .returned (.tuple #[.slice none 0 0, .int .i64 0, .int .i64 er]) ∧ Below W.heap.size W w')
    (h0 : er ≠ 0)
    (hl : ∀ W, Calls Try.prog 177 #[.int .i64 wd] W fun e w' => e = .returned (.tuple #[.int .i64 lw, .int .i64 ow]) ∧ W = w') :
    Calls Try.prog 35 #[.slice (some ad) n cap, .int .i64 wd] w fun e w' => e = .returned (.tuple #[.agg #[.bool false, .int .i64 0, .int .i64 0, .bool false, .bool false, .int .i64 0, .slice none 0 0], .int .i64 er]) ∧ Below w.heap.size w w' := by
  have he : (er != 0) = true := by simpa using h0
  have hnz : ((n : Int) == 0) = false := by simp; omega
  have hn4 : ¬ (4000 : Int) < n := by omega
  have hmn : decide (n < m) = false := decide_eq_false (by omega)
  obtain ⟨ca, cb'⟩ := hca _ (bl_alloc (Below.refl w.heap.size w) (.cells #[.bool false, .int .i64 0, .int .i64 0, .bool false, .bool false, .int .i64 0, .slice none 0 0] 60))
  have HB0 := Lib.hid (bl_alloc (Below.refl w.heap.size w) (.cells #[.bool false, .int .i64 0, .int .i64 0, .bool false, .bool false, .int .i64 0, .slice none 0 0] 60))
  have ROW0 := Lib.hid (Row.made w 60 #[.bool false, .int .i64 0, .int .i64 0, .bool false, .bool false, .int .i64 0, .slice none 0 0])
  rcases hcut with ⟨hk, rfl, rfl⟩ | ⟨rfl, rfl, rfl⟩
  · have HH := Lib.hid hh
    have HH2 := Lib.hid hh2
    have HBI := Lib.hid hbi
    have HR := Lib.hid hr
    have HL := Lib.hid hl
    have HRD := Lib.hid hrd
    clear hca hh hh2 hbi hr hl hrd h0
    go_enter Try.func35, Try.ntmps35
    go_wp2_with (first
      | (go_at_call 45; (with_reducible refine (HH.out _).mono ?_); rintro e wx ⟨rfl, rfl⟩)
      | (go_at_call 45; (with_reducible refine (HH2.out _).mono ?_); rintro e wx ⟨rfl, rfl⟩)
      | (go_at_call 176; refine (HBI.out _ HB0.out).mono ?_; rintro e w2 ⟨A7, c7, rfl, hs7, hb2'⟩; (have HR7 := Lib.hid (HR.out _ _ c7 hs7); have R2 := Lib.hid (ROW0.out.later hb2'); have HB2 := Lib.hid (HB0.out.trans (hb2'.mono HB0.out.size)); clear hs7 hb2'))
      | (go_at_call 175; refine HR7.out.mono ?_; rintro e w3 ⟨rfl, hb3⟩; (have HB3 := Lib.hid (HB2.out.trans (hb3.mono HB2.out.size)); have R3 := R2.out.later hb3; have RW3 := Lib.hid R3; have hz3 : w.heap.size < w3.heap.size := R3.inside; obtain ⟨⟨d0, d1, d2, d3, d4, d5, d6⟩, e0, e1, e2, e3, e4, e5, e6⟩ := cells_ref10 R3; have HB4 := Lib.hid (bl_alloc HB3.out (.cells #[.bool poll, .int .i64 fi, .int .i64 sn, .bool part, .bool last, .int .i64 off, .slice none 0 0] 60)); have RQ := Lib.hid (Row.made w3 60 #[.bool poll, .int .i64 fi, .int .i64 sn, .bool part, .bool last, .int .i64 off, .slice none 0 0]); clear hb3 R3))
      | (go_at_call 177; (with_reducible refine (HL.out _).mono ?_); rintro e wx ⟨rfl, rfl⟩)
      | (go_at_call 178; refine (HRD.out _ HB4.out).mono ?_; rintro e w5 ⟨rfl, hb5⟩; clear d0 d1 d2 d3 d4 d5 d6 e0 e1 e2 e3 e4 e5 e6; (have RW5 := Lib.hid ((RW3.out.more (.cells #[.bool poll, .int .i64 fi, .int .i64 sn, .bool part, .bool last, .int .i64 off, .slice none 0 0] 60)).later hb5); have RQ5 := Lib.hid (RQ.out.later hb5); obtain ⟨⟨d0, d1, d2, d3, d4, d5, d6⟩, e0, e1, e2, e3, e4, e5, e6⟩ := cells_ref10 RW5.out; obtain ⟨⟨c0, c1, c2, c3, c4, c5, c6⟩, f0, f1, f2, f3, f4, f5, f6⟩ := cells_ref10 RQ5.out; have HB5 := Lib.hid (HB4.out.trans (hb5.mono HB4.out.size)); have hzq : w3.heap.size < w5.heap.size := RQ5.out.inside; clear hb5)))
    obtain ⟨dd, hdd⟩ := underref10_parts
    refine bodyPost_ret (results_two rfl _ _ w.heap.size 60 #[.bool false, .int .i64 0, .int .i64 0, .bool false, .bool false, .int .i64 0, .slice none 0 0] dd rfl (((((((RW5.out.written 0 (.bool false)).written 1 (.int .i64 0)).written 2 (.int .i64 0)).written 3 (.bool false)).written 4 (.bool false)).written 5 (.int .i64 0)).written 6 (.slice none 0 0)) hdd Try.inforef10) rfl ?_
    exact ⟨rfl, (((((((HB5.out.setCell (p := ⟨w.heap.size, 0, none⟩) (Nat.le_refl _) (.bool false)).setCell (p := ⟨w.heap.size, 1, none⟩) (Nat.le_refl _) (.int .i64 0)).setCell (p := ⟨w.heap.size, 2, none⟩) (Nat.le_refl _) (.int .i64 0)).setCell (p := ⟨w.heap.size, 3, none⟩) (Nat.le_refl _) (.bool false)).setCell (p := ⟨w.heap.size, 4, none⟩) (Nat.le_refl _) (.bool false)).setCell (p := ⟨w.heap.size, 5, none⟩) (Nat.le_refl _) (.int .i64 0)).setCell (p := ⟨w.heap.size, 6, none⟩) (Nat.le_refl _) (.slice none 0 0))⟩
  · obtain rfl : n = cap := by omega
    simp only [Nat.sub_self] at hrd
    have HH := Lib.hid hh
    have HH2 := Lib.hid hh2
    have HBI := Lib.hid hbi
    have HR := Lib.hid hr
    have HL := Lib.hid hl
    have HRD := Lib.hid hrd
    clear hca hh hh2 hbi hr hl hrd h0
    go_enter Try.func35, Try.ntmps35
    go_wp2_with (first
      | (go_at_call 45; (with_reducible refine (HH.out _).mono ?_); rintro e wx ⟨rfl, rfl⟩)
      | (go_at_call 45; (with_reducible refine (HH2.out _).mono ?_); rintro e wx ⟨rfl, rfl⟩)
      | (go_at_call 176; refine (HBI.out _ HB0.out).mono ?_; rintro e w2 ⟨A7, c7, rfl, hs7, hb2'⟩; (have HR7 := Lib.hid (HR.out _ _ c7 hs7); have R2 := Lib.hid (ROW0.out.later hb2'); have HB2 := Lib.hid (HB0.out.trans (hb2'.mono HB0.out.size)); clear hs7 hb2'))
      | (go_at_call 175; refine HR7.out.mono ?_; rintro e w3 ⟨rfl, hb3⟩; (have HB3 := Lib.hid (HB2.out.trans (hb3.mono HB2.out.size)); have R3 := R2.out.later hb3; have RW3 := Lib.hid R3; have hz3 : w.heap.size < w3.heap.size := R3.inside; obtain ⟨⟨d0, d1, d2, d3, d4, d5, d6⟩, e0, e1, e2, e3, e4, e5, e6⟩ := cells_ref10 R3; have HB4 := Lib.hid (bl_alloc HB3.out (.cells #[.bool poll, .int .i64 fi, .int .i64 sn, .bool part, .bool last, .int .i64 off, .slice none 0 0] 60)); have RQ := Lib.hid (Row.made w3 60 #[.bool poll, .int .i64 fi, .int .i64 sn, .bool part, .bool last, .int .i64 off, .slice none 0 0]); clear hb3 R3))
      | (go_at_call 177; (with_reducible refine (HL.out _).mono ?_); rintro e wx ⟨rfl, rfl⟩)
      | (go_at_call 178; refine (HRD.out _ HB4.out).mono ?_; rintro e w5 ⟨rfl, hb5⟩; clear d0 d1 d2 d3 d4 d5 d6 e0 e1 e2 e3 e4 e5 e6; (have RW5 := Lib.hid ((RW3.out.more (.cells #[.bool poll, .int .i64 fi, .int .i64 sn, .bool part, .bool last, .int .i64 off, .slice none 0 0] 60)).later hb5); have RQ5 := Lib.hid (RQ.out.later hb5); obtain ⟨⟨d0, d1, d2, d3, d4, d5, d6⟩, e0, e1, e2, e3, e4, e5, e6⟩ := cells_ref10 RW5.out; obtain ⟨⟨c0, c1, c2, c3, c4, c5, c6⟩, f0, f1, f2, f3, f4, f5, f6⟩ := cells_ref10 RQ5.out; have HB5 := Lib.hid (HB4.out.trans (hb5.mono HB4.out.size)); have hzq : w3.heap.size < w5.heap.size := RQ5.out.inside; clear hb5)))
    obtain ⟨dd, hdd⟩ := underref10_parts
    refine bodyPost_ret (results_two rfl _ _ w.heap.size 60 #[.bool false, .int .i64 0, .int .i64 0, .bool false, .bool false, .int .i64 0, .slice none 0 0] dd rfl (((((((RW5.out.written 0 (.bool false)).written 1 (.int .i64 0)).written 2 (.int .i64 0)).written 3 (.bool false)).written 4 (.bool false)).written 5 (.int .i64 0)).written 6 (.slice none 0 0)) hdd Try.inforef10) rfl ?_
    exact ⟨rfl, (((((((HB5.out.setCell (p := ⟨w.heap.size, 0, none⟩) (Nat.le_refl _) (.bool false)).setCell (p := ⟨w.heap.size, 1, none⟩) (Nat.le_refl _) (.int .i64 0)).setCell (p := ⟨w.heap.size, 2, none⟩) (Nat.le_refl _) (.int .i64 0)).setCell (p := ⟨w.heap.size, 3, none⟩) (Nat.le_refl _) (.bool false)).setCell (p := ⟨w.heap.size, 4, none⟩) (Nat.le_refl _) (.bool false)).setCell (p := ⟨w.heap.size, 5, none⟩) (Nat.le_refl _) (.int .i64 0)).setCell (p := ⟨w.heap.size, 6, none⟩) (Nat.le_refl _) (.slice none 0 0))⟩
end Go.Proofs.Ytgdpjaojlhdhdaa
