/-
  The packet of amd that bytes are: the document's Read walked. The packet of amd that bytes are: the document's Read walked.
-/
import Derived.Test.YtgdpjaojlhdhdaaJAmdReads15
import Derived.Test.YtgdpjaojlhdhdaaJAmdReads16
namespace Go.Proofs.Ytgdpjaojlhdhdaa
open Go.RowKit

set_option maxRecDepth 100000 in
set_option maxHeartbeats 6400000 in
theorem rr10_yes_good {ad Ab : Addr} {bs ls : List Nat} {t : List (List Nat)} (poll part last : Bool) (fi sn off : Nat) (q : Bool) (b wd m n cap cb : Nat) (lw ow : Int) (x0 : Int) (w : World) (hx0 : (x0 == 0) = false) (hn1 : n ≤ 4000) (hn0 : 0 < n) (hm : m ≤ n) (hcap : n ≤ cap) (hcut : (m < cap ∧ Ab = ad.add m ∧ cb = cap - m) ∨ (cap = m ∧ Ab = ad ∧ cb = 0)) (hb2 : ¬ (b : Int) < 128) (hq : ((b : Int) / 64 % 2 == 1) = q)
    (hca : ∀ W, Below w.heap.size w W → W.cell? (ad.add 0) = some (.int .u8 b) ∧ W.cell? ad = some (.int .u8 b))
    (hh : ∀ W, Calls Try.prog 45 #[.bool false, .int .i64 wd] W fun e w' => e = .returned (.int .i64 x0) ∧ W = w') (hh2 : ∀ W, Calls Try.prog 45 #[.bool q, .int .i64 wd] W fun e w' => e = .returned (.int .i64 m) ∧ W = w')
    (hbi : ∀ W, Below w.heap.size w W → Calls Try.prog 176 #[.slice (some ad) m cap] W fun e w' => ∃ A7 c7, e = .returned (.slice A7 (8 * m) c7) ∧ SrcB w' A7 (bls (bitsOf (bs.take m))) ∧ Below W.heap.size W w')
    (hr : ∀ W A7 c7, SrcB W A7 (bls (bitsOf (bs.take m))) → Calls Try.prog 175 #[.slice A7 (8 * m) c7, .int .i64 wd] W fun e w' => e = .returned (.tuple #[.agg #[.bool poll, .int .i64 fi, .int .i64 sn, .bool part, .bool last, .int .i64 off, .slice none 0 0], .bool true, .bool true]) ∧ Below W.heap.size W w')
    (hrd : ∀ W, Below w.heap.size w W → Calls Try.prog 178 #[.slice (some Ab) (n - m) cb, .int .i64 lw] W fun e w' => ∃ A8 c8 q, e = .returned (.tuple #[.slice A8 ls.length c8, .int .i64 q, .int .i64 0]) ∧ Src w' A8 (insN ls) ∧ Below W.heap.size W w')
    (hcu : ∀ W, Below w.heap.size w W → Calls Try.prog 179 #[.slice (some Ab) (n - m) cb, .bool true, .int .i64 lw] W fun e w' => ∃ A' c' L, t = texts L ∧ e = .returned (.tuple #[.slice A' L.length c', .int .i64 0]) ∧ (∀ V S, Only S w' V → (∀ k, S k → k < W.heap.size) → Src V (some Ab) (bts (bs.drop m)) → RSrc V A' L) ∧ L.length ≤ c' ∧ c' ≤ 9223372036854775807 ∧ Below W.heap.size W w') (hsb : ∀ V, Below w.heap.size w V → Src V (some Ab) (bts (bs.drop m)))
    (hls : ∀ x ∈ ls, x ≤ 2047) (hln : ls.length ≤ 1000)
    (hl : ∀ W, Calls Try.prog 177 #[.int .i64 wd] W fun e w' => e = .returned (.tuple #[.int .i64 lw, .int .i64 ow]) ∧ W = w') :
    Calls Try.prog 35 #[.slice (some ad) n cap, .int .i64 wd] w fun e w' => ∃ A' c' L, t = texts L ∧ e = .returned (.tuple #[.agg #[.bool poll, .int .i64 fi, .int .i64 sn, .bool part, .bool last, .int .i64 off, (.slice A' L.length c')], .int .i64 0]) ∧ RSrc w' A' L ∧ L.length ≤ c' ∧ c' ≤ 9223372036854775807 ∧ Below w.heap.size w w' := by
  have hnz : ((n : Int) == 0) = false := by simp; omega
  have hn4 : ¬ (4000 : Int) < n := by omega
  have hmn : decide (n < m) = false := decide_eq_false (by omega)
  obtain ⟨ca, cb'⟩ := hca _ (bl_alloc (Below.refl w.heap.size w) (.cells #[.bool false, .int .i64 0, .int .i64 0, .bool false, .bool false, .int .i64 0, .slice none 0 0] 60))
  have HB0 := Lib.hid (bl_alloc (Below.refl w.heap.size w) (.cells #[.bool false, .int .i64 0, .int .i64 0, .bool false, .bool false, .int .i64 0, .slice none 0 0] 60))
  have ROW0 := Lib.hid (Row.made w 60 #[.bool false, .int .i64 0, .int .i64 0, .bool false, .bool false, .int .i64 0, .slice none 0 0])
  rcases hcut with ⟨hk, rfl, rfl⟩ | ⟨rfl, rfl, rfl⟩
  · have HH := Lib.hid hh
    have HH2 := Lib.hid hh2
    have HBI := Lib.hid hbi
    have HR := Lib.hid hr
    have HL := Lib.hid hl
    have HRD := Lib.hid hrd
    have HCU := Lib.hid hcu
    have HSB := Lib.hid hsb
    have HLS := Lib.hid hls
    clear hca hh hh2 hbi hr hl hrd hcu hsb hls
    go_enter Try.func35, Try.ntmps35
    go_wp2_with (first
      | (go_at_call 45; (with_reducible refine (HH.out _).mono ?_); rintro e wx ⟨rfl, rfl⟩)
      | (go_at_call 45; (with_reducible refine (HH2.out _).mono ?_); rintro e wx ⟨rfl, rfl⟩)
      | (go_at_call 176; refine (HBI.out _ HB0.out).mono ?_; rintro e w2 ⟨A7, c7, rfl, hs7, hb2'⟩; (have HR7 := Lib.hid (HR.out _ _ c7 hs7); have R2 := Lib.hid (ROW0.out.later hb2'); have HB2 := Lib.hid (HB0.out.trans (hb2'.mono HB0.out.size)); clear hs7 hb2'))
      | (go_at_call 175; refine HR7.out.mono ?_; rintro e w3 ⟨rfl, hb3⟩; (have HB3 := Lib.hid (HB2.out.trans (hb3.mono HB2.out.size)); have R3 := R2.out.later hb3; have RW3 := Lib.hid R3; have hz3 : w.heap.size < w3.heap.size := R3.inside; obtain ⟨⟨d0, d1, d2, d3, d4, d5, d6⟩, e0, e1, e2, e3, e4, e5, e6⟩ := cells_ref10 R3; have HB4 := Lib.hid (bl_alloc HB3.out (.cells #[.bool poll, .int .i64 fi, .int .i64 sn, .bool part, .bool last, .int .i64 off, .slice none 0 0] 60)); have RQ := Lib.hid (Row.made w3 60 #[.bool poll, .int .i64 fi, .int .i64 sn, .bool part, .bool last, .int .i64 off, .slice none 0 0]); clear hb3 R3))
      | (go_at_call 177; (with_reducible refine (HL.out _).mono ?_); rintro e wx ⟨rfl, rfl⟩)
      | (go_at_call 178; refine (HRD.out _ HB4.out).mono ?_; rintro e w5 ⟨A8, c8, q8, rfl, hs8, hb5⟩; clear d0 d1 d2 d3 d4 d5 d6 e0 e1 e2 e3 e4 e5 e6; have HS8 := Lib.hid hs8; clear hs8; (have RW5 := Lib.hid ((RW3.out.more (.cells #[.bool poll, .int .i64 fi, .int .i64 sn, .bool part, .bool last, .int .i64 off, .slice none 0 0] 60)).later hb5); have RQ5 := Lib.hid (RQ.out.later hb5); obtain ⟨⟨d0, d1, d2, d3, d4, d5, d6⟩, e0, e1, e2, e3, e4, e5, e6⟩ := cells_ref10 RW5.out; obtain ⟨⟨c0, c1, c2, c3, c4, c5, c6⟩, f0, f1, f2, f3, f4, f5, f6⟩ := cells_ref10 RQ5.out; have HB5 := Lib.hid (HB4.out.trans (hb5.mono HB4.out.size)); have hzq : w3.heap.size < w5.heap.size := RQ5.out.inside; clear hb5)))
    go_loopw [15] (fun iv wr => ∃ k : Nat, k ≤ ls.length ∧ iv = .int .i64 k ∧ Hid (∀ x ∈ ls.take k, x ≤ 2047) ∧ w5 = wr) (fun iv _ => ls.length - (intOf iv).toNat)
    case atStart => exact ⟨0, by omega, rfl, Lib.hid (fun x hx => by simp at hx), rfl⟩
    case round =>
      obtain ⟨k, hk, rfl, HK, rfl⟩ := hrel
      by_cases hlt : k < ls.length
      · obtain ⟨a8, rfl, hc8⟩ := HS8.out (by simp [insN]; omega)
        obtain ⟨x, hx⟩ : ∃ x, ls[k]? = some x := ⟨_, List.getElem?_eq_getElem hlt⟩
        have cx := hc8 k _ (insN_at hx)
        have HX := Lib.hid hx
        clear hc8 hx
        rcases Nat.lt_or_ge 2047 x with h9 | h9
        · exact absurd (HLS.out x (List.mem_of_getElem? HX.out)) (by omega)
        · skip
          have h9' : ¬ (2047 : Int) < x := by omega
          go_wp2
          go_roundw
          case rel => exact ⟨k + 1, by omega, by go_num, Lib.hid (fun y hy => by
              rw [List.take_add_one, HX.out, Option.toList_some, List.mem_append, List.mem_singleton] at hy
              rcases hy with hy | rfl
              · exact HK.out y hy
              · exact h9), by first | rfl | trivial⟩
          case measure => simp [intOf]; omega
      · go_wp2_with (first
          | (go_at_call 179; refine (HCU.out _ HB5.out).mono ?_; rintro e w6 ⟨A', c', L, ht, rfl, hrs, hc1, hc2, hb6⟩; have HT := Lib.hid ht; have HRS := Lib.hid hrs; clear ht hrs; clear d0 d1 d2 d3 d4 d5 d6 e0 e1 e2 e3 e4 e5 e6; clear c0 c1 c2 c3 c4 c5 c6 f0 f1 f2 f3 f4 f5 f6 hzq; (have RW6 := Lib.hid (RW5.out.later hb6); have RQ6 := Lib.hid (RQ5.out.later hb6); obtain ⟨⟨d0, d1, d2, d3, d4, d5, d6⟩, e0, e1, e2, e3, e4, e5, e6⟩ := cells_ref10 RW6.out; obtain ⟨⟨c0, c1, c2, c3, c4, c5, c6⟩, f0, f1, f2, f3, f4, f5, f6⟩ := cells_ref10 RQ6.out; have HB6 := Lib.hid (HB5.out.trans (hb6.mono HB5.out.size)); have hzq : w3.heap.size < w6.heap.size := RQ6.out.inside; clear hb6)))
        obtain ⟨dd, hdd⟩ := underref10_parts
        have hnq : w.heap.size ≠ w3.heap.size := Nat.ne_of_lt hz3
        refine bodyPost_ret (results_two rfl _ _ w.heap.size 60 #[.bool poll, .int .i64 fi, .int .i64 sn, .bool part, .bool last, .int .i64 off, (.slice A' L.length c')] dd rfl ((((((((RW6.out.elsewhere (p := ⟨w3.heap.size, 6, none⟩) hnq (.slice A' L.length c')).written 0 (.bool poll)).written 1 (.int .i64 fi)).written 2 (.int .i64 sn)).written 3 (.bool part)).written 4 (.bool last)).written 5 (.int .i64 off)).written 6 ((.slice A' L.length c'))) hdd Try.inforef10) rfl ?_
        have HBE := Lib.hid ((((((((HB6.out.setCell (p := ⟨w3.heap.size, 6, none⟩) (Nat.le_of_lt hz3) (.slice A' L.length c')).setCell (p := ⟨w.heap.size, 0, none⟩) (Nat.le_refl _) (.bool poll)).setCell (p := ⟨w.heap.size, 1, none⟩) (Nat.le_refl _) (.int .i64 fi)).setCell (p := ⟨w.heap.size, 2, none⟩) (Nat.le_refl _) (.int .i64 sn)).setCell (p := ⟨w.heap.size, 3, none⟩) (Nat.le_refl _) (.bool part)).setCell (p := ⟨w.heap.size, 4, none⟩) (Nat.le_refl _) (.bool last)).setCell (p := ⟨w.heap.size, 5, none⟩) (Nat.le_refl _) (.int .i64 off)).setCell (p := ⟨w.heap.size, 6, none⟩) (Nat.le_refl _) ((.slice A' L.length c')))
        refine ⟨_, _, L, HT.out, rfl, ?_, hc1, hc2, HBE.out⟩
        exact HRS.out _ _ (((((((((Only.refl (fun k => (k = w.heap.size ∨ k = w3.heap.size)) w6).set (p := ⟨w3.heap.size, 6, none⟩) (.inl (.inr rfl)) (.slice A' L.length c')).set (p := ⟨w.heap.size, 0, none⟩) (.inl (.inl rfl)) (.bool poll)).set (p := ⟨w.heap.size, 1, none⟩) (.inl (.inl rfl)) (.int .i64 fi)).set (p := ⟨w.heap.size, 2, none⟩) (.inl (.inl rfl)) (.int .i64 sn)).set (p := ⟨w.heap.size, 3, none⟩) (.inl (.inl rfl)) (.bool part)).set (p := ⟨w.heap.size, 4, none⟩) (.inl (.inl rfl)) (.bool last)).set (p := ⟨w.heap.size, 5, none⟩) (.inl (.inl rfl)) (.int .i64 off)).set (p := ⟨w.heap.size, 6, none⟩) (.inl (.inl rfl)) ((.slice A' L.length c'))) (fun k hk => by have h7 := RQ5.out.inside; have h8 := RW5.out.inside; omega) (HSB.out _ HBE.out)
  · obtain rfl : n = cap := by omega
    simp only [Nat.sub_self] at hrd
    simp only [Nat.sub_self] at hcu
    have HH := Lib.hid hh
    have HH2 := Lib.hid hh2
    have HBI := Lib.hid hbi
    have HR := Lib.hid hr
    have HL := Lib.hid hl
    have HRD := Lib.hid hrd
    have HCU := Lib.hid hcu
    have HSB := Lib.hid hsb
    have HLS := Lib.hid hls
    clear hca hh hh2 hbi hr hl hrd hcu hsb hls
    go_enter Try.func35, Try.ntmps35
    go_wp2_with (first
      | (go_at_call 45; (with_reducible refine (HH.out _).mono ?_); rintro e wx ⟨rfl, rfl⟩)
      | (go_at_call 45; (with_reducible refine (HH2.out _).mono ?_); rintro e wx ⟨rfl, rfl⟩)
      | (go_at_call 176; refine (HBI.out _ HB0.out).mono ?_; rintro e w2 ⟨A7, c7, rfl, hs7, hb2'⟩; (have HR7 := Lib.hid (HR.out _ _ c7 hs7); have R2 := Lib.hid (ROW0.out.later hb2'); have HB2 := Lib.hid (HB0.out.trans (hb2'.mono HB0.out.size)); clear hs7 hb2'))
      | (go_at_call 175; refine HR7.out.mono ?_; rintro e w3 ⟨rfl, hb3⟩; (have HB3 := Lib.hid (HB2.out.trans (hb3.mono HB2.out.size)); have R3 := R2.out.later hb3; have RW3 := Lib.hid R3; have hz3 : w.heap.size < w3.heap.size := R3.inside; obtain ⟨⟨d0, d1, d2, d3, d4, d5, d6⟩, e0, e1, e2, e3, e4, e5, e6⟩ := cells_ref10 R3; have HB4 := Lib.hid (bl_alloc HB3.out (.cells #[.bool poll, .int .i64 fi, .int .i64 sn, .bool part, .bool last, .int .i64 off, .slice none 0 0] 60)); have RQ := Lib.hid (Row.made w3 60 #[.bool poll, .int .i64 fi, .int .i64 sn, .bool part, .bool last, .int .i64 off, .slice none 0 0]); clear hb3 R3))
      | (go_at_call 177; (with_reducible refine (HL.out _).mono ?_); rintro e wx ⟨rfl, rfl⟩)
      | (go_at_call 178; refine (HRD.out _ HB4.out).mono ?_; rintro e w5 ⟨A8, c8, q8, rfl, hs8, hb5⟩; clear d0 d1 d2 d3 d4 d5 d6 e0 e1 e2 e3 e4 e5 e6; have HS8 := Lib.hid hs8; clear hs8; (have RW5 := Lib.hid ((RW3.out.more (.cells #[.bool poll, .int .i64 fi, .int .i64 sn, .bool part, .bool last, .int .i64 off, .slice none 0 0] 60)).later hb5); have RQ5 := Lib.hid (RQ.out.later hb5); obtain ⟨⟨d0, d1, d2, d3, d4, d5, d6⟩, e0, e1, e2, e3, e4, e5, e6⟩ := cells_ref10 RW5.out; obtain ⟨⟨c0, c1, c2, c3, c4, c5, c6⟩, f0, f1, f2, f3, f4, f5, f6⟩ := cells_ref10 RQ5.out; have HB5 := Lib.hid (HB4.out.trans (hb5.mono HB4.out.size)); have hzq : w3.heap.size < w5.heap.size := RQ5.out.inside; clear hb5)))
    go_loopw [15] (fun iv wr => ∃ k : Nat, k ≤ ls.length ∧ iv = .int .i64 k ∧ Hid (∀ x ∈ ls.take k, x ≤ 2047) ∧ w5 = wr) (fun iv _ => ls.length - (intOf iv).toNat)
    case atStart => exact ⟨0, by omega, rfl, Lib.hid (fun x hx => by simp at hx), rfl⟩
    case round =>
      obtain ⟨k, hk, rfl, HK, rfl⟩ := hrel
      by_cases hlt : k < ls.length
      · obtain ⟨a8, rfl, hc8⟩ := HS8.out (by simp [insN]; omega)
        obtain ⟨x, hx⟩ : ∃ x, ls[k]? = some x := ⟨_, List.getElem?_eq_getElem hlt⟩
        have cx := hc8 k _ (insN_at hx)
        have HX := Lib.hid hx
        clear hc8 hx
        rcases Nat.lt_or_ge 2047 x with h9 | h9
        · exact absurd (HLS.out x (List.mem_of_getElem? HX.out)) (by omega)
        · skip
          have h9' : ¬ (2047 : Int) < x := by omega
          go_wp2
          go_roundw
          case rel => exact ⟨k + 1, by omega, by go_num, Lib.hid (fun y hy => by
              rw [List.take_add_one, HX.out, Option.toList_some, List.mem_append, List.mem_singleton] at hy
              rcases hy with hy | rfl
              · exact HK.out y hy
              · exact h9), by first | rfl | trivial⟩
          case measure => simp [intOf]; omega
      · go_wp2_with (first
          | (go_at_call 179; refine (HCU.out _ HB5.out).mono ?_; rintro e w6 ⟨A', c', L, ht, rfl, hrs, hc1, hc2, hb6⟩; have HT := Lib.hid ht; have HRS := Lib.hid hrs; clear ht hrs; clear d0 d1 d2 d3 d4 d5 d6 e0 e1 e2 e3 e4 e5 e6; clear c0 c1 c2 c3 c4 c5 c6 f0 f1 f2 f3 f4 f5 f6 hzq; (have RW6 := Lib.hid (RW5.out.later hb6); have RQ6 := Lib.hid (RQ5.out.later hb6); obtain ⟨⟨d0, d1, d2, d3, d4, d5, d6⟩, e0, e1, e2, e3, e4, e5, e6⟩ := cells_ref10 RW6.out; obtain ⟨⟨c0, c1, c2, c3, c4, c5, c6⟩, f0, f1, f2, f3, f4, f5, f6⟩ := cells_ref10 RQ6.out; have HB6 := Lib.hid (HB5.out.trans (hb6.mono HB5.out.size)); have hzq : w3.heap.size < w6.heap.size := RQ6.out.inside; clear hb6)))
        obtain ⟨dd, hdd⟩ := underref10_parts
        have hnq : w.heap.size ≠ w3.heap.size := Nat.ne_of_lt hz3
        refine bodyPost_ret (results_two rfl _ _ w.heap.size 60 #[.bool poll, .int .i64 fi, .int .i64 sn, .bool part, .bool last, .int .i64 off, (.slice A' L.length c')] dd rfl ((((((((RW6.out.elsewhere (p := ⟨w3.heap.size, 6, none⟩) hnq (.slice A' L.length c')).written 0 (.bool poll)).written 1 (.int .i64 fi)).written 2 (.int .i64 sn)).written 3 (.bool part)).written 4 (.bool last)).written 5 (.int .i64 off)).written 6 ((.slice A' L.length c'))) hdd Try.inforef10) rfl ?_
        have HBE := Lib.hid ((((((((HB6.out.setCell (p := ⟨w3.heap.size, 6, none⟩) (Nat.le_of_lt hz3) (.slice A' L.length c')).setCell (p := ⟨w.heap.size, 0, none⟩) (Nat.le_refl _) (.bool poll)).setCell (p := ⟨w.heap.size, 1, none⟩) (Nat.le_refl _) (.int .i64 fi)).setCell (p := ⟨w.heap.size, 2, none⟩) (Nat.le_refl _) (.int .i64 sn)).setCell (p := ⟨w.heap.size, 3, none⟩) (Nat.le_refl _) (.bool part)).setCell (p := ⟨w.heap.size, 4, none⟩) (Nat.le_refl _) (.bool last)).setCell (p := ⟨w.heap.size, 5, none⟩) (Nat.le_refl _) (.int .i64 off)).setCell (p := ⟨w.heap.size, 6, none⟩) (Nat.le_refl _) ((.slice A' L.length c')))
        refine ⟨_, _, L, HT.out, rfl, ?_, hc1, hc2, HBE.out⟩
        exact HRS.out _ _ (((((((((Only.refl (fun k => (k = w.heap.size ∨ k = w3.heap.size)) w6).set (p := ⟨w3.heap.size, 6, none⟩) (.inl (.inr rfl)) (.slice A' L.length c')).set (p := ⟨w.heap.size, 0, none⟩) (.inl (.inl rfl)) (.bool poll)).set (p := ⟨w.heap.size, 1, none⟩) (.inl (.inl rfl)) (.int .i64 fi)).set (p := ⟨w.heap.size, 2, none⟩) (.inl (.inl rfl)) (.int .i64 sn)).set (p := ⟨w.heap.size, 3, none⟩) (.inl (.inl rfl)) (.bool part)).set (p := ⟨w.heap.size, 4, none⟩) (.inl (.inl rfl)) (.bool last)).set (p := ⟨w.heap.size, 5, none⟩) (.inl (.inl rfl)) (.int .i64 off)).set (p := ⟨w.heap.size, 6, none⟩) (.inl (.inl rfl)) ((.slice A' L.length c'))) (fun k hk => by have h7 := RQ5.out.inside; have h8 := RW5.out.inside; omega) (HSB.out _ HBE.out)
end Go.Proofs.Ytgdpjaojlhdhdaa
namespace Go.Proofs.Ytgdpjaojlhdhdaa
open Go.RowKit

set_option maxRecDepth 100000 in
set_option maxHeartbeats 6400000 in
theorem rr10_yes_fail {ad Ab : Addr} {bs ls : List Nat} (poll part last : Bool) (fi sn off : Nat) (er : Int) (q : Bool) (b wd m n cap cb : Nat) (lw ow : Int) (x0 : Int) (w : World) (hx0 : (x0 == 0) = false) (hn1 : n ≤ 4000) (hn0 : 0 < n) (hm : m ≤ n) (hcap : n ≤ cap) (hcut : (m < cap ∧ Ab = ad.add m ∧ cb = cap - m) ∨ (cap = m ∧ Ab = ad ∧ cb = 0)) (hb2 : ¬ (b : Int) < 128) (hq : ((b : Int) / 64 % 2 == 1) = q)
    (hca : ∀ W, Below w.heap.size w W → W.cell? (ad.add 0) = some (.int .u8 b) ∧ W.cell? ad = some (.int .u8 b))
    (hh : ∀ W, Calls Try.prog 45 #[.bool false, .int .i64 wd] W fun e w' => e = .returned (.int .i64 x0) ∧ W = w') (hh2 : ∀ W, Calls Try.prog 45 #[.bool q, .int .i64 wd] W fun e w' => e = .returned (.int .i64 m) ∧ W = w')
    (hbi : ∀ W, Below w.heap.size w W → Calls Try.prog 176 #[.slice (some ad) m cap] W fun e w' => ∃ A7 c7, e = .returned (.slice A7 (8 * m) c7) ∧ SrcB w' A7 (bls (bitsOf (bs.take m))) ∧ Below W.heap.size W w')
    (hr : ∀ W A7 c7, SrcB W A7 (bls (bitsOf (bs.take m))) → Calls Try.prog 175 #[.slice A7 (8 * m) c7, .int .i64 wd] W fun e w' => e = .returned (.tuple #[.agg #[.bool poll, .int .i64 fi, .int .i64 sn, .bool part, .bool last, .int .i64 off, .slice none 0 0], .bool true, .bool true]) ∧ Below W.heap.size W w')
    (hrd : ∀ W, Below w.heap.size w W → Calls Try.prog 178 #[.slice (some Ab) (n - m) cb, .int .i64 lw] W fun e w' => ∃ A8 c8 q, e = .returned (.tuple #[.slice A8 ls.length c8, .int .i64 q, .int .i64 0]) ∧ Src w' A8 (insN ls) ∧ Below W.heap.size W w')
    (hcu : ∀ W, Below w.heap.size w W → Calls Try.prog 179 #[.slice (some Ab) (n - m) cb, .bool true, .int .i64 lw] W fun e w' => e = .returned (.tuple #[.slice none 0 0, .int .i64 er]) ∧ Below W.heap.size W w')
    (h0 : er ≠ 0)
    (hls : ∀ x ∈ ls, x ≤ 2047) (hln : ls.length ≤ 1000)
    (hl : ∀ W, Calls Try.prog 177 #[.int .i64 wd] W fun e w' => e = .returned (.tuple #[.int .i64 lw, .int .i64 ow]) ∧ W = w') :
    Calls Try.prog 35 #[.slice (some ad) n cap, .int .i64 wd] w fun e w' => e = .returned (.tuple #[.agg #[.bool false, .int .i64 0, .int .i64 0, .bool false, .bool false, .int .i64 0, .slice none 0 0], .int .i64 er]) ∧ Below w.heap.size w w' := by
  have he : (er != 0) = true := by simpa using h0
  have hnz : ((n : Int) == 0) = false := by simp; omega
  have hn4 : ¬ (4000 : Int) < n := by omega
  have hmn : decide (n < m) = false := decide_eq_false (by omega)
  obtain ⟨ca, cb'⟩ := hca _ (bl_alloc (Below.refl w.heap.size w) (.cells #[.bool false, .int .i64 0, .int .i64 0, .bool false, .bool false, .int .i64 0, .slice none 0 0] 60))
  have HB0 := Lib.hid (bl_alloc (Below.refl w.heap.size w) (.cells #[.bool false, .int .i64 0, .int .i64 0, .bool false, .bool false, .int .i64 0, .slice none 0 0] 60))
  have ROW0 := Lib.hid (Row.made w 60 #[.bool false, .int .i64 0, .int .i64 0, .bool false, .bool false, .int .i64 0, .slice none 0 0])
  rcases hcut with ⟨hk, rfl, rfl⟩ | ⟨rfl, rfl, rfl⟩
  · have HH := Lib.hid hh
    have HH2 := Lib.hid hh2
    have HBI := Lib.hid hbi
    have HR := Lib.hid hr
    have HL := Lib.hid hl
    have HRD := Lib.hid hrd
    have HCU := Lib.hid hcu
    have HLS := Lib.hid hls
    clear hca hh hh2 hbi hr hl hrd hcu hls h0
    go_enter Try.func35, Try.ntmps35
    go_wp2_with (first
      | (go_at_call 45; (with_reducible refine (HH.out _).mono ?_); rintro e wx ⟨rfl, rfl⟩)
      | (go_at_call 45; (with_reducible refine (HH2.out _).mono ?_); rintro e wx ⟨rfl, rfl⟩)
      | (go_at_call 176; refine (HBI.out _ HB0.out).mono ?_; rintro e w2 ⟨A7, c7, rfl, hs7, hb2'⟩; (have HR7 := Lib.hid (HR.out _ _ c7 hs7); have R2 := Lib.hid (ROW0.out.later hb2'); have HB2 := Lib.hid (HB0.out.trans (hb2'.mono HB0.out.size)); clear hs7 hb2'))
      | (go_at_call 175; refine HR7.out.mono ?_; rintro e w3 ⟨rfl, hb3⟩; (have HB3 := Lib.hid (HB2.out.trans (hb3.mono HB2.out.size)); have R3 := R2.out.later hb3; have RW3 := Lib.hid R3; have hz3 : w.heap.size < w3.heap.size := R3.inside; obtain ⟨⟨d0, d1, d2, d3, d4, d5, d6⟩, e0, e1, e2, e3, e4, e5, e6⟩ := cells_ref10 R3; have HB4 := Lib.hid (bl_alloc HB3.out (.cells #[.bool poll, .int .i64 fi, .int .i64 sn, .bool part, .bool last, .int .i64 off, .slice none 0 0] 60)); have RQ := Lib.hid (Row.made w3 60 #[.bool poll, .int .i64 fi, .int .i64 sn, .bool part, .bool last, .int .i64 off, .slice none 0 0]); clear hb3 R3))
      | (go_at_call 177; (with_reducible refine (HL.out _).mono ?_); rintro e wx ⟨rfl, rfl⟩)
      | (go_at_call 178; refine (HRD.out _ HB4.out).mono ?_; rintro e w5 ⟨A8, c8, q8, rfl, hs8, hb5⟩; clear d0 d1 d2 d3 d4 d5 d6 e0 e1 e2 e3 e4 e5 e6; have HS8 := Lib.hid hs8; clear hs8; (have RW5 := Lib.hid ((RW3.out.more (.cells #[.bool poll, .int .i64 fi, .int .i64 sn, .bool part, .bool last, .int .i64 off, .slice none 0 0] 60)).later hb5); have RQ5 := Lib.hid (RQ.out.later hb5); obtain ⟨⟨d0, d1, d2, d3, d4, d5, d6⟩, e0, e1, e2, e3, e4, e5, e6⟩ := cells_ref10 RW5.out; obtain ⟨⟨c0, c1, c2, c3, c4, c5, c6⟩, f0, f1, f2, f3, f4, f5, f6⟩ := cells_ref10 RQ5.out; have HB5 := Lib.hid (HB4.out.trans (hb5.mono HB4.out.size)); have hzq : w3.heap.size < w5.heap.size := RQ5.out.inside; clear hb5)))
    go_loopw [15] (fun iv wr => ∃ k : Nat, k ≤ ls.length ∧ iv = .int .i64 k ∧ Hid (∀ x ∈ ls.take k, x ≤ 2047) ∧ w5 = wr) (fun iv _ => ls.length - (intOf iv).toNat)
    case atStart => exact ⟨0, by omega, rfl, Lib.hid (fun x hx => by simp at hx), rfl⟩
    case round =>
      obtain ⟨k, hk, rfl, HK, rfl⟩ := hrel
      by_cases hlt : k < ls.length
      · obtain ⟨a8, rfl, hc8⟩ := HS8.out (by simp [insN]; omega)
        obtain ⟨x, hx⟩ : ∃ x, ls[k]? = some x := ⟨_, List.getElem?_eq_getElem hlt⟩
        have cx := hc8 k _ (insN_at hx)
        have HX := Lib.hid hx
        clear hc8 hx
        rcases Nat.lt_or_ge 2047 x with h9 | h9
        · exact absurd (HLS.out x (List.mem_of_getElem? HX.out)) (by omega)
        · skip
          have h9' : ¬ (2047 : Int) < x := by omega
          go_wp2
          go_roundw
          case rel => exact ⟨k + 1, by omega, by go_num, Lib.hid (fun y hy => by
              rw [List.take_add_one, HX.out, Option.toList_some, List.mem_append, List.mem_singleton] at hy
              rcases hy with hy | rfl
              · exact HK.out y hy
              · exact h9), by first | rfl | trivial⟩
          case measure => simp [intOf]; omega
      · go_wp2_with (first
          | (go_at_call 179; refine (HCU.out _ HB5.out).mono ?_; rintro e w6 ⟨rfl, hb6⟩; clear d0 d1 d2 d3 d4 d5 d6 e0 e1 e2 e3 e4 e5 e6; clear c0 c1 c2 c3 c4 c5 c6 f0 f1 f2 f3 f4 f5 f6 hzq; (have RW6 := Lib.hid (RW5.out.later hb6); have RQ6 := Lib.hid (RQ5.out.later hb6); obtain ⟨⟨d0, d1, d2, d3, d4, d5, d6⟩, e0, e1, e2, e3, e4, e5, e6⟩ := cells_ref10 RW6.out; obtain ⟨⟨c0, c1, c2, c3, c4, c5, c6⟩, f0, f1, f2, f3, f4, f5, f6⟩ := cells_ref10 RQ6.out; have HB6 := Lib.hid (HB5.out.trans (hb6.mono HB5.out.size)); have hzq : w3.heap.size < w6.heap.size := RQ6.out.inside; clear hb6)))
        obtain ⟨dd, hdd⟩ := underref10_parts
        refine bodyPost_ret (results_two rfl _ _ w.heap.size 60 #[.bool false, .int .i64 0, .int .i64 0, .bool false, .bool false, .int .i64 0, .slice none 0 0] dd rfl (((((((RW6.out.written 0 (.bool false)).written 1 (.int .i64 0)).written 2 (.int .i64 0)).written 3 (.bool false)).written 4 (.bool false)).written 5 (.int .i64 0)).written 6 (.slice none 0 0)) hdd Try.inforef10) rfl ?_
        exact ⟨rfl, (((((((HB6.out.setCell (p := ⟨w.heap.size, 0, none⟩) (Nat.le_refl _) (.bool false)).setCell (p := ⟨w.heap.size, 1, none⟩) (Nat.le_refl _) (.int .i64 0)).setCell (p := ⟨w.heap.size, 2, none⟩) (Nat.le_refl _) (.int .i64 0)).setCell (p := ⟨w.heap.size, 3, none⟩) (Nat.le_refl _) (.bool false)).setCell (p := ⟨w.heap.size, 4, none⟩) (Nat.le_refl _) (.bool false)).setCell (p := ⟨w.heap.size, 5, none⟩) (Nat.le_refl _) (.int .i64 0)).setCell (p := ⟨w.heap.size, 6, none⟩) (Nat.le_refl _) (.slice none 0 0))⟩
  · obtain rfl : n = cap := by omega
    simp only [Nat.sub_self] at hrd
    simp only [Nat.sub_self] at hcu
    have HH := Lib.hid hh
    have HH2 := Lib.hid hh2
    have HBI := Lib.hid hbi
    have HR := Lib.hid hr
    have HL := Lib.hid hl
    have HRD := Lib.hid hrd
    have HCU := Lib.hid hcu
    have HLS := Lib.hid hls
    clear hca hh hh2 hbi hr hl hrd hcu hls h0
    go_enter Try.func35, Try.ntmps35
    go_wp2_with (first
      | (go_at_call 45; (with_reducible refine (HH.out _).mono ?_); rintro e wx ⟨rfl, rfl⟩)
      | (go_at_call 45; (with_reducible refine (HH2.out _).mono ?_); rintro e wx ⟨rfl, rfl⟩)
      | (go_at_call 176; refine (HBI.out _ HB0.out).mono ?_; rintro e w2 ⟨A7, c7, rfl, hs7, hb2'⟩; (have HR7 := Lib.hid (HR.out _ _ c7 hs7); have R2 := Lib.hid (ROW0.out.later hb2'); have HB2 := Lib.hid (HB0.out.trans (hb2'.mono HB0.out.size)); clear hs7 hb2'))
      | (go_at_call 175; refine HR7.out.mono ?_; rintro e w3 ⟨rfl, hb3⟩; (have HB3 := Lib.hid (HB2.out.trans (hb3.mono HB2.out.size)); have R3 := R2.out.later hb3; have RW3 := Lib.hid R3; have hz3 : w.heap.size < w3.heap.size := R3.inside; obtain ⟨⟨d0, d1, d2, d3, d4, d5, d6⟩, e0, e1, e2, e3, e4, e5, e6⟩ := cells_ref10 R3; have HB4 := Lib.hid (bl_alloc HB3.out (.cells #[.bool poll, .int .i64 fi, .int .i64 sn, .bool part, .bool last, .int .i64 off, .slice none 0 0] 60)); have RQ := Lib.hid (Row.made w3 60 #[.bool poll, .int .i64 fi, .int .i64 sn, .bool part, .bool last, .int .i64 off, .slice none 0 0]); clear hb3 R3))
      | (go_at_call 177; (with_reducible refine (HL.out _).mono ?_); rintro e wx ⟨rfl, rfl⟩)
      | (go_at_call 178; refine (HRD.out _ HB4.out).mono ?_; rintro e w5 ⟨A8, c8, q8, rfl, hs8, hb5⟩; clear d0 d1 d2 d3 d4 d5 d6 e0 e1 e2 e3 e4 e5 e6; have HS8 := Lib.hid hs8; clear hs8; (have RW5 := Lib.hid ((RW3.out.more (.cells #[.bool poll, .int .i64 fi, .int .i64 sn, .bool part, .bool last, .int .i64 off, .slice none 0 0] 60)).later hb5); have RQ5 := Lib.hid (RQ.out.later hb5); obtain ⟨⟨d0, d1, d2, d3, d4, d5, d6⟩, e0, e1, e2, e3, e4, e5, e6⟩ := cells_ref10 RW5.out; obtain ⟨⟨c0, c1, c2, c3, c4, c5, c6⟩, f0, f1, f2, f3, f4, f5, f6⟩ := cells_ref10 RQ5.out; have HB5 := Lib.hid (HB4.out.trans (hb5.mono HB4.out.size)); have hzq : w3.heap.size < w5.heap.size := RQ5.out.inside; clear hb5)))
    go_loopw [15] (fun iv wr => ∃ k : Nat, k ≤ ls.length ∧ iv = .int .i64 k ∧ Hid (∀ x ∈ ls.take k, x ≤ 2047) ∧ w5 = wr) (fun iv _ => ls.length - (intOf iv).toNat)
    case atStart => exact ⟨0, by omega, rfl, Lib.hid (fun x hx => by simp at hx), rfl⟩
    case round =>
      obtain ⟨k, hk, rfl, HK, rfl⟩ := hrel
      by_cases hlt : k < ls.length
      · obtain ⟨a8, rfl, hc8⟩ := HS8.out (by simp [insN]; omega)
        obtain ⟨x, hx⟩ : ∃ x, ls[k]? = some x := ⟨_, List.getElem?_eq_getElem hlt⟩
        have cx := hc8 k _ (insN_at hx)
        have HX := Lib.hid hx
        clear hc8 hx
        rcases Nat.lt_or_ge 2047 x with h9 | h9
        · exact absurd (HLS.out x (List.mem_of_getElem? HX.out)) (by omega)
        · skip
          have h9' : ¬ (2047 : Int) < x := by omega
          go_wp2
          go_roundw
          case rel => exact ⟨k + 1, by omega, by go_num, Lib.hid (fun y hy => by
              rw [List.take_add_one, HX.out, Option.toList_some, List.mem_append, List.mem_singleton] at hy
              rcases hy with hy | rfl
              · exact HK.out y hy
              · exact h9), by first | rfl | trivial⟩
          case measure => simp [intOf]; omega
      · go_wp2_with (first
          | (go_at_call 179; refine (HCU.out _ HB5.out).mono ?_; rintro e w6 ⟨rfl, hb6⟩; clear d0 d1 d2 d3 d4 d5 d6 e0 e1 e2 e3 e4 e5 e6; clear c0 c1 c2 c3 c4 c5 c6 f0 f1 f2 f3 f4 f5 f6 hzq; (have RW6 := Lib.hid (RW5.out.later hb6); have RQ6 := Lib.hid (RQ5.out.later hb6); obtain ⟨⟨d0, d1, d2, d3, d4, d5, d6⟩, e0, e1, e2, e3, e4, e5, e6⟩ := cells_ref10 RW6.out; obtain ⟨⟨c0, c1, c2, c3, c4, c5, c6⟩, f0, f1, f2, f3, f4, f5, f6⟩ := cells_ref10 RQ6.out; have HB6 := Lib.hid (HB5.out.trans (hb6.mono HB5.out.size)); have hzq : w3.heap.size < w6.heap.size := RQ6.out.inside; clear hb6)))
        obtain ⟨dd, hdd⟩ := underref10_parts
        refine bodyPost_ret (results_two rfl _ _ w.heap.size 60 #[.bool false, .int .i64 0, .int .i64 0, .bool false, .bool false, .int .i64 0, .slice none 0 0] dd rfl (((((((RW6.out.written 0 (.bool false)).written 1 (.int .i64 0)).written 2 (.int .i64 0)).written 3 (.bool false)).written 4 (.bool false)).written 5 (.int .i64 0)).written 6 (.slice none 0 0)) hdd Try.inforef10) rfl ?_
        exact ⟨rfl, (((((((HB6.out.setCell (p := ⟨w.heap.size, 0, none⟩) (Nat.le_refl _) (.bool false)).setCell (p := ⟨w.heap.size, 1, none⟩) (Nat.le_refl _) (.int .i64 0)).setCell (p := ⟨w.heap.size, 2, none⟩) (Nat.le_refl _) (.int .i64 0)).setCell (p := ⟨w.heap.size, 3, none⟩) (Nat.le_refl _) (.bool false)).setCell (p := ⟨w.heap.size, 4, none⟩) (Nat.le_refl _) (.bool false)).setCell (p := ⟨w.heap.size, 5, none⟩) (Nat.le_refl _) (.int .i64 0)).setCell (p := ⟨w.heap.size, 6, none⟩) (Nat.le_refl _) (.slice none 0 0))⟩
end Go.Proofs.Ytgdpjaojlhdhdaa
