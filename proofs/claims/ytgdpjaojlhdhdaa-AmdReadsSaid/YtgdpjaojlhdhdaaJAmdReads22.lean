/-
  The packet of amd that bytes are: the document's answer, whatever the bytes. Fields go there and back: plain lists. A packet of umd goes there and back: plain lists.
-/
import Derived.Test.YtgdpjaojlhdhdaaJAmdReads16
import Derived.Test.YtgdpjaojlhdhdaaJAmdReads17
import Derived.Test.YtgdpjaojlhdhdaaJAmdReads18
import Derived.Test.YtgdpjaojlhdhdaaJAmdReads19
import Derived.Test.YtgdpjaojlhdhdaaJAmdReads20
import Derived.Test.YtgdpjaojlhdhdaaJAmdReads21
import Derived.Test.YtgdpjaojlhdhdaaJAmdReads06
import Derived.Test.YtgdpjaojlhdhdaaJAmdReads15
import Derived.Test.YtgdpjaojlhdhdaaJAmdReads08
import Derived.Test.YtgdpjaojlhdhdaaJAmdReads09
import Derived.Test.YtgdpjaojlhdhdaaJAmdReads10
namespace Go.Proofs.Ytgdpjaojlhdhdaa
open Go.RowKit

theorem rahead_any (part : Bool) (wd : Int) (w : World) : Calls Try.prog 45 #[.bool part, .int .i64 wd] w fun e w' => e = .returned (.int .i64 (headA part wd)) ∧ w = w' := by
  by_cases h5 : wd = 10
  · subst h5
    cases part
    all_goals
      go_enter Try.func45, Try.ntmps45
      go_wp2
      go_ret
      exact ⟨rfl, rfl⟩
  · by_cases h10 : wd = 16
    · subst h10
      cases part
      all_goals
        go_enter Try.func45, Try.ntmps45
        go_wp2
        go_ret
        exact ⟨rfl, rfl⟩
    · have h1 : (wd == 10) = false := by simpa using h5
      have h2 : (wd == 16) = false := by simpa using h10
      have HH := Lib.hid (show headA part wd = 0 by unfold headA; rw [if_neg h5, if_neg h10])
      clear h5 h10
      cases part
      all_goals
        go_enter Try.func45, Try.ntmps45
        go_wp2
        go_ret
        exact ⟨by rw [HH.out]; rfl, rfl⟩
/-- what the document's Read answers -/
def RarAns (w : World) (r : Int × HdA × List (List Nat)) (e : Ending) (w' : World) : Prop :=
  ((r.1 = 0 ∧ ∃ A c L, r.2.2 = texts L ∧ e = .returned (.tuple #[.agg #[.bool r.2.1.poll, .int .i64 r.2.1.fi, .int .i64 r.2.1.sn, .bool r.2.1.part, .bool r.2.1.last, .int .i64 r.2.1.off, .slice A L.length c], .int .i64 0]) ∧ RSrc w' A L ∧ L.length ≤ c ∧ c ≤ 9223372036854775807) ∨
   (r.1 ≠ 0 ∧ e = .returned (.tuple #[.agg #[.bool false, .int .i64 0, .int .i64 0, .bool false, .bool false, .int .i64 0, .slice none 0 0], .int .i64 r.1]))) ∧ Below w.heap.size w w'
theorem rar_bad {w w' : World} {er : Int} {r : Int × HdA × List (List Nat)} (h : r.1 = er) (h0 : er ≠ 0) (hb : Below w.heap.size w w') : RarAns w r (.returned (.tuple #[.agg #[.bool false, .int .i64 0, .int .i64 0, .bool false, .bool false, .int .i64 0, .slice none 0 0], .int .i64 er])) w' := by
  subst h
  exact ⟨.inr ⟨h0, rfl⟩, hb⟩
theorem rar_ok {w w' : World} {A : Option Addr} {c : Nat} {L : List RowB} {h : HdA} {r : Int × HdA × List (List Nat)} (e : r = (0, h, texts L)) (hs : RSrc w' A L) (h1 : L.length ≤ c) (h2 : c ≤ 9223372036854775807) (hb : Below w.heap.size w w') : RarAns w r (.returned (.tuple #[.agg #[.bool h.poll, .int .i64 h.fi, .int .i64 h.sn, .bool h.part, .bool h.last, .int .i64 h.off, .slice A L.length c], .int .i64 0])) w' := by
  subst e
  exact ⟨.inl ⟨rfl, A, c, L, rfl, rfl, hs, h1, h2⟩, hb⟩
theorem rhead_some {A : Option Addr} {hd : List Nat} {part : Bool} {wd : Nat} {h : HdA} {more : Bool} (m c : Nat) (w : World) (hw : wd = 10 ∨ wd = 16) (hm : headNA part wd = m) (hn : hd.length = m) (hs : SrcB w A (bls (bitsOf hd))) (hp : bitAt hd 1 = part) (ha : amdHd hd part wd = some (h, more)) :
    Calls Try.prog 175 #[.slice A (8 * m) c, .int .i64 wd] w fun e w' => e = .returned (.tuple #[.agg #[.bool h.poll, .int .i64 h.fi, .int .i64 h.sn, .bool h.part, .bool h.last, .int .i64 h.off, .slice none 0 0], .bool more, .bool true]) ∧ Below w.heap.size w w' := by
  subst hm
  rcases hw with rfl | rfl <;> cases part <;> simp only [amdHd, if_true] at ha
  · simp at ha
    obtain ⟨rfl, rfl⟩ := ha
    exact rhead_10f (bitAt hd 2) (bitAt hd 5) (val (seg hd 3 2)) (val (seg hd 6 10)) c w hn hs hp rfl rfl rfl rfl
  · simp at ha
    obtain ⟨rfl, rfl⟩ := ha
    cases hl : bitAt hd 16
    · exact rhead_10tl0 (bitAt hd 2) (bitAt hd 5) (val (seg hd 3 2)) (val (seg hd 6 10)) (val (seg hd 17 15)) c w hn hs hp rfl rfl hl rfl rfl rfl
    · exact rhead_10tl1 (bitAt hd 2) (bitAt hd 5) (val (seg hd 3 2)) (val (seg hd 6 10)) (val (seg hd 17 15)) c w hn hs hp rfl rfl hl rfl rfl rfl
  · by_cases h7 : bitAt hd 7 = true
    · simp [h7] at ha
    · by_cases h6 : bitAt hd 6 = true
      · simp [h6] at ha
      · simp [h7, h6] at ha
        obtain ⟨rfl, rfl⟩ := ha
        exact rhead_16fn0l0 (bitAt hd 2) (bitAt hd 5) (val (seg hd 3 2)) (val (seg hd 8 16)) c w hn hs hp rfl rfl (bit_not h6) (bit_not h7) rfl rfl
  · by_cases h7 : bitAt hd 7 = true
    · simp [h7] at ha
    · simp [h7] at ha
      obtain ⟨rfl, rfl⟩ := ha
      cases hl : bitAt hd 6
      · exact rhead_16tn0l0 (bitAt hd 2) (bitAt hd 5) (val (seg hd 3 2)) (val (seg hd 8 16)) (val (seg hd 24 16)) c w hn hs hp rfl rfl hl (bit_not h7) rfl rfl rfl
      · exact rhead_16tn0l1 (bitAt hd 2) (bitAt hd 5) (val (seg hd 3 2)) (val (seg hd 8 16)) (val (seg hd 24 16)) c w hn hs hp rfl rfl hl (bit_not h7) rfl rfl rfl
theorem rhead_none {A : Option Addr} {hd : List Nat} {part : Bool} {wd : Nat} (m c : Nat) (w : World) (hw : wd = 10 ∨ wd = 16) (hm : headNA part wd = m) (hn : hd.length = m) (hs : SrcB w A (bls (bitsOf hd))) (hp : bitAt hd 1 = part) (ha : amdHd hd part wd = none) :
    Calls Try.prog 175 #[.slice A (8 * m) c, .int .i64 wd] w fun e w' => e = .returned (.tuple #[.agg #[.bool false, .int .i64 0, .int .i64 0, .bool false, .bool false, .int .i64 0, .slice none 0 0], .bool false, .bool false]) ∧ Below w.heap.size w w' := by
  subst hm
  rcases hw with rfl | rfl <;> cases part <;> simp only [amdHd, if_true] at ha
  · simp at ha
  · simp at ha
  · by_cases h7 : bitAt hd 7 = true
    · exact rhead_16fn1 (bitAt hd 2) (bitAt hd 5) (bitAt hd 6) (val (seg hd 3 2)) (val (seg hd 8 16)) c w hn hs hp rfl rfl rfl h7 rfl rfl
    · by_cases h6 : bitAt hd 6 = true
      · exact rhead_16fn0l1 (bitAt hd 2) (bitAt hd 5) (val (seg hd 3 2)) (val (seg hd 8 16)) c w hn hs hp rfl rfl h6 (bit_not h7) rfl rfl
      · simp [h7, h6] at ha
  · by_cases h7 : bitAt hd 7 = true
    · exact rhead_16tn1 (bitAt hd 2) (bitAt hd 5) (bitAt hd 6) (val (seg hd 3 2)) (val (seg hd 8 16)) (val (seg hd 24 16)) c w hn hs hp rfl rfl rfl h7 rfl rfl rfl
    · simp [h7] at ha
set_option maxRecDepth 100000 in
set_option maxHeartbeats 1600000 in
theorem rr10_kind {A : Option Addr} (x0 : Int) (wd : Int) (n cap : Nat) (w : World) (hh : ∀ W, Calls Try.prog 45 #[.bool false, .int .i64 wd] W fun e w' => e = .returned (.int .i64 x0) ∧ W = w') (hx0 : (x0 == 0) = true) :
    Calls Try.prog 35 #[.slice A n cap, .int .i64 wd] w fun e w' => e = .returned (.tuple #[.agg #[.bool false, .int .i64 0, .int .i64 0, .bool false, .bool false, .int .i64 0, .slice none 0 0], .int .i64 9]) ∧ Below w.heap.size w w' := by
  have HH := Lib.hid hh
  clear hh
  go_enter Try.func35, Try.ntmps35
  go_wp2_with (go_at_call 45; refine (HH.out _).mono ?_; rintro e w1 ⟨rfl, rfl⟩)
  exact bodyPost_ret (v := .tuple #[.agg #[.bool false, .int .i64 0, .int .i64 0, .bool false, .bool false, .int .i64 0, .slice none 0 0], .int .i64 9]) (by simp [results, Try.results35, go_sem]) rfl ⟨rfl, by first | exact bl_alloc (Below.refl _ _) _ | exact (bl_alloc (Below.refl _ _) _).setCell (by simp) _⟩
set_option maxRecDepth 100000 in
set_option maxHeartbeats 1600000 in
theorem rr10_big {A : Option Addr} (x0 : Int) (wd : Int) (n cap : Nat) (w : World) (hh : ∀ W, Calls Try.prog 45 #[.bool false, .int .i64 wd] W fun e w' => e = .returned (.int .i64 x0) ∧ W = w') (hx0 : (x0 == 0) = false) (hn4 : (4000 : Int) < n) :
    Calls Try.prog 35 #[.slice A n cap, .int .i64 wd] w fun e w' => e = .returned (.tuple #[.agg #[.bool false, .int .i64 0, .int .i64 0, .bool false, .bool false, .int .i64 0, .slice none 0 0], .int .i64 2]) ∧ Below w.heap.size w w' := by
  have HH := Lib.hid hh
  clear hh
  go_enter Try.func35, Try.ntmps35
  go_wp2_with (go_at_call 45; refine (HH.out _).mono ?_; rintro e w1 ⟨rfl, rfl⟩)
  exact bodyPost_ret (v := .tuple #[.agg #[.bool false, .int .i64 0, .int .i64 0, .bool false, .bool false, .int .i64 0, .slice none 0 0], .int .i64 2]) (by simp [results, Try.results35, go_sem]) rfl ⟨rfl, by first | exact bl_alloc (Below.refl _ _) _ | exact (bl_alloc (Below.refl _ _) _).setCell (by simp) _⟩
set_option maxRecDepth 100000 in
set_option maxHeartbeats 1600000 in
theorem rr10_empty {A : Option Addr} (x0 : Int) (wd : Int) (n cap : Nat) (w : World) (hh : ∀ W, Calls Try.prog 45 #[.bool false, .int .i64 wd] W fun e w' => e = .returned (.int .i64 x0) ∧ W = w') (hx0 : (x0 == 0) = false) (hn0 : n = 0) :
    Calls Try.prog 35 #[.slice A n cap, .int .i64 wd] w fun e w' => e = .returned (.tuple #[.agg #[.bool false, .int .i64 0, .int .i64 0, .bool false, .bool false, .int .i64 0, .slice none 0 0], .int .i64 8]) ∧ Below w.heap.size w w' := by
  have HH := Lib.hid hh
  clear hh
  subst hn0
  go_enter Try.func35, Try.ntmps35
  go_wp2_with (go_at_call 45; refine (HH.out _).mono ?_; rintro e w1 ⟨rfl, rfl⟩)
  exact bodyPost_ret (v := .tuple #[.agg #[.bool false, .int .i64 0, .int .i64 0, .bool false, .bool false, .int .i64 0, .slice none 0 0], .int .i64 8]) (by simp [results, Try.results35, go_sem]) rfl ⟨rfl, by first | exact bl_alloc (Below.refl _ _) _ | exact (bl_alloc (Below.refl _ _) _).setCell (by simp) _⟩
set_option maxRecDepth 100000 in
set_option maxHeartbeats 1600000 in
theorem rr10_nopack {ad : Addr} {b : Nat} (x0 : Int) (wd : Int) (n cap : Nat) (w : World) (hh : ∀ W, Calls Try.prog 45 #[.bool false, .int .i64 wd] W fun e w' => e = .returned (.int .i64 x0) ∧ W = w') (hx0 : (x0 == 0) = false) (hn4 : ¬ (4000 : Int) < n) (hn0 : 0 < n) (hb2 : (b : Int) < 128) (hca : ∀ W, Below w.heap.size w W → W.cell? (ad.add 0) = some (.int .u8 b) ∧ W.cell? ad = some (.int .u8 b)) :
    Calls Try.prog 35 #[.slice (some ad) n cap, .int .i64 wd] w fun e w' => e = .returned (.tuple #[.agg #[.bool false, .int .i64 0, .int .i64 0, .bool false, .bool false, .int .i64 0, .slice none 0 0], .int .i64 4]) ∧ Below w.heap.size w w' := by
  have HH := Lib.hid hh
  clear hh
  have hnz : ((n : Int) == 0) = false := by simp; omega
  obtain ⟨ca, cb'⟩ := hca _ (bl_alloc (Below.refl w.heap.size w) (.cells #[.bool false, .int .i64 0, .int .i64 0, .bool false, .bool false, .int .i64 0, .slice none 0 0] 60))
  clear hca
  go_enter Try.func35, Try.ntmps35
  go_wp2_with (go_at_call 45; refine (HH.out _).mono ?_; rintro e w1 ⟨rfl, rfl⟩)
  exact bodyPost_ret (v := .tuple #[.agg #[.bool false, .int .i64 0, .int .i64 0, .bool false, .bool false, .int .i64 0, .slice none 0 0], .int .i64 4]) (by simp [results, Try.results35, go_sem]) rfl ⟨rfl, by first | exact bl_alloc (Below.refl _ _) _ | exact (bl_alloc (Below.refl _ _) _).setCell (by simp) _⟩
set_option maxRecDepth 100000 in
set_option maxHeartbeats 1600000 in
theorem rr10_short {ad : Addr} {b : Nat} {q : Bool} (x0 : Int) (wd : Int) (n cap : Nat) (w : World) (hh : ∀ W, Calls Try.prog 45 #[.bool false, .int .i64 wd] W fun e w' => e = .returned (.int .i64 x0) ∧ W = w') (hx0 : (x0 == 0) = false) (hn4 : ¬ (4000 : Int) < n) (hn0 : 0 < n) (hb2 : ¬ (b : Int) < 128) (hq : ((b : Int) / 64 % 2 == 1) = q) (m : Nat) (hmn : decide (n < m) = true) (hh2 : ∀ W, Calls Try.prog 45 #[.bool q, .int .i64 wd] W fun e w' => e = .returned (.int .i64 m) ∧ W = w') (hca : ∀ W, Below w.heap.size w W → W.cell? (ad.add 0) = some (.int .u8 b) ∧ W.cell? ad = some (.int .u8 b)) :
    Calls Try.prog 35 #[.slice (some ad) n cap, .int .i64 wd] w fun e w' => e = .returned (.tuple #[.agg #[.bool false, .int .i64 0, .int .i64 0, .bool false, .bool false, .int .i64 0, .slice none 0 0], .int .i64 8]) ∧ Below w.heap.size w w' := by
  have HH := Lib.hid hh
  clear hh
  have hnz : ((n : Int) == 0) = false := by simp; omega
  obtain ⟨ca, cb'⟩ := hca _ (bl_alloc (Below.refl w.heap.size w) (.cells #[.bool false, .int .i64 0, .int .i64 0, .bool false, .bool false, .int .i64 0, .slice none 0 0] 60))
  have HH2 := Lib.hid hh2
  clear hca hh2
  go_enter Try.func35, Try.ntmps35
  go_wp2_with (first
    | (go_at_call 45; (with_reducible refine (HH.out _).mono ?_); rintro e wx ⟨rfl, rfl⟩)
    | (go_at_call 45; (with_reducible refine (HH2.out _).mono ?_); rintro e wx ⟨rfl, rfl⟩))
  exact bodyPost_ret (v := .tuple #[.agg #[.bool false, .int .i64 0, .int .i64 0, .bool false, .bool false, .int .i64 0, .slice none 0 0], .int .i64 8]) (by simp [results, Try.results35, go_sem]) rfl ⟨rfl, by first | exact bl_alloc (Below.refl _ _) _ | exact (bl_alloc (Below.refl _ _) _).setCell (by simp) _⟩
theorem ints_own {B : Nat} {w : World} {u : Value} {l : List Nat} (h : w.ownsRow B 3 1 u l.length (insN l)) : ∃ A c, u = .slice A l.length c ∧ Src w A (insN l) := by
  rcases h.2 with ⟨rfl, h0⟩ | ⟨g, cap, cur, rfl, _⟩
  · exact ⟨none, 0, by rw [h0], fun h1 => absurd h1 (by simp [insN, h0])⟩
  · exact ⟨_, cap, rfl, fun h0 => ⟨_, rfl, h.cells (g := g) rfl⟩⟩
theorem rr10_yes {A : Option Addr} {bs : List Nat} (wd n cap : Nat) (w : World) (hw : wd = 10 ∨ wd = 16) (hn : bs.length = n) (hm8 : n ≤ 8000) (hc : n ≤ cap) (hcm : cap ≤ 9223372036854775807) (hs : Src w A (bts bs)) (hb : ∀ b ∈ bs, b < 256) :
    Calls Try.prog 35 #[.slice A n cap, .int .i64 wd] w (RarAns w (amdRd bs wd)) := by
  have hx0 : (headA false (wd : Int) == 0) = false := by rcases hw with rfl | rfl <;> rfl
  have hh := fun W => rahead_any false (wd : Int) W
  by_cases h4 : 4000 < n
  · refine (rr10_big _ wd n cap w hh hx0 (by omega)).mono ?_
    rintro e w' ⟨rfl, hbl⟩
    refine rar_bad ?_ (by decide) hbl
    have e : headR bs wd = (0, 2) := by unfold headR; rw [if_pos hw, if_pos (by omega)]
    unfold amdRd
    rw [e]
    rfl
  · by_cases hz : n = 0
    · refine (rr10_empty _ wd n cap w hh hx0 hz).mono ?_
      rintro e w' ⟨rfl, hbl⟩
      refine rar_bad ?_ (by decide) hbl
      have e : headR bs wd = (0, 8) := by unfold headR; rw [if_pos hw, if_neg (by omega), if_pos (by omega)]
      unfold amdRd
      rw [e]
      rfl
    · obtain ⟨ad, rfl, hc0⟩ := hs (by rw [length_bts]; omega)
      obtain ⟨b, hb0⟩ : ∃ b, bs[0]? = some b := ⟨bs[0]'(by omega), List.getElem?_eq_getElem (by omega)⟩
      have hb1 : b < 256 := hb b (List.mem_of_getElem? hb0)
      have hca : ∀ W, Below w.heap.size w W → W.cell? (ad.add 0) = some (.int .u8 b) ∧ W.cell? ad = some (.int .u8 b) := fun W hW => by
        have h1 := cell_below hW (hc0 0 _ (bts_at hb0))
        refine ⟨h1, ?_⟩
        rw [addr_zero] at h1
        exact h1
      obtain ⟨g0, g1⟩ := byte_one hb0 hb1
      have hq : ((b : Int) / 64 % 2 == 1) = bitAt bs 1 := by rw [g1]; exact div_bit b 64
      by_cases h128 : b < 128
      · refine (rr10_nopack (b := b) _ wd n cap w hh hx0 (by omega) (by omega) (by omega) hca).mono ?_
        rintro e w' ⟨rfl, hbl⟩
        refine rar_bad ?_ (by decide) hbl
        have h9 : (b : Int) / 128 = 0 := by omega
        have e0 : bitAt bs 0 = false := by rw [g0, h9]; rfl
        have e : headR bs wd = (0, 4) := by unfold headR; rw [if_pos hw, if_neg (by omega), if_neg (by omega), if_pos e0]
        unfold amdRd
        rw [e]
        rfl
      · have h9 : (b : Int) / 128 = 1 := by omega
        have e0 : bitAt bs 0 = true := by rw [g0, h9]; rfl
        have hh2 : ∀ W, Calls Try.prog 45 #[.bool (bitAt bs 1), .int .i64 wd] W fun e w' => e = .returned (.int .i64 (headNA (bitAt bs 1) wd)) ∧ W = w' := fun W => by
          have h := rahead_any (bitAt bs 1) (wd : Int) W
          rw [headA_nat _ hw] at h
          exact h
        by_cases hsh : n < headNA (bitAt bs 1) wd
        · refine (rr10_short (b := b) _ wd n cap w hh hx0 (by omega) (by omega) (by omega) hq _ (decide_eq_true hsh) hh2 hca).mono ?_
          rintro e w' ⟨rfl, hbl⟩
          refine rar_bad ?_ (by decide) hbl
          have e : headR bs wd = (0, 8) := by unfold headR; rw [if_pos hw, if_neg (by omega), if_neg (by omega), e0, if_neg (by decide), if_pos (by omega)]
          unfold amdRd
          rw [e]
          rfl
        · have eR : headR bs wd = (headNA (bitAt bs 1) wd, 0) := by unfold headR; rw [if_pos hw, if_neg (by omega), if_neg (by omega), e0, if_neg (by decide), if_neg (by omega)]
          have hR : amdRd bs wd = amdRd2 (amdHd (bs.take (headNA (bitAt bs 1) wd)) (bitAt bs 1) wd) (bs.drop (headNA (bitAt bs 1) wd)) (lwNA wd) := by
            unfold amdRd
            rw [eR, if_pos rfl]
          have hbd := headNA_bd (bitAt bs 1) wd
          have hpart : bitAt (bs.take (headNA (bitAt bs 1) wd)) 1 = bitAt bs 1 := bitAt_take (by omega) (by omega)
          have hlen : (bs.take (headNA (bitAt bs 1) wd)).length = headNA (bitAt bs 1) wd := by rw [List.length_take]; omega
          have hsm : ∀ x ∈ bs.take (headNA (bitAt bs 1) wd), x < 256 := fun x h => hb x (List.mem_of_mem_take h)
          obtain ⟨hlw, hlw2, _⟩ := lwA_cast hw
          have hl : ∀ W, Calls Try.prog 177 #[.int .i64 wd] W fun e w' => e = .returned (.tuple #[.int .i64 (lwNA wd), .int .i64 (owA wd)]) ∧ W = w' := fun W => by
            have h9 := rwidths_any wd W
            rw [hlw] at h9
            exact h9
          have hdl : (bs.drop (headNA (bitAt bs 1) wd)).length = n - headNA (bitAt bs 1) wd := by rw [List.length_drop, hn]
          obtain ⟨Ab, cb, hcut, hcb, hcb2, hsb⟩ := src_cut (headNA (bitAt bs 1) wd) hn (by omega) hc hs
          have hdb : ∀ x ∈ bs.drop (headNA (bitAt bs 1) wd), x < 256 := fun x h => hb x (List.mem_of_mem_drop h)
          rw [hR]
          generalize hmm : headNA (bitAt bs 1) wd = m at *
          have hbi : ∀ W, Below w.heap.size w W → Calls Try.prog 176 #[.slice (some ad) m cap] W fun e w' => ∃ A7 c7, e = .returned (.slice A7 (8 * m) c7) ∧ SrcB w' A7 (bls (bitsOf (bs.take m))) ∧ Below W.heap.size W w' := fun W hW => by
            have h9 := refbits_any (bs := bs.take m) cap (src_b (src_take m (src_later hs hW))) (by omega) hsm
            rw [hlen] at h9
            refine h9.mono ?_
            rintro e w' ⟨x, rfl, ho, hbl⟩
            obtain ⟨A7, c7, hx⟩ := ho.form
            rw [length_bitsOf, hlen] at hx
            subst hx
            exact ⟨A7, c7, rfl, ho.src, hbl⟩
          cases ha : amdHd (bs.take m) (bitAt bs 1) wd with
          | none =>
            refine (rr10_none (bitAt bs 1) b wd m n cap _ w hx0 (by omega) (by omega) (by omega) hc (by omega) hq hca hh hh2 hbi (fun W A7 c7 h7 => rhead_none m c7 W hw hmm hlen h7 hpart ha)).mono ?_
            rintro e w' ⟨rfl, hbl⟩
            exact rar_bad rfl (by decide) hbl
          | some hq' =>
            obtain ⟨h, more⟩ := hq'
            have hr := fun (W : World) (A7 : Option Addr) (c7 : Nat) (h7 : SrcB W A7 (bls (bitsOf (bs.take m)))) => rhead_some (h := h) (more := more) m c7 W hw hmm hlen h7 hpart ha
            have hgood : ∀ e w', (∃ A' c' L, (fldR (bs.drop m) more (lwNA wd)).2 = texts L ∧ e = .returned (.tuple #[.agg #[.bool h.poll, .int .i64 h.fi, .int .i64 h.sn, .bool h.part, .bool h.last, .int .i64 h.off, .slice A' L.length c'], .int .i64 0]) ∧ RSrc w' A' L ∧ L.length ≤ c' ∧ c' ≤ 9223372036854775807 ∧ Below w.heap.size w w') → (fldR (bs.drop m) more (lwNA wd)).1 = 0 → RarAns w (amdRd2 (some (h, more)) (bs.drop m) (lwNA wd)) e w' := by
              rintro e w' ⟨A', c', L, ht, rfl, k1, k2, k3, k4⟩ hz
              refine rar_ok ?_ k1 k2 k3 k4
              unfold amdRd2
              simp only [hz, if_true, ht]
            have hbad : ∀ er e w', (e = .returned (.tuple #[.agg #[.bool false, .int .i64 0, .int .i64 0, .bool false, .bool false, .int .i64 0, .slice none 0 0], .int .i64 er]) ∧ Below w.heap.size w w') → (fldR (bs.drop m) more (lwNA wd)).1 = er → er ≠ 0 → RarAns w (amdRd2 (some (h, more)) (bs.drop m) (lwNA wd)) e w' := by
              rintro er e w' ⟨rfl, k4⟩ hz h0
              refine rar_bad ?_ h0 k4
              unfold amdRd2
              simp only [hz, h0, if_false]
            cases more with
            | false =>
              have hcu := fun W (hW : Below w.heap.size w W) => refcut_no (lwNA wd) (n - m) cb (lwNA wd) W hdl (by omega) hcb (by omega) (hsb W hW) hdb
              by_cases hz2 : (fldR (bs.drop m) false (lwNA wd)).1 = 0
              · refine (rr10_no_good (t := (fldR (bs.drop m) false (lwNA wd)).2) h.poll h.part h.last h.fi h.sn h.off (bitAt bs 1) b wd m n cap cb (lwNA wd) (owA wd) _ w hx0 (by omega) (by omega) (by omega) hc hcut (by omega) hq hca hh hh2 hbi hr (fun W hW => (hcu W hW).mono ?_) hsb hl).mono fun e w' h9 => hgood e w' h9 hz2
                rintro e w' ⟨⟨_, A', c', L, h8, rfl, h9, h10, h11⟩ | h7, hbl⟩
                · exact ⟨A', c', L, h8, rfl, h9, h10, h11, hbl⟩
                · exact absurd hz2 h7.1
              · refine (rr10_no_fail h.poll h.part h.last h.fi h.sn h.off (fldR (bs.drop m) false (lwNA wd)).1 (bitAt bs 1) b wd m n cap cb (lwNA wd) (owA wd) _ w hx0 (by omega) (by omega) (by omega) hc hcut (by omega) hq hca hh hh2 hbi hr (fun W hW => (hcu W hW).mono ?_) hz2 hl).mono fun e w' h9 => hbad _ e w' h9 rfl hz2
                rintro e w' ⟨⟨h7, _⟩ | ⟨_, rfl⟩, hbl⟩
                · exact absurd h7 hz2
                · exact ⟨rfl, hbl⟩
            | true =>
              have hrd : ∀ W, Below w.heap.size w W → Calls Try.prog 178 #[.slice (some Ab) (n - m) cb, .int .i64 (lwNA wd)] W (RrAns W (bs.drop m) (lwNA wd)) := fun W hW => by
                rcases hlw2 with h9 | h9 <;> rw [h9]
                · exact refread_11 (n - m) cb W hdl (by omega) (hsb W hW) hdb
                · exact refread_15 (n - m) cb W hdl (by omega) (hsb W hW) hdb
              by_cases hz3 : (readF (bs.drop m) (lwNA wd)).2.2 = 0
              · have hrd2 : ∀ W, Below w.heap.size w W → Calls Try.prog 178 #[.slice (some Ab) (n - m) cb, .int .i64 (lwNA wd)] W fun e w' => ∃ A8 c8 q, e = .returned (.tuple #[.slice A8 (readF (bs.drop m) (lwNA wd)).1.length c8, .int .i64 q, .int .i64 0]) ∧ Src w' A8 (insN (readF (bs.drop m) (lwNA wd)).1) ∧ Below W.heap.size W w' := fun W hW => (hrd W hW).mono fun e w' h9 => by
                  obtain ⟨⟨_, u, rfl, ho⟩ | h9, hbl⟩ := h9
                  · obtain ⟨A8, c8, rfl, hs8⟩ := ints_own ho
                    exact ⟨A8, c8, _, rfl, hs8, hbl⟩
                  · exact absurd hz3 h9.1
                have hln : (readF (bs.drop m) (lwNA wd)).1.length ≤ 1000 := by
                  obtain ⟨ls, k, hrf⟩ : ∃ ls k, readF (bs.drop m) (lwNA wd) = (ls, k, 0) := ⟨_, _, by rw [← hz3]⟩
                  have h23 := (read_write hdb hrf).2.1
                  rw [hrf]
                  show ls.length ≤ 1000
                  omega
                by_cases hany : (readF (bs.drop m) (lwNA wd)).1.any (fun x => decide (2047 < x)) = true
                · have hf : (fldR (bs.drop m) true (lwNA wd)).1 = 3 := by unfold fldR; rw [if_pos rfl, if_pos hz3, if_pos hany]
                  refine (rr10_long h.poll h.part h.last h.fi h.sn h.off (bitAt bs 1) b wd m n cap cb (lwNA wd) (owA wd) _ w hx0 (by omega) (by omega) (by omega) hc hcut (by omega) hq hca hh hh2 hbi hr hrd2 ?_ hln hl).mono fun e w' h9 => hbad 3 e w' h9 hf (by decide)
                  rw [List.any_eq_true] at hany
                  obtain ⟨x, hx, h9⟩ := hany
                  exact ⟨x, hx, of_decide_eq_true h9⟩
                · have hls : ∀ x ∈ (readF (bs.drop m) (lwNA wd)).1, x ≤ 2047 := fun x hx => by
                    rcases Nat.lt_or_ge 2047 x with h9 | h9
                    · exact absurd (List.any_eq_true.2 ⟨x, hx, decide_eq_true h9⟩) hany
                    · exact h9
                  have hcu := fun W (hW : Below w.heap.size w W) => refcut_yes (lwNA wd) (n - m) cb (lwNA wd) W hlw2 rfl hdl (by omega) hcb (by omega) (hsb W hW) hdb (bit_not hany)
                  by_cases hz2 : (fldR (bs.drop m) true (lwNA wd)).1 = 0
                  · refine (rr10_yes_good (t := (fldR (bs.drop m) true (lwNA wd)).2) h.poll h.part h.last h.fi h.sn h.off (bitAt bs 1) b wd m n cap cb (lwNA wd) (owA wd) _ w hx0 (by omega) (by omega) (by omega) hc hcut (by omega) hq hca hh hh2 hbi hr hrd2 (fun W hW => (hcu W hW).mono ?_) hsb hls hln hl).mono fun e w' h9 => hgood e w' h9 hz2
                    rintro e w' ⟨⟨_, A', c', L, h8, rfl, h9, h10, h11⟩ | h7, hbl⟩
                    · exact ⟨A', c', L, h8, rfl, h9, h10, h11, hbl⟩
                    · exact absurd hz2 h7.1
                  · refine (rr10_yes_fail h.poll h.part h.last h.fi h.sn h.off (fldR (bs.drop m) true (lwNA wd)).1 (bitAt bs 1) b wd m n cap cb (lwNA wd) (owA wd) _ w hx0 (by omega) (by omega) (by omega) hc hcut (by omega) hq hca hh hh2 hbi hr hrd2 (fun W hW => (hcu W hW).mono ?_) hz2 hls hln hl).mono fun e w' h9 => hbad _ e w' h9 rfl hz2
                    rintro e w' ⟨⟨h7, _⟩ | ⟨_, rfl⟩, hbl⟩
                    · exact absurd h7 hz2
                    · exact ⟨rfl, hbl⟩
              · have hf : (fldR (bs.drop m) true (lwNA wd)).1 = (readF (bs.drop m) (lwNA wd)).2.2 := by unfold fldR; rw [if_pos rfl, if_neg hz3]
                refine (rr10_err h.poll h.part h.last h.fi h.sn h.off (readF (bs.drop m) (lwNA wd)).2.2 (bitAt bs 1) b wd m n cap cb (lwNA wd) (owA wd) _ w hx0 (by omega) (by omega) (by omega) hc hcut (by omega) hq hca hh hh2 hbi hr (fun W hW => (hrd W hW).mono ?_) hz3 hl).mono fun e w' h9 => hbad _ e w' h9 hf hz3
                rintro e w' ⟨⟨h7, _⟩ | ⟨_, rfl⟩, hbl⟩
                · exact absurd h7 hz3
                · exact ⟨rfl, hbl⟩
end Go.Proofs.Ytgdpjaojlhdhdaa
namespace Go.Proofs.Ytgdpjaojlhdhdaa


theorem lens_texts (L : List RowB) : lens L = (texts L).map List.length := by simp [lens, texts]
theorem ok_last {ls : List Nat} (h : okTo ls ls.length = true) (h0 : 0 < ls.length) : ∃ x, ls.getLast? = some x ∧ 1 ≤ x := by
  have h1 : ls[ls.length - 1]? = some ls[ls.length - 1] := List.getElem?_eq_getElem (by omega)
  refine ⟨ls[ls.length - 1], by rw [List.getLast?_eq_getElem?]; exact h1, (okTo_small h h1).1⟩
theorem two_pow_wd {wd : Nat} (h : wd = 11 ∨ wd = 15) : 2048 ≤ 2 ^ wd := by rcases h with rfl | rfl <;> decide
/-- what was written is read -/
theorem fld_back {t : List (List Nat)} {wd : Nat} (hw : wd = 11 ∨ wd = 15) (h1 : 1 ≤ t.length) (h24 : t.length ≤ 24) (hok : okTo (t.map List.length) (t.map List.length).length = true) :
    fldR (tailF (t.map List.length) wd ++ t.flatten) (decide (1 < t.length)) wd = (0, t) := by
  have hl : (t.map List.length).length = t.length := by simp
  have hc : cutF t.flatten ((t.map List.length).take (t.length - 1)) = some t := by
    refine cutF_back t (fun e => by rw [e] at h1; simp at h1) (fun x hx e => ?_)
    obtain ⟨y, hy, hy1⟩ := ok_last hok (by omega)
    rw [List.getLast?_map, hx, e] at hy
    simp at hy
    omega
  by_cases h2 : 1 < t.length
  · have hpos := tail_lens hok
    rw [hl] at hpos
    have htl : ((t.map List.length).take (t.length - 1)).length = t.length - 1 := by rw [List.length_take, hl]; omega
    have hrb := read_back (w := wd) (z := t.flatten) (l := (t.map List.length).take (t.length - 1)) (fun e => by rw [e] at htl; simp at htl; omega) (by omega) (fun x hx => ⟨(hpos x hx).1, Nat.lt_of_lt_of_le (hpos x hx).2 (two_pow_wd hw)⟩)
    have hpl : (pack (wbl wd ((t.map List.length).take (t.length - 1)))).length = packLen (((t.map List.length).take (t.length - 1)).length * (wd + 1)) := by rw [length_pack, length_wbl]
    have hany : ((t.map List.length).take (t.length - 1)).any (fun x => decide (2047 < x)) = false := by
      rw [← Bool.not_eq_true, List.any_eq_true]
      rintro ⟨x, hx, h⟩
      rw [decide_eq_true_iff] at h
      have := hpos x hx
      omega
    unfold tailF fldR
    rw [hl, if_pos h2, decide_eq_true h2, hrb]
    simp only [if_true, hany, Bool.false_eq_true, if_false]
    rw [← hpl, List.drop_left, hc]
    rfl
  · have e1 : t.length - 1 = 0 := by omega
    rw [e1, List.take_zero] at hc
    unfold tailF fldR
    rw [hl, if_neg h2, decide_eq_false h2, List.nil_append]
    simp only [Bool.false_eq_true, if_false]
    rw [hc]
    rfl
theorem ansOf_zero {o : Option (List (List Nat))} {t : List (List Nat)} (h : ansOf o = (0, t)) : o = some t := by
  cases o with
  | none => simp [ansOf] at h
  | some x => simp [ansOf] at h; rw [h]
theorem okTo_of {ls : List Nat} (h : ∀ k m, ls[k]? = some m → 1 ≤ m ∧ m ≤ 4000 ∧ (k + 1 ≠ ls.length → m ≤ 2047)) : okTo ls ls.length = true := by
  unfold okTo
  rw [List.all_eq_true]
  intro j hj
  rw [List.mem_range] at hj
  have h1 := h j ls[j] (List.getElem?_eq_getElem hj)
  rw [List.getD_eq_getElem?_getD, List.getElem?_eq_getElem hj, Option.getD_some]
  unfold okAt
  by_cases e : j + 1 = ls.length
  · rw [if_pos e, decide_eq_true h1.1, decide_eq_true h1.2.1]
    rfl
  · rw [if_neg e, decide_eq_true h1.1, decide_eq_true (h1.2.2 e)]
    rfl
theorem sum_lens (t : List (List Nat)) : (t.map List.length).sum = t.flatten.length := by
  rw [List.length_flatten]
/-- what is read may be, and has, written, the bytes that it was read from -/
theorem fld_write {bs : List Nat} {more : Bool} {wd : Nat} {t : List (List Nat)} (_hw : wd = 11 ∨ wd = 15) (hb : ∀ b ∈ bs, b < 256) (h4 : bs.length ≤ 4000) (h : fldR bs more wd = (0, t)) :
    1 ≤ t.length ∧ t.length ≤ 24 ∧ more = decide (1 < t.length) ∧ tailF (t.map List.length) wd ++ t.flatten = bs ∧ okTo (t.map List.length) (t.map List.length).length = true := by
  have hl : (t.map List.length).length = t.length := by simp
  have fin : ∀ ls z, cutF z ls = some t → z.length ≤ 4000 → (∀ x ∈ ls, 1 ≤ x ∧ x ≤ 2047) → okTo (t.map List.length) (t.map List.length).length = true := by
    intro ls z hc hz hls
    obtain ⟨c1, c2, c3, x, c4, c5⟩ := cutF_ok hc
    refine okTo_of (fun k m hm => ?_)
    have hmz : m ≤ 4000 := by
      have e1 := sumTo_succ hm
      have e2 := sumTo_le (t.map List.length) (k + 1)
      rw [sum_lens, c1] at e2
      omega
    rw [hl]
    have hk : k < t.length := by have := (List.getElem?_eq_some_iff.1 hm).1; rw [hl] at this; exact this
    by_cases e : k < ls.length
    · have h9 : ((t.map List.length).take ls.length)[k]? = some m := by rw [List.getElem?_take, if_pos e]; exact hm
      rw [c3] at h9
      have := hls m (List.mem_of_getElem? h9)
      exact ⟨this.1, hmz, fun _ => this.2⟩
    · have e2 : k = t.length - 1 := by omega
      subst e2
      rw [List.getLast?_eq_getElem?] at c4
      rw [List.getElem?_map, c4] at hm
      simp at hm
      refine ⟨?_, hmz, fun h => by omega⟩
      cases x with
      | nil => exact absurd rfl c5
      | cons a r => simp at hm; omega
  unfold fldR at h
  cases more
  · simp only [Bool.false_eq_true, if_false] at h
    have hc := ansOf_zero h
    obtain ⟨c1, c2, c3, x, c4, c5⟩ := cutF_ok hc
    simp only [List.length_nil, Nat.zero_add] at c2
    refine ⟨by omega, by omega, by rw [c2]; rfl, ?_, fin [] bs hc h4 (fun x hx => by cases hx)⟩
    unfold tailF
    rw [hl, if_neg (by omega), List.nil_append, c1]
  · simp only [if_true] at h
    by_cases h0 : (readF bs wd).2.2 = 0
    · obtain ⟨ls, k, hrf⟩ : ∃ ls k, readF bs wd = (ls, k, 0) := ⟨(readF bs wd).1, (readF bs wd).2.1, by rw [← h0]⟩
      rw [hrf] at h
      simp only [if_true] at h
      cases hany : ls.any fun x => decide (2047 < x)
      · rw [hany] at h
        simp only [Bool.false_eq_true, if_false] at h
        have hc := ansOf_zero h
        obtain ⟨c1, c2, c3, x, c4, c5⟩ := cutF_ok hc
        obtain ⟨q1, q2, q3, q4, q5, q6⟩ := read_write hb hrf
        have q7 : 1 ≤ ls.length := by
          cases ls with
          | nil => exact absurd rfl q1
          | cons => simp
        have hls : ∀ x ∈ ls, 1 ≤ x ∧ x ≤ 2047 := fun x hx => by
          refine ⟨(q3 x hx).1, ?_⟩
          rcases Nat.lt_or_ge 2047 x with h9 | h9
          · have : ls.any (fun x => decide (2047 < x)) = true := List.any_eq_true.2 ⟨x, hx, decide_eq_true h9⟩
            rw [hany] at this
            cases this
          · exact h9
        refine ⟨by omega, by omega, by rw [c2, decide_eq_true (by omega)], ?_, fin ls _ hc (by rw [List.length_drop]; omega) hls⟩
        unfold tailF
        rw [hl, if_pos (by omega), show t.length - 1 = ls.length by omega, c3, q6, c1, List.take_append_drop]
      · rw [hany] at h
        simp at h
    · rw [if_neg h0] at h
      simp only [Prod.mk.injEq] at h
      exact absurd h.1 h0
end Go.Proofs.Ytgdpjaojlhdhdaa
namespace Go.Proofs.Ytgdpjaojlhdhdaa
open Go.RowKit


theorem bits_pack {b : List Bool} {h : Nat} (hl : b.length = 8 * h) : bitsOf (pack b) = b ∧ (pack b).length = h := by
  have e : packLen b.length = h := by rw [hl]; unfold packLen; omega
  refine ⟨?_, by rw [length_pack, e]⟩
  rw [bitsOf_pack, e, hl, Nat.sub_self]
  simp
theorem pack_bits {hd : List Nat} (hb : ∀ x ∈ hd, x < 256) : pack (bitsOf hd) = hd := by
  obtain ⟨h1, _⟩ := bits_pack (length_bitsOf hd)
  exact bitsOf_inj (fun x hx => pack_small _ x hx) hb h1
theorem seg_mid {a b c : List Bool} {hd : List Nat} {i n : Nat} (h : bitsOf hd = a ++ (b ++ c)) (ha : a.length = i) (hb : b.length = n) : seg hd i n = b := by
  unfold seg
  rw [h, ← ha, List.drop_left, ← hb, List.take_left]
theorem bit_mid {a c : List Bool} {b : Bool} {hd : List Nat} {i : Nat} (h : bitsOf hd = a ++ (b :: c)) (ha : a.length = i) : bitAt hd i = b := by
  unfold bitAt
  rw [h, List.getD_eq_getElem?_getD, List.getElem?_append_right (by omega), ha, Nat.sub_self]
  rfl
theorem unval_one (b : Bool) : unval b.toNat 1 = [b] := by cases b <;> rfl
/-- a head written is read -/
theorem head_back {fi sn nz wd h : Nat} {more : Bool} (hl : nz + 3 + wd = 8 * h) (hf : fi < 4) (hs : sn < 2 ^ wd) :
    val (seg (pack (((unval 0 nz ++ unval fi 2) ++ unval more.toNat 1) ++ unval sn wd)) 0 nz) = 0 ∧ val (seg (pack (((unval 0 nz ++ unval fi 2) ++ unval more.toNat 1) ++ unval sn wd)) nz 2) = fi ∧
    bitAt (pack (((unval 0 nz ++ unval fi 2) ++ unval more.toNat 1) ++ unval sn wd)) (nz + 2) = more ∧ val (seg (pack (((unval 0 nz ++ unval fi 2) ++ unval more.toNat 1) ++ unval sn wd)) (nz + 2 + 1) wd) = sn ∧
    (pack (((unval 0 nz ++ unval fi 2) ++ unval more.toNat 1) ++ unval sn wd)).length = h := by
  have hlen : (((unval 0 nz ++ unval fi 2) ++ unval more.toNat 1) ++ unval sn wd).length = 8 * h := by
    rw [List.length_append, List.length_append, List.length_append, length_unval, length_unval, length_unval, length_unval]
    omega
  obtain ⟨h1, h2⟩ := bits_pack hlen
  rw [unval_one] at *
  refine ⟨?_, ?_, ?_, ?_, h2⟩
  · rw [seg_mid (i := 0) (n := nz) (a := []) (b := unval 0 nz) (c := unval fi 2 ++ ([more] ++ unval sn wd)) (by rw [h1]; simp) rfl (length_unval _ _), val_unval, Nat.zero_mod]
  · rw [seg_mid (a := unval 0 nz) (b := unval fi 2) (c := [more] ++ unval sn wd) (by rw [h1]; simp) (length_unval _ _) (length_unval _ _), val_unval]
    omega
  · exact bit_mid (a := unval 0 nz ++ unval fi 2) (c := unval sn wd) (by rw [h1]; simp) (by rw [List.length_append, length_unval, length_unval])
  · rw [seg_mid (a := (unval 0 nz ++ unval fi 2) ++ [more]) (b := unval sn wd) (c := []) (by rw [h1]; simp) (by rw [List.length_append, List.length_append, length_unval, length_unval]; rfl) (length_unval _ _), val_unval]
    exact Nat.mod_eq_of_lt hs
/-- a head read is what was written -/
theorem head_write {hd : List Nat} {nz wd h : Nat} (hl : nz + 3 + wd = 8 * h) (hh : hd.length = h) (hb : ∀ x ∈ hd, x < 256) (h0 : val (seg hd 0 nz) = 0) :
    pack (((unval 0 nz ++ unval (val (seg hd nz 2)) 2) ++ unval (bitAt hd (nz + 2)).toNat 1) ++ unval (val (seg hd (nz + 2 + 1) wd)) wd) = hd := by
  have hlb : (bitsOf hd).length = 8 * h := by rw [length_bitsOf, hh]
  have u0 : unval 0 nz = seg hd 0 nz := by
    have := unval_val (seg hd 0 nz)
    rw [length_seg (by omega), h0] at this
    exact this
  have u1 : unval (val (seg hd nz 2)) 2 = seg hd nz 2 := by
    have := unval_val (seg hd nz 2)
    rwa [length_seg (by omega)] at this
  have u3 : unval (val (seg hd (nz + 2 + 1) wd)) wd = seg hd (nz + 2 + 1) wd := by
    have := unval_val (seg hd (nz + 2 + 1) wd)
    rwa [length_seg (by omega)] at this
  rw [u0, u1, u3, unval_one]
  have e : ((seg hd 0 nz ++ seg hd nz 2) ++ [bitAt hd (nz + 2)]) ++ seg hd (nz + 2 + 1) wd = bitsOf hd := by
    have s2 : seg hd (nz + 2) 1 = [bitAt hd (nz + 2)] := by
      have := seg_succ (bs := hd) (i := nz + 2) (m := 0) (by omega)
      rw [seg_zero] at this
      simpa using this
    rw [← s2]
    unfold seg
    have d := List.take_append_drop nz (bitsOf hd)
    have d2 := List.take_append_drop 2 ((bitsOf hd).drop nz)
    have d3 := List.take_append_drop 1 ((bitsOf hd).drop (nz + 2))
    rw [List.drop_drop] at d2 d3
    have d4 : ((bitsOf hd).drop (nz + 2 + 1)).take wd = (bitsOf hd).drop (nz + 2 + 1) := List.take_of_length_le (by rw [List.length_drop, hlb]; omega)
    rw [List.drop_zero, d4, List.append_assoc, List.append_assoc, d3, d2, d]
  rw [e]
  exact pack_bits hb

theorem umd_len {fi sn : Nat} {L : List RowB} {wd : Nat} (h : umdF fi sn (lens L) wd ≠ 0) : ((umdBytes fi sn L wd).length : Int) = umdF fi sn (lens L) wd := by
  obtain ⟨hw, _, _, _, h1, h2, _, h3⟩ := umdF_pos h
  have hl : ((tailF (lens L) 11).length : Int) = sizeF (((lens L).length : Int) - 1) 11 := length_tail 11 (.inl rfl) h1 h2
  unfold umdBytes
  rw [List.length_append, List.length_append, length_flat, length_pack, length_headB, h3]
  have e : ((packLen ((if wd = 10 then 3 else 0) + 3 + wd) : Nat) : Int) = (wd : Int) / 5 := by
    have : wd = 5 ∨ wd = 10 := by omega
    rcases this with rfl | rfl <;> rfl
  omega
theorem flat_texts (L : List RowB) : flat L = (texts L).flatten := rfl
theorem umd_back {fi sn : Nat} {L : List RowB} {wd : Nat} (h : umdF fi sn (lens L) wd ≠ 0) : umdRd (umdBytes fi sn L wd) wd = (0, fi, sn, texts L) := by
  have hlen := umd_len h
  have hbig := umdF_big fi sn (lens L) wd
  obtain ⟨hw, _, hf, hs, h1, h2, hok, _⟩ := umdF_pos h
  have hwd : wd = 5 ∨ wd = 10 := by omega
  have hsz := (of_decide_eq_true hs).2
  have hs2 : sn < 2 ^ wd := by
    rcases hwd with rfl | rfl
    · have e : sz ((5 : Nat) : Int) = 32 := by decide
      rw [e] at hsz; omega
    · have e : sz ((10 : Nat) : Int) = 1024 := by decide
      rw [e] at hsz; omega
  have hhb := head_back (fi := fi) (sn := sn) (nz := if wd = 10 then 3 else 0) (wd := wd) (h := wd / 5) (more := decide (1 < L.length)) (by rcases hwd with rfl | rfl <;> rfl) (by omega) hs2
  obtain ⟨b1, b2, b3, b4, b5⟩ := hhb
  have hU : umdBytes fi sn L wd = pack (headB fi sn (decide (1 < L.length)) wd) ++ (tailF (lens L) 11 ++ flat L) := by unfold umdBytes; rw [List.append_assoc]
  have b5' : (pack (headB fi sn (decide (1 < L.length)) wd)).length = wd / 5 := b5
  have htk : (umdBytes fi sn L wd).take (wd / 5) = pack (headB fi sn (decide (1 < L.length)) wd) := by rw [hU, ← b5', List.take_left]
  have hdr : (umdBytes fi sn L wd).drop (wd / 5) = tailF (lens L) 11 ++ flat L := by rw [hU, ← b5', List.drop_left]
  have hfb := fld_back (t := texts L) (wd := 11) (.inl rfl) (by rw [length_texts, ← length_lens]; exact h1) (by rw [length_texts, ← length_lens]; exact h2) (by rw [← lens_texts]; exact hok)
  rw [← lens_texts, ← flat_texts, length_texts] at hfb
  unfold umdRd
  rw [if_pos hwd, if_neg (by omega), if_neg (by
    have : ((wd / 5 : Nat) : Int) ≤ (umdBytes fi sn L wd).length := by
      rw [hU, List.length_append, b5']
      omega
    omega), htk, hdr]
  unfold headB
  rw [if_neg (fun h => h b1), b3, hfb, b2, b4]
  rfl
theorem umd_write {bs : List Nat} {wd fi sn : Nat} {L : List RowB} (hb : ∀ b ∈ bs, b < 256) (h : umdRd bs wd = (0, fi, sn, texts L)) : umdF fi sn (lens L) wd ≠ 0 ∧ umdBytes fi sn L wd = bs := by
  unfold umdRd at h
  by_cases hwd : wd = 5 ∨ wd = 10
  · rw [if_pos hwd] at h
    by_cases h4 : 4000 < bs.length
    · rw [if_pos h4] at h; simp at h
    · rw [if_neg h4] at h
      by_cases hs : bs.length < wd / 5
      · rw [if_pos hs] at h; simp at h
      · rw [if_neg hs] at h
        generalize hnz : (if wd = 10 then 3 else 0) = nz at *
        have hlw : nz + 3 + wd = 8 * (wd / 5) := by rcases hwd with rfl | rfl <;> simp at hnz <;> omega
        by_cases h0 : val (seg (bs.take (wd / 5)) 0 nz) = 0
        · rw [if_neg (fun h => h h0)] at h
          by_cases hf : (fldR (bs.drop (wd / 5)) (bitAt (bs.take (wd / 5)) (nz + 2)) 11).1 = 0
          · rw [if_pos hf] at h
            simp only [Prod.mk.injEq, true_and] at h
            obtain ⟨e1, e2, e3⟩ := h
            have hfr : fldR (bs.drop (wd / 5)) (bitAt (bs.take (wd / 5)) (nz + 2)) 11 = (0, texts L) := by rw [← hf, ← e3]
            have hth : (bs.take (wd / 5)).length = wd / 5 := by rw [List.length_take]; omega
            have hw := head_write hlw hth (fun x hx => hb x (List.mem_of_mem_take hx)) h0
            obtain ⟨q1, q2, q3, q4, q5⟩ := fld_write (.inl rfl) (fun x hx => hb x (List.mem_of_mem_drop hx)) (by rw [List.length_drop]; omega) hfr
            rw [← lens_texts] at q4 q5
            rw [length_texts] at q1 q2 q3
            have hby : umdBytes fi sn L wd = bs := by
              unfold umdBytes headB
              rw [hnz, ← q3, ← e1, ← e2, hw, List.append_assoc, flat_texts, q4, List.take_append_drop]
            refine ⟨?_, hby⟩
            have hv1 := val_lt (seg (bs.take (wd / 5)) nz 2)
            have hv2 := val_lt (seg (bs.take (wd / 5)) (nz + 2 + 1) wd)
            rw [length_seg (by omega)] at hv1 hv2
            rw [e1] at hv1
            rw [e2] at hv2
            have hokn : okn (wd : Int) (sn : Int) = true := by
              refine decide_eq_true ⟨by omega, ?_⟩
              rcases hwd with rfl | rfl
              · have e : sz ((5 : Nat) : Int) = 32 := by decide
                rw [e]; omega
              · have e : sz ((10 : Nat) : Int) = 1024 := by decide
                rw [e]; omega
            have hlt : ((tailF (lens L) 11).length : Int) = sizeF (((lens L).length : Int) - 1) 11 := length_tail (ls := lens L) 11 (.inl rfl) (by rw [length_lens]; exact q1) (by rw [length_lens]; exact q2)
            have hll := congrArg List.length hby
            unfold umdBytes at hll
            rw [List.length_append, List.length_append, length_flat, length_pack, length_headB] at hll
            have e : ((packLen ((if wd = 10 then 3 else 0) + 3 + wd) : Nat) : Int) = (wd : Int) / 5 := by rcases hwd with rfl | rfl <;> rfl
            have hd1 : 1 ≤ (wd : Int) / 5 := by rcases hwd with rfl | rfl <;> decide
            unfold umdF
            rw [if_pos ⟨by rcases hwd with rfl | rfl <;> simp, by omega, by omega, hokn⟩]
            unfold fieldsF
            have hn := sizeF_nonneg (((lens L).length : Int) - 1) 11
            rw [if_pos ⟨by rw [length_lens]; exact q1, by rw [length_lens]; exact q2, q5, by omega⟩]
            omega
          · rw [if_neg hf] at h
            simp only [Prod.mk.injEq] at h
            exact absurd h.1 hf
        · rw [if_pos h0] at h; simp at h
  · rw [if_neg hwd] at h; simp at h
end Go.Proofs.Ytgdpjaojlhdhdaa
