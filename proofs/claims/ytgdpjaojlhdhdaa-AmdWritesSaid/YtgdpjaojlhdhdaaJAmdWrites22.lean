/-
  The packet of amd that bytes are: the document's answer, whatever the bytes. How many bytes a packet has: the document's answer. Which packets of amd may be: the document's Size, one of its ways. Which packets of amd may be: the document's Size, one of its ways.
-/
import Derived.Test.YtgdpjaojlhdhdaaJAmdWrites16
import Derived.Test.YtgdpjaojlhdhdaaJAmdWrites17
import Derived.Test.YtgdpjaojlhdhdaaJAmdWrites18
import Derived.Test.YtgdpjaojlhdhdaaJAmdWrites19
import Derived.Test.YtgdpjaojlhdhdaaJAmdWrites20
import Derived.Test.YtgdpjaojlhdhdaaJAmdWrites21
import Derived.Test.YtgdpjaojlhdhdaaJAmdWrites06
import Derived.Test.YtgdpjaojlhdhdaaJAmdWrites15
import Derived.Test.YtgdpjaojlhdhdaaJAmdWrites07
import Derived.Test.YtgdpjaojlhdhdaaJAmdWrites08
namespace Go.Proofs.Ytgdpjaojlhdhdaa
open Go.RowKit

theorem rahead_any (part : Bool) (wd : Int) (w : World) : Calls Try.prog 45 #[.bool part, .int .i64 wd] w fun e w' => e = .returned (.int .i64 (headA part wd)) ∧ w = w' := by
  by_cases h5 : wd = 10
  · subst h5
    cases part
    all_goals
      go_enter Try.func45, Try.ntmps45
      go_wp2
      go_ret
      exact ⟨rfl, rfl⟩
  · by_cases h10 : wd = 16
    · subst h10
      cases part
      all_goals
        go_enter Try.func45, Try.ntmps45
        go_wp2
        go_ret
        exact ⟨rfl, rfl⟩
    · have h1 : (wd == 10) = false := by simpa using h5
      have h2 : (wd == 16) = false := by simpa using h10
      have HH := Lib.hid (show headA part wd = 0 by unfold headA; rw [if_neg h5, if_neg h10])
      clear h5 h10
      cases part
      all_goals
        go_enter Try.func45, Try.ntmps45
        go_wp2
        go_ret
        exact ⟨by rw [HH.out]; rfl, rfl⟩
/-- what the document's Read answers -/
def RarAns (w : World) (r : Int × HdA × List (List Nat)) (e : Ending) (w' : World) : Prop :=
  ((r.1 = 0 ∧ ∃ A c L, r.2.2 = texts L ∧ e = .returned (.tuple #[.agg #[.bool r.2.1.poll, .int .i64 r.2.1.fi, .int .i64 r.2.1.sn, .bool r.2.1.part, .bool r.2.1.last, .int .i64 r.2.1.off, .slice A L.length c], .int .i64 0]) ∧ RSrc w' A L ∧ L.length ≤ c ∧ c ≤ 9223372036854775807) ∨
   (r.1 ≠ 0 ∧ e = .returned (.tuple #[.agg #[.bool false, .int .i64 0, .int .i64 0, .bool false, .bool false, .int .i64 0, .slice none 0 0], .int .i64 r.1]))) ∧ Below w.heap.size w w'
theorem rar_bad {w w' : World} {er : Int} {r : Int × HdA × List (List Nat)} (h : r.1 = er) (h0 : er ≠ 0) (hb : Below w.heap.size w w') : RarAns w r (.returned (.tuple #[.agg #[.bool false, .int .i64 0, .int .i64 0, .bool false, .bool false, .int .i64 0, .slice none 0 0], .int .i64 er])) w' := by
  subst h
  exact ⟨.inr ⟨h0, rfl⟩, hb⟩
theorem rar_ok {w w' : World} {A : Option Addr} {c : Nat} {L : List RowB} {h : HdA} {r : Int × HdA × List (List Nat)} (e : r = (0, h, texts L)) (hs : RSrc w' A L) (h1 : L.length ≤ c) (h2 : c ≤ 9223372036854775807) (hb : Below w.heap.size w w') : RarAns w r (.returned (.tuple #[.agg #[.bool h.poll, .int .i64 h.fi, .int .i64 h.sn, .bool h.part, .bool h.last, .int .i64 h.off, .slice A L.length c], .int .i64 0])) w' := by
  subst e
  exact ⟨.inl ⟨rfl, A, c, L, rfl, rfl, hs, h1, h2⟩, hb⟩
theorem rhead_some {A : Option Addr} {hd : List Nat} {part : Bool} {wd : Nat} {h : HdA} {more : Bool} (m c : Nat) (w : World) (hw : wd = 10 ∨ wd = 16) (hm : headNA part wd = m) (hn : hd.length = m) (hs : SrcB w A (bls (bitsOf hd))) (hp : bitAt hd 1 = part) (ha : amdHd hd part wd = some (h, more)) :
    Calls Try.prog 175 #[.slice A (8 * m) c, .int .i64 wd] w fun e w' => e = .returned (.tuple #[.agg #[.bool h.poll, .int .i64 h.fi, .int .i64 h.sn, .bool h.part, .bool h.last, .int .i64 h.off, .slice none 0 0], .bool more, .bool true]) ∧ Below w.heap.size w w' := by
  subst hm
  rcases hw with rfl | rfl <;> cases part <;> simp only [amdHd, if_true] at ha
  · simp at ha
    obtain ⟨rfl, rfl⟩ := ha
    exact rhead_10f (bitAt hd 2) (bitAt hd 5) (val (seg hd 3 2)) (val (seg hd 6 10)) c w hn hs hp rfl rfl rfl rfl
  · simp at ha
    obtain ⟨rfl, rfl⟩ := ha
    cases hl : bitAt hd 16
    · exact rhead_10tl0 (bitAt hd 2) (bitAt hd 5) (val (seg hd 3 2)) (val (seg hd 6 10)) (val (seg hd 17 15)) c w hn hs hp rfl rfl hl rfl rfl rfl
    · exact rhead_10tl1 (bitAt hd 2) (bitAt hd 5) (val (seg hd 3 2)) (val (seg hd 6 10)) (val (seg hd 17 15)) c w hn hs hp rfl rfl hl rfl rfl rfl
  · by_cases h7 : bitAt hd 7 = true
    · simp [h7] at ha
    · by_cases h6 : bitAt hd 6 = true
      · simp [h6] at ha
      · simp [h7, h6] at ha
        obtain ⟨rfl, rfl⟩ := ha
        exact rhead_16fn0l0 (bitAt hd 2) (bitAt hd 5) (val (seg hd 3 2)) (val (seg hd 8 16)) c w hn hs hp rfl rfl (bit_not h6) (bit_not h7) rfl rfl
  · by_cases h7 : bitAt hd 7 = true
    · simp [h7] at ha
    · simp [h7] at ha
      obtain ⟨rfl, rfl⟩ := ha
      cases hl : bitAt hd 6
      · exact rhead_16tn0l0 (bitAt hd 2) (bitAt hd 5) (val (seg hd 3 2)) (val (seg hd 8 16)) (val (seg hd 24 16)) c w hn hs hp rfl rfl hl (bit_not h7) rfl rfl rfl
      · exact rhead_16tn0l1 (bitAt hd 2) (bitAt hd 5) (val (seg hd 3 2)) (val (seg hd 8 16)) (val (seg hd 24 16)) c w hn hs hp rfl rfl hl (bit_not h7) rfl rfl rfl
theorem rhead_none {A : Option Addr} {hd : List Nat} {part : Bool} {wd : Nat} (m c : Nat) (w : World) (hw : wd = 10 ∨ wd = 16) (hm : headNA part wd = m) (hn : hd.length = m) (hs : SrcB w A (bls (bitsOf hd))) (hp : bitAt hd 1 = part) (ha : amdHd hd part wd = none) :
    Calls Try.prog 175 #[.slice A (8 * m) c, .int .i64 wd] w fun e w' => e = .returned (.tuple #[.agg #[.bool false, .int .i64 0, .int .i64 0, .bool false, .bool false, .int .i64 0, .slice none 0 0], .bool false, .bool false]) ∧ Below w.heap.size w w' := by
  subst hm
  rcases hw with rfl | rfl <;> cases part <;> simp only [amdHd, if_true] at ha
  · simp at ha
  · simp at ha
  · by_cases h7 : bitAt hd 7 = true
    · exact rhead_16fn1 (bitAt hd 2) (bitAt hd 5) (bitAt hd 6) (val (seg hd 3 2)) (val (seg hd 8 16)) c w hn hs hp rfl rfl rfl h7 rfl rfl
    · by_cases h6 : bitAt hd 6 = true
      · exact rhead_16fn0l1 (bitAt hd 2) (bitAt hd 5) (val (seg hd 3 2)) (val (seg hd 8 16)) c w hn hs hp rfl rfl h6 (bit_not h7) rfl rfl
      · simp [h7, h6] at ha
  · by_cases h7 : bitAt hd 7 = true
    · exact rhead_16tn1 (bitAt hd 2) (bitAt hd 5) (bitAt hd 6) (val (seg hd 3 2)) (val (seg hd 8 16)) (val (seg hd 24 16)) c w hn hs hp rfl rfl rfl h7 rfl rfl rfl
    · simp [h7] at ha
set_option maxRecDepth 100000 in
set_option maxHeartbeats 1600000 in
theorem rr10_kind {A : Option Addr} (x0 : Int) (wd : Int) (n cap : Nat) (w : World) (hh : ∀ W, Calls Try.prog 45 #[.bool false, .int .i64 wd] W fun e w' => e = .returned (.int .i64 x0) ∧ W = w') (hx0 : (x0 == 0) = true) :
    Calls Try.prog 35 #[.slice A n cap, .int .i64 wd] w fun e w' => e = .returned (.tuple #[.agg #[.bool false, .int .i64 0, .int .i64 0, .bool false, .bool false, .int .i64 0, .slice none 0 0], .int .i64 9]) ∧ Below w.heap.size w w' := by
  have HH := Lib.hid hh
  clear hh
  go_enter Try.func35, Try.ntmps35
  go_wp2_with (go_at_call 45; refine (HH.out _).mono ?_; rintro e w1 ⟨rfl, rfl⟩)
  exact bodyPost_ret (v := .tuple #[.agg #[.bool false, .int .i64 0, .int .i64 0, .bool false, .bool false, .int .i64 0, .slice none 0 0], .int .i64 9]) (by simp [results, Try.results35, go_sem]) rfl ⟨rfl, by first | exact bl_alloc (Below.refl _ _) _ | exact (bl_alloc (Below.refl _ _) _).setCell (by simp) _⟩
set_option maxRecDepth 100000 in
set_option maxHeartbeats 1600000 in
theorem rr10_big {A : Option Addr} (x0 : Int) (wd : Int) (n cap : Nat) (w : World) (hh : ∀ W, Calls Try.prog 45 #[.bool false, .int .i64 wd] W fun e w' => e = .returned (.int .i64 x0) ∧ W = w') (hx0 : (x0 == 0) = false) (hn4 : (4000 : Int) < n) :
    Calls Try.prog 35 #[.slice A n cap, .int .i64 wd] w fun e w' => e = .returned (.tuple #[.agg #[.bool false, .int .i64 0, .int .i64 0, .bool false, .bool false, .int .i64 0, .slice none 0 0], .int .i64 2]) ∧ Below w.heap.size w w' := by
  have HH := Lib.hid hh
  clear hh
  go_enter Try.func35, Try.ntmps35
  go_wp2_with (go_at_call 45; refine (HH.out _).mono ?_; rintro e w1 ⟨rfl, rfl⟩)
  exact bodyPost_ret (v := .tuple #[.agg #[.bool false, .int .i64 0, .int .i64 0, .bool false, .bool false, .int .i64 0, .slice none 0 0], .int .i64 2]) (by simp [results, Try.results35, go_sem]) rfl ⟨rfl, by first | exact bl_alloc (Below.refl _ _) _ | exact (bl_alloc (Below.refl _ _) _).setCell (by simp) _⟩
set_option maxRecDepth 100000 in
set_option maxHeartbeats 1600000 in
theorem rr10_empty {A : Option Addr} (x0 : Int) (wd : Int) (n cap : Nat) (w : World) (hh : ∀ W, Calls Try.prog 45 #[.bool false, .int .i64 wd] W fun e w' => e = .returned (.int .i64 x0) ∧ W = w') (hx0 : (x0 == 0) = false) (hn0 : n = 0) :
    Calls Try.prog 35 #[.slice A n cap, .int .i64 wd] w fun e w' => e = .returned (.tuple #[.agg #[.bool false, .int .i64 0, .int .i64 0, .bool false, .bool false, .int .i64 0, .slice none 0 0], .int .i64 8]) ∧ Below w.heap.size w w' := by
  have HH := Lib.hid hh
  clear hh
  subst hn0
  go_enter Try.func35, Try.ntmps35
  go_wp2_with (go_at_call 45; refine (HH.out _).mono ?_; rintro e w1 ⟨rfl, rfl⟩)
  exact bodyPost_ret (v := .tuple #[.agg #[.bool false, .int .i64 0, .int .i64 0, .bool false, .bool false, .int .i64 0, .slice none 0 0], .int .i64 8]) (by simp [results, Try.results35, go_sem]) rfl ⟨rfl, by first | exact bl_alloc (Below.refl _ _) _ | exact (bl_alloc (Below.refl _ _) _).setCell (by simp) _⟩
set_option maxRecDepth 100000 in
set_option maxHeartbeats 1600000 in
theorem rr10_nopack {ad : Addr} {b : Nat} (x0 : Int) (wd : Int) (n cap : Nat) (w : World) (hh : ∀ W, Calls Try.prog 45 #[.bool false, .int .i64 wd] W fun e w' => e = .returned (.int .i64 x0) ∧ W = w') (hx0 : (x0 == 0) = false) (hn4 : ¬ (4000 : Int) < n) (hn0 : 0 < n) (hb2 : (b : Int) < 128) (hca : ∀ W, Below w.heap.size w W → W.cell? (ad.add 0) = some (.int .u8 b) ∧ W.cell? ad = some (.int .u8 b)) :
    Calls Try.prog 35 #[.slice (some ad) n cap, .int .i64 wd] w fun e w' => e = .returned (.tuple #[.agg #[.bool false, .int .i64 0, .int .i64 0, .bool false, .bool false, .int .i64 0, .slice none 0 0], .int .i64 4]) ∧ Below w.heap.size w w' := by
  have HH := Lib.hid hh
  clear hh
  have hnz : ((n : Int) == 0) = false := by simp; omega
  obtain ⟨ca, cb'⟩ := hca _ (bl_alloc (Below.refl w.heap.size w) (.cells #[.bool false, .int .i64 0, .int .i64 0, .bool false, .bool false, .int .i64 0, .slice none 0 0] 60))
  clear hca
  go_enter Try.func35, Try.ntmps35
  go_wp2_with (go_at_call 45; refine (HH.out _).mono ?_; rintro e w1 ⟨rfl, rfl⟩)
  exact bodyPost_ret (v := .tuple #[.agg #[.bool false, .int .i64 0, .int .i64 0, .bool false, .bool false, .int .i64 0, .slice none 0 0], .int .i64 4]) (by simp [results, Try.results35, go_sem]) rfl ⟨rfl, by first | exact bl_alloc (Below.refl _ _) _ | exact (bl_alloc (Below.refl _ _) _).setCell (by simp) _⟩
set_option maxRecDepth 100000 in
set_option maxHeartbeats 1600000 in
theorem rr10_short {ad : Addr} {b : Nat} {q : Bool} (x0 : Int) (wd : Int) (n cap : Nat) (w : World) (hh : ∀ W, Calls Try.prog 45 #[.bool false, .int .i64 wd] W fun e w' => e = .returned (.int .i64 x0) ∧ W = w') (hx0 : (x0 == 0) = false) (hn4 : ¬ (4000 : Int) < n) (hn0 : 0 < n) (hb2 : ¬ (b : Int) < 128) (hq : ((b : Int) / 64 % 2 == 1) = q) (m : Nat) (hmn : decide (n < m) = true) (hh2 : ∀ W, Calls Try.prog 45 #[.bool q, .int .i64 wd] W fun e w' => e = .returned (.int .i64 m) ∧ W = w') (hca : ∀ W, Below w.heap.size w W → W.cell? (ad.add 0) = some (.int .u8 b) ∧ W.cell? ad = some (.int .u8 b)) :
    Calls Try.prog 35 #[.slice (some ad) n cap, .int .i64 wd] w fun e w' => e = .returned (.tuple #[.agg #[.bool false, .int .i64 0, .int .i64 0, .bool false, .bool false, .int .i64 0, .slice none 0 0], .int .i64 8]) ∧ Below w.heap.size w w' := by
  have HH := Lib.hid hh
  clear hh
  have hnz : ((n : Int) == 0) = false := by simp; omega
  obtain ⟨ca, cb'⟩ := hca _ (bl_alloc (Below.refl w.heap.size w) (.cells #[.bool false, .int .i64 0, .int .i64 0, .bool false, .bool false, .int .i64 0, .slice none 0 0] 60))
  have HH2 := Lib.hid hh2
  clear hca hh2
  go_enter Try.func35, Try.ntmps35
  go_wp2_with (first
    | (go_at_call 45; (with_reducible refine (HH.out _).mono ?_); rintro e wx ⟨rfl, rfl⟩)
    | (go_at_call 45; (with_reducible refine (HH2.out _).mono ?_); rintro e wx ⟨rfl, rfl⟩))
  exact bodyPost_ret (v := .tuple #[.agg #[.bool false, .int .i64 0, .int .i64 0, .bool false, .bool false, .int .i64 0, .slice none 0 0], .int .i64 8]) (by simp [results, Try.results35, go_sem]) rfl ⟨rfl, by first | exact bl_alloc (Below.refl _ _) _ | exact (bl_alloc (Below.refl _ _) _).setCell (by simp) _⟩
theorem ints_own {B : Nat} {w : World} {u : Value} {l : List Nat} (h : w.ownsRow B 3 1 u l.length (insN l)) : ∃ A c, u = .slice A l.length c ∧ Src w A (insN l) := by
  rcases h.2 with ⟨rfl, h0⟩ | ⟨g, cap, cur, rfl, _⟩
  · exact ⟨none, 0, by rw [h0], fun h1 => absurd h1 (by simp [insN, h0])⟩
  · exact ⟨_, cap, rfl, fun h0 => ⟨_, rfl, h.cells (g := g) rfl⟩⟩
theorem rr10_yes {A : Option Addr} {bs : List Nat} (wd n cap : Nat) (w : World) (hw : wd = 10 ∨ wd = 16) (hn : bs.length = n) (hm8 : n ≤ 8000) (hc : n ≤ cap) (hcm : cap ≤ 9223372036854775807) (hs : Src w A (bts bs)) (hb : ∀ b ∈ bs, b < 256) :
    Calls Try.prog 35 #[.slice A n cap, .int .i64 wd] w (RarAns w (amdRd bs wd)) := by
  have hx0 : (headA false (wd : Int) == 0) = false := by rcases hw with rfl | rfl <;> rfl
  have hh := fun W => rahead_any false (wd : Int) W
  by_cases h4 : 4000 < n
  · refine (rr10_big _ wd n cap w hh hx0 (by omega)).mono ?_
    rintro e w' ⟨rfl, hbl⟩
    refine rar_bad ?_ (by decide) hbl
    have e : headR bs wd = (0, 2) := by unfold headR; rw [if_pos hw, if_pos (by omega)]
    unfold amdRd
    rw [e]
    rfl
  · by_cases hz : n = 0
    · refine (rr10_empty _ wd n cap w hh hx0 hz).mono ?_
      rintro e w' ⟨rfl, hbl⟩
      refine rar_bad ?_ (by decide) hbl
      have e : headR bs wd = (0, 8) := by unfold headR; rw [if_pos hw, if_neg (by omega), if_pos (by omega)]
      unfold amdRd
      rw [e]
      rfl
    · obtain ⟨ad, rfl, hc0⟩ := hs (by rw [length_bts]; omega)
      obtain ⟨b, hb0⟩ : ∃ b, bs[0]? = some b := ⟨bs[0]'(by omega), List.getElem?_eq_getElem (by omega)⟩
      have hb1 : b < 256 := hb b (List.mem_of_getElem? hb0)
      have hca : ∀ W, Below w.heap.size w W → W.cell? (ad.add 0) = some (.int .u8 b) ∧ W.cell? ad = some (.int .u8 b) := fun W hW => by
        have h1 := cell_below hW (hc0 0 _ (bts_at hb0))
        refine ⟨h1, ?_⟩
        rw [addr_zero] at h1
        exact h1
      obtain ⟨g0, g1⟩ := byte_one hb0 hb1
      have hq : ((b : Int) / 64 % 2 == 1) = bitAt bs 1 := by rw [g1]; exact div_bit b 64
      by_cases h128 : b < 128
      · refine (rr10_nopack (b := b) _ wd n cap w hh hx0 (by omega) (by omega) (by omega) hca).mono ?_
        rintro e w' ⟨rfl, hbl⟩
        refine rar_bad ?_ (by decide) hbl
        have h9 : (b : Int) / 128 = 0 := by omega
        have e0 : bitAt bs 0 = false := by rw [g0, h9]; rfl
        have e : headR bs wd = (0, 4) := by unfold headR; rw [if_pos hw, if_neg (by omega), if_neg (by omega), if_pos e0]
        unfold amdRd
        rw [e]
        rfl
      · have h9 : (b : Int) / 128 = 1 := by omega
        have e0 : bitAt bs 0 = true := by rw [g0, h9]; rfl
        have hh2 : ∀ W, Calls Try.prog 45 #[.bool (bitAt bs 1), .int .i64 wd] W fun e w' => e = .returned (.int .i64 (headNA (bitAt bs 1) wd)) ∧ W = w' := fun W => by
          have h := rahead_any (bitAt bs 1) (wd : Int) W
          rw [headA_nat _ hw] at h
          exact h
        by_cases hsh : n < headNA (bitAt bs 1) wd
        · refine (rr10_short (b := b) _ wd n cap w hh hx0 (by omega) (by omega) (by omega) hq _ (decide_eq_true hsh) hh2 hca).mono ?_
          rintro e w' ⟨rfl, hbl⟩
          refine rar_bad ?_ (by decide) hbl
          have e : headR bs wd = (0, 8) := by unfold headR; rw [if_pos hw, if_neg (by omega), if_neg (by omega), e0, if_neg (by decide), if_pos (by omega)]
          unfold amdRd
          rw [e]
          rfl
        · have eR : headR bs wd = (headNA (bitAt bs 1) wd, 0) := by unfold headR; rw [if_pos hw, if_neg (by omega), if_neg (by omega), e0, if_neg (by decide), if_neg (by omega)]
          have hR : amdRd bs wd = amdRd2 (amdHd (bs.take (headNA (bitAt bs 1) wd)) (bitAt bs 1) wd) (bs.drop (headNA (bitAt bs 1) wd)) (lwNA wd) := by
            unfold amdRd
            rw [eR, if_pos rfl]
          have hbd := headNA_bd (bitAt bs 1) wd
          have hpart : bitAt (bs.take (headNA (bitAt bs 1) wd)) 1 = bitAt bs 1 := bitAt_take (by omega) (by omega)
          have hlen : (bs.take (headNA (bitAt bs 1) wd)).length = headNA (bitAt bs 1) wd := by rw [List.length_take]; omega
          have hsm : ∀ x ∈ bs.take (headNA (bitAt bs 1) wd), x < 256 := fun x h => hb x (List.mem_of_mem_take h)
          obtain ⟨hlw, hlw2, _⟩ := lwA_cast hw
          have hl : ∀ W, Calls Try.prog 177 #[.int .i64 wd] W fun e w' => e = .returned (.tuple #[.int .i64 (lwNA wd), .int .i64 (owA wd)]) ∧ W = w' := fun W => by
            have h9 := rwidths_any wd W
            rw [hlw] at h9
            exact h9
          have hdl : (bs.drop (headNA (bitAt bs 1) wd)).length = n - headNA (bitAt bs 1) wd := by rw [List.length_drop, hn]
          obtain ⟨Ab, cb, hcut, hcb, hcb2, hsb⟩ := src_cut (headNA (bitAt bs 1) wd) hn (by omega) hc hs
          have hdb : ∀ x ∈ bs.drop (headNA (bitAt bs 1) wd), x < 256 := fun x h => hb x (List.mem_of_mem_drop h)
          rw [hR]
          generalize hmm : headNA (bitAt bs 1) wd = m at *
          have hbi : ∀ W, Below w.heap.size w W → Calls Try.prog 176 #[.slice (some ad) m cap] W fun e w' => ∃ A7 c7, e = .returned (.slice A7 (8 * m) c7) ∧ SrcB w' A7 (bls (bitsOf (bs.take m))) ∧ Below W.heap.size W w' := fun W hW => by
            have h9 := refbits_any (bs := bs.take m) cap (src_b (src_take m (src_later hs hW))) (by omega) hsm
            rw [hlen] at h9
            refine h9.mono ?_
            rintro e w' ⟨x, rfl, ho, hbl⟩
            obtain ⟨A7, c7, hx⟩ := ho.form
            rw [length_bitsOf, hlen] at hx
            subst hx
            exact ⟨A7, c7, rfl, ho.src, hbl⟩
          cases ha : amdHd (bs.take m) (bitAt bs 1) wd with
          | none =>
            refine (rr10_none (bitAt bs 1) b wd m n cap _ w hx0 (by omega) (by omega) (by omega) hc (by omega) hq hca hh hh2 hbi (fun W A7 c7 h7 => rhead_none m c7 W hw hmm hlen h7 hpart ha)).mono ?_
            rintro e w' ⟨rfl, hbl⟩
            exact rar_bad rfl (by decide) hbl
          | some hq' =>
            obtain ⟨h, more⟩ := hq'
            have hr := fun (W : World) (A7 : Option Addr) (c7 : Nat) (h7 : SrcB W A7 (bls (bitsOf (bs.take m)))) => rhead_some (h := h) (more := more) m c7 W hw hmm hlen h7 hpart ha
            have hgood : ∀ e w', (∃ A' c' L, (fldR (bs.drop m) more (lwNA wd)).2 = texts L ∧ e = .returned (.tuple #[.agg #[.bool h.poll, .int .i64 h.fi, .int .i64 h.sn, .bool h.part, .bool h.last, .int .i64 h.off, .slice A' L.length c'], .int .i64 0]) ∧ RSrc w' A' L ∧ L.length ≤ c' ∧ c' ≤ 9223372036854775807 ∧ Below w.heap.size w w') → (fldR (bs.drop m) more (lwNA wd)).1 = 0 → RarAns w (amdRd2 (some (h, more)) (bs.drop m) (lwNA wd)) e w' := by
              rintro e w' ⟨A', c', L, ht, rfl, k1, k2, k3, k4⟩ hz
              refine rar_ok ?_ k1 k2 k3 k4
              unfold amdRd2
              simp only [hz, if_true, ht]
            have hbad : ∀ er e w', (e = .returned (.tuple #[.agg #[.bool false, .int .i64 0, .int .i64 0, .bool false, .bool false, .int .i64 0, .slice none 0 0], .int .i64 er]) ∧ Below w.heap.size w w') → (fldR (bs.drop m) more (lwNA wd)).1 = er → er ≠ 0 → RarAns w (amdRd2 (some (h, more)) (bs.drop m) (lwNA wd)) e w' := by
              rintro er e w' ⟨rfl, k4⟩ hz h0
              refine rar_bad ?_ h0 k4
              unfold amdRd2
              simp only [hz, h0, if_false]
            cases more with
            | false =>
              have hcu := fun W (hW : Below w.heap.size w W) => refcut_no (lwNA wd) (n - m) cb (lwNA wd) W hdl (by omega) hcb (by omega) (hsb W hW) hdb
              by_cases hz2 : (fldR (bs.drop m) false (lwNA wd)).1 = 0
              · refine (rr10_no_good (t := (fldR (bs.drop m) false (lwNA wd)).2) h.poll h.part h.last h.fi h.sn h.off (bitAt bs 1) b wd m n cap cb (lwNA wd) (owA wd) _ w hx0 (by omega) (by omega) (by omega) hc hcut (by omega) hq hca hh hh2 hbi hr (fun W hW => (hcu W hW).mono ?_) hsb hl).mono fun e w' h9 => hgood e w' h9 hz2
                rintro e w' ⟨⟨_, A', c', L, h8, rfl, h9, h10, h11⟩ | h7, hbl⟩
                · exact ⟨A', c', L, h8, rfl, h9, h10, h11, hbl⟩
                · exact absurd hz2 h7.1
              · refine (rr10_no_fail h.poll h.part h.last h.fi h.sn h.off (fldR (bs.drop m) false (lwNA wd)).1 (bitAt bs 1) b wd m n cap cb (lwNA wd) (owA wd) _ w hx0 (by omega) (by omega) (by omega) hc hcut (by omega) hq hca hh hh2 hbi hr (fun W hW => (hcu W hW).mono ?_) hz2 hl).mono fun e w' h9 => hbad _ e w' h9 rfl hz2
                rintro e w' ⟨⟨h7, _⟩ | ⟨_, rfl⟩, hbl⟩
                · exact absurd h7 hz2
                · exact ⟨rfl, hbl⟩
            | true =>
              have hrd : ∀ W, Below w.heap.size w W → Calls Try.prog 178 #[.slice (some Ab) (n - m) cb, .int .i64 (lwNA wd)] W (RrAns W (bs.drop m) (lwNA wd)) := fun W hW => by
                rcases hlw2 with h9 | h9 <;> rw [h9]
                · exact refread_11 (n - m) cb W hdl (by omega) (hsb W hW) hdb
                · exact refread_15 (n - m) cb W hdl (by omega) (hsb W hW) hdb
              by_cases hz3 : (readF (bs.drop m) (lwNA wd)).2.2 = 0
              · have hrd2 : ∀ W, Below w.heap.size w W → Calls Try.prog 178 #[.slice (some Ab) (n - m) cb, .int .i64 (lwNA wd)] W fun e w' => ∃ A8 c8 q, e = .returned (.tuple #[.slice A8 (readF (bs.drop m) (lwNA wd)).1.length c8, .int .i64 q, .int .i64 0]) ∧ Src w' A8 (insN (readF (bs.drop m) (lwNA wd)).1) ∧ Below W.heap.size W w' := fun W hW => (hrd W hW).mono fun e w' h9 => by
                  obtain ⟨⟨_, u, rfl, ho⟩ | h9, hbl⟩ := h9
                  · obtain ⟨A8, c8, rfl, hs8⟩ := ints_own ho
                    exact ⟨A8, c8, _, rfl, hs8, hbl⟩
                  · exact absurd hz3 h9.1
                have hln : (readF (bs.drop m) (lwNA wd)).1.length ≤ 1000 := by
                  obtain ⟨ls, k, hrf⟩ : ∃ ls k, readF (bs.drop m) (lwNA wd) = (ls, k, 0) := ⟨_, _, by rw [← hz3]⟩
                  have h23 := (read_write hdb hrf).2.1
                  rw [hrf]
                  show ls.length ≤ 1000
                  omega
                by_cases hany : (readF (bs.drop m) (lwNA wd)).1.any (fun x => decide (2047 < x)) = true
                · have hf : (fldR (bs.drop m) true (lwNA wd)).1 = 3 := by unfold fldR; rw [if_pos rfl, if_pos hz3, if_pos hany]
                  refine (rr10_long h.poll h.part h.last h.fi h.sn h.off (bitAt bs 1) b wd m n cap cb (lwNA wd) (owA wd) _ w hx0 (by omega) (by omega) (by omega) hc hcut (by omega) hq hca hh hh2 hbi hr hrd2 ?_ hln hl).mono fun e w' h9 => hbad 3 e w' h9 hf (by decide)
                  rw [List.any_eq_true] at hany
                  obtain ⟨x, hx, h9⟩ := hany
                  exact ⟨x, hx, of_decide_eq_true h9⟩
                · have hls : ∀ x ∈ (readF (bs.drop m) (lwNA wd)).1, x ≤ 2047 := fun x hx => by
                    rcases Nat.lt_or_ge 2047 x with h9 | h9
                    · exact absurd (List.any_eq_true.2 ⟨x, hx, decide_eq_true h9⟩) hany
                    · exact h9
                  have hcu := fun W (hW : Below w.heap.size w W) => refcut_yes (lwNA wd) (n - m) cb (lwNA wd) W hlw2 rfl hdl (by omega) hcb (by omega) (hsb W hW) hdb (bit_not hany)
                  by_cases hz2 : (fldR (bs.drop m) true (lwNA wd)).1 = 0
                  · refine (rr10_yes_good (t := (fldR (bs.drop m) true (lwNA wd)).2) h.poll h.part h.last h.fi h.sn h.off (bitAt bs 1) b wd m n cap cb (lwNA wd) (owA wd) _ w hx0 (by omega) (by omega) (by omega) hc hcut (by omega) hq hca hh hh2 hbi hr hrd2 (fun W hW => (hcu W hW).mono ?_) hsb hls hln hl).mono fun e w' h9 => hgood e w' h9 hz2
                    rintro e w' ⟨⟨_, A', c', L, h8, rfl, h9, h10, h11⟩ | h7, hbl⟩
                    · exact ⟨A', c', L, h8, rfl, h9, h10, h11, hbl⟩
                    · exact absurd hz2 h7.1
                  · refine (rr10_yes_fail h.poll h.part h.last h.fi h.sn h.off (fldR (bs.drop m) true (lwNA wd)).1 (bitAt bs 1) b wd m n cap cb (lwNA wd) (owA wd) _ w hx0 (by omega) (by omega) (by omega) hc hcut (by omega) hq hca hh hh2 hbi hr hrd2 (fun W hW => (hcu W hW).mono ?_) hz2 hls hln hl).mono fun e w' h9 => hbad _ e w' h9 rfl hz2
                    rintro e w' ⟨⟨h7, _⟩ | ⟨_, rfl⟩, hbl⟩
                    · exact absurd h7 hz2
                    · exact ⟨rfl, hbl⟩
              · have hf : (fldR (bs.drop m) true (lwNA wd)).1 = (readF (bs.drop m) (lwNA wd)).2.2 := by unfold fldR; rw [if_pos rfl, if_neg hz3]
                refine (rr10_err h.poll h.part h.last h.fi h.sn h.off (readF (bs.drop m) (lwNA wd)).2.2 (bitAt bs 1) b wd m n cap cb (lwNA wd) (owA wd) _ w hx0 (by omega) (by omega) (by omega) hc hcut (by omega) hq hca hh hh2 hbi hr (fun W hW => (hrd W hW).mono ?_) hz3 hl).mono fun e w' h9 => hbad _ e w' h9 hf hz3
                rintro e w' ⟨⟨h7, _⟩ | ⟨_, rfl⟩, hbl⟩
                · exact absurd h7 hz3
                · exact ⟨rfl, hbl⟩
end Go.Proofs.Ytgdpjaojlhdhdaa
namespace Go.Proofs.Ytgdpjaojlhdhdaa
open Go.RowKit


theorem fieldsF_bad {ls : List Nat} {head wd : Int} (h : okTo ls ls.length = false ∨ 4000 < head + sizeF ((ls.length : Int) - 1) wd + ls.sum) : fieldsF ls head wd = 0 := by
  unfold fieldsF
  rw [if_neg (fun h2 => by
    rcases h with h | h
    · rw [h] at h2; exact absurd h2.2.2.1 (by decide)
    · omega)]
theorem fieldsF_good {ls : List Nat} {head wd : Int} (h1 : 1 ≤ ls.length) (h2 : ls.length ≤ 24) (h3 : okTo ls ls.length = true) (h4 : head + sizeF ((ls.length : Int) - 1) wd + ls.sum ≤ 4000) : fieldsF ls head wd = head + sizeF ((ls.length : Int) - 1) wd + ls.sum := by
  unfold fieldsF
  rw [if_pos ⟨h1, h2, h3, h4⟩]
set_option maxRecDepth 100000 in
set_option maxHeartbeats 3200000 in
theorem rfields_any {A : Option Addr} {L : List RowB} (n cap : Nat) (head wd : Int) (w : World) (hL : L.length = n) (hn : n ≤ 40) (hsum : (lens L).sum ≤ 9000) (h0 : 0 ≤ head) (h5 : head ≤ 5) (hs : RSrc w A L) :
    Calls Try.prog 181 #[.slice A n cap, .int .i64 head, .int .i64 wd] w fun e w' => e = .returned (.int .i64 (fieldsF (lens L) head wd)) ∧ w = w' := by
  have hll : (lens L).length = n := by rw [length_lens, hL]
  rcases Nat.eq_zero_or_pos n with hn0 | hn0
  · have HF := Lib.hid (show fieldsF (lens L) head wd = 0 by unfold fieldsF; rw [if_neg (by omega)])
    subst hn0
    clear hs hsum hL hll
    go_enter Try.func181, Try.ntmps181
    go_wp2
    go_ret
    exact ⟨by rw [HF.out]; rfl, rfl⟩
  · have hn1 : ¬ (n : Int) < 1 := by omega
    rcases Nat.lt_or_ge 24 n with h24 | h24
    · have HF := Lib.hid (show fieldsF (lens L) head wd = 0 by unfold fieldsF; rw [if_neg (by omega)])
      have h24' : (24 : Int) < n := by omega
      clear hs hsum hL hll
      go_enter Try.func181, Try.ntmps181
      go_wp2
      go_ret
      exact ⟨by rw [HF.out]; rfl, rfl⟩
    · have h24' : ¬ (24 : Int) < n := by omega
      have HS := Lib.hid hs
      have HL := Lib.hid hL
      have HLL := Lib.hid hll
      have hz := sizeF_nonneg ((n : Int) - 1) wd
      have HZ := Lib.hid (fun W => refsize_any ((n : Int) - 1) wd W)
      have HSUM := Lib.hid hsum
      have HFB := Lib.hid (fun (h : okTo (lens L) n = false ∨ 4000 < head + sizeF ((n : Int) - 1) wd + (lens L).sum) => (show fieldsF (lens L) head wd = 0 from fieldsF_bad (by rw [hll]; exact h)))
      have HFG := Lib.hid (fun (h3 : okTo (lens L) n = true) (h4 : head + sizeF ((n : Int) - 1) wd + (lens L).sum ≤ 4000) => (show fieldsF (lens L) head wd = head + sizeF ((n : Int) - 1) wd + (lens L).sum from by
        have h9 := fieldsF_good (ls := lens L) (head := head) (wd := wd) (by omega) (by omega) (by rw [hll]; exact h3) (by rw [hll]; exact h4)
        rw [hll] at h9
        exact h9))
      have hs0 : n = 1 → sizeF ((n : Int) - 1) wd = 0 := fun e => by
        subst e
        unfold sizeF
        simp
      generalize sizeF ((n : Int) - 1) wd = z at *
      obtain ⟨hz0, hz1⟩ := hz
      have HALL := Lib.hid (show sumTo (lens L) n = (lens L).sum by rw [← hll]; exact sumTo_all _)
      clear hs hL hll hsum
      have body : ∀ (q0 : Int), q0 = head + z → 0 ≤ q0 → q0 ≤ 4000 → True := fun _ _ _ _ => trivial
      clear body
      by_cases hn2 : n = 1
      · have hz2 := hs0 hn2
        have hn2' : ¬ (1 : Int) < n := by omega
        have HZ0 := Lib.hid hz2
        clear hs0 hn2 hz2 HZ
        go_enter Try.func181, Try.ntmps181
        go_wp2
        go_loopw [8, 9] (fun v iv wr => ∃ (k : Nat) (q : Int), k ≤ n ∧ iv = .int .i64 k ∧ v = .int .i64 q ∧ 0 ≤ q ∧ q ≤ 4000 ∧ Hid (q = head + z + sumTo (lens L) k ∧ okTo (lens L) k = true) ∧ w = wr) (fun _ iv _ => n - (intOf iv).toNat)
        case atStart => exact ⟨0, head, by omega, rfl, rfl, h0, by omega, Lib.hid ⟨by rw [sumTo_zero, HZ0.out]; omega, okTo_zero _⟩, rfl⟩
        case round =>
          obtain ⟨k, q, hk, rfl, rfl, hq0, hq1, HK, rfl⟩ := hrel
          by_cases hlt : k < n
          · obtain ⟨ad, rfl, hc⟩ := HS.out (by rw [HL.out]; omega)
            obtain ⟨r, hr⟩ : ∃ r, L[k]? = some r := ⟨_, List.getElem?_eq_getElem (by rw [HL.out]; exact hlt)⟩
            have hcell : w.cell? (ad.add k) = some (.slice r.A r.bs.length r.cap) := (hc k r hr).1
            have HSU := Lib.hid (sumTo_succ (lens_at hr))
            have HOK := Lib.hid (okTo_at (lens_at hr) HK.out.2)
            rw [HLL.out] at HOK
            have HLE := Lib.hid (sumTo_le (lens L) (k + 1))
            have hlm : r.bs.length ≤ 9000 := by have := HLE.out; have := HSU.out; have := HSUM.out; omega
            clear hc hr
            generalize r.bs.length = len at *
            rcases Nat.eq_zero_or_pos len with hl0 | hl0
            · have HB := Lib.hid (HFB.out (.inl (okTo_later (k := k + 1) (by rw [HOK.out]; unfold okAt; rw [decide_eq_false (by omega)]; rfl) (by omega))))
              subst hl0
              go_wp2
              go_ret
              exact ⟨by rw [HB.out]; rfl, rfl⟩
            · have hl1 : ((len : Int) == 0) = false := by simp; omega
              by_cases hlast : k + 1 < n
              · have hlast' : (k : Int) + 1 < n := by omega
                by_cases h2047 : 2047 < len
                · have h2047' : (2047 : Int) < len := by omega
                  have HB := Lib.hid (HFB.out (.inl (okTo_later (k := k + 1) (by rw [HOK.out]; unfold okAt; rw [if_neg (by omega), decide_eq_false (show ¬ len ≤ 2047 by omega)]; simp) (by omega))))
                  go_wp2
                  go_ret
                  exact ⟨by rw [HB.out]; rfl, rfl⟩
                · have h2047' : ¬ (2047 : Int) < len := by omega
                  by_cases h4 : 4000 < q + len
                  · have HB := Lib.hid (HFB.out (.inr (by have := HLE.out; have := HSU.out; have := HK.out.1; omega)))
                    go_wp2
                    go_ret
                    exact ⟨by rw [HB.out]; rfl, rfl⟩
                  · have HOK2 := Lib.hid (show okTo (lens L) (k + 1) = true by rw [HOK.out]; unfold okAt; rw [if_neg (by omega), decide_eq_true (show 1 ≤ len by omega), decide_eq_true (show len ≤ 2047 by omega)]; rfl)
                    go_wp2
                    go_roundw
                    case rel => exact ⟨k + 1, q + len, by omega, by go_num, rfl, by omega, by omega, Lib.hid ⟨by rw [HSU.out, HK.out.1]; omega, HOK2.out⟩, trivial⟩
                    case measure => simp [intOf]; omega
              · have hlast' : ¬ (k : Int) + 1 < n := by omega
                by_cases h4 : 4000 < q + len
                · have HB := Lib.hid (HFB.out (.inr (by have := HLE.out; have := HSU.out; have := HK.out.1; omega)))
                  go_wp2
                  go_ret
                  exact ⟨by rw [HB.out]; rfl, rfl⟩
                · have HOK2 := Lib.hid (show okTo (lens L) (k + 1) = true by rw [HOK.out]; unfold okAt; rw [if_pos (by omega), decide_eq_true (show 1 ≤ len by omega), decide_eq_true (show len ≤ 4000 by omega)]; rfl)
                  go_wp2
                  go_roundw
                  case rel => exact ⟨k + 1, q + len, by omega, by go_num, rfl, by omega, by omega, Lib.hid ⟨by rw [HSU.out, HK.out.1]; omega, HOK2.out⟩, trivial⟩
                  case measure => simp [intOf]; omega
          · have hkn : k = n := by omega
            have h9 := HK.out
            rw [hkn, HALL.out] at h9
            have HG := Lib.hid (HFG.out h9.2 (by omega))
            have HQ := Lib.hid h9.1
            clear hkn h9
            go_wp2
            go_ret
            exact ⟨ret_int (by rw [HG.out, HQ.out]), rfl⟩

      · have hn2' : (1 : Int) < n := by omega
        clear hs0
        go_enter Try.func181, Try.ntmps181
        go_wp2_with (go_at_call 247; refine (HZ.out _).mono ?_; rintro e w1 ⟨rfl, rfl⟩)
        go_loopw [8, 9] (fun v iv wr => ∃ (k : Nat) (q : Int), k ≤ n ∧ iv = .int .i64 k ∧ v = .int .i64 q ∧ 0 ≤ q ∧ q ≤ 4000 ∧ Hid (q = head + z + sumTo (lens L) k ∧ okTo (lens L) k = true) ∧ w = wr) (fun _ iv _ => n - (intOf iv).toNat)
        case atStart => exact ⟨0, head + z, by omega, rfl, rfl, by omega, by omega, Lib.hid ⟨by rw [sumTo_zero]; omega, okTo_zero _⟩, rfl⟩
        case round =>
          obtain ⟨k, q, hk, rfl, rfl, hq0, hq1, HK, rfl⟩ := hrel
          by_cases hlt : k < n
          · obtain ⟨ad, rfl, hc⟩ := HS.out (by rw [HL.out]; omega)
            obtain ⟨r, hr⟩ : ∃ r, L[k]? = some r := ⟨_, List.getElem?_eq_getElem (by rw [HL.out]; exact hlt)⟩
            have hcell : w.cell? (ad.add k) = some (.slice r.A r.bs.length r.cap) := (hc k r hr).1
            have HSU := Lib.hid (sumTo_succ (lens_at hr))
            have HOK := Lib.hid (okTo_at (lens_at hr) HK.out.2)
            rw [HLL.out] at HOK
            have HLE := Lib.hid (sumTo_le (lens L) (k + 1))
            have hlm : r.bs.length ≤ 9000 := by have := HLE.out; have := HSU.out; have := HSUM.out; omega
            clear hc hr
            generalize r.bs.length = len at *
            rcases Nat.eq_zero_or_pos len with hl0 | hl0
            · have HB := Lib.hid (HFB.out (.inl (okTo_later (k := k + 1) (by rw [HOK.out]; unfold okAt; rw [decide_eq_false (by omega)]; rfl) (by omega))))
              subst hl0
              go_wp2
              go_ret
              exact ⟨by rw [HB.out]; rfl, rfl⟩
            · have hl1 : ((len : Int) == 0) = false := by simp; omega
              by_cases hlast : k + 1 < n
              · have hlast' : (k : Int) + 1 < n := by omega
                by_cases h2047 : 2047 < len
                · have h2047' : (2047 : Int) < len := by omega
                  have HB := Lib.hid (HFB.out (.inl (okTo_later (k := k + 1) (by rw [HOK.out]; unfold okAt; rw [if_neg (by omega), decide_eq_false (show ¬ len ≤ 2047 by omega)]; simp) (by omega))))
                  go_wp2
                  go_ret
                  exact ⟨by rw [HB.out]; rfl, rfl⟩
                · have h2047' : ¬ (2047 : Int) < len := by omega
                  by_cases h4 : 4000 < q + len
                  · have HB := Lib.hid (HFB.out (.inr (by have := HLE.out; have := HSU.out; have := HK.out.1; omega)))
                    go_wp2
                    go_ret
                    exact ⟨by rw [HB.out]; rfl, rfl⟩
                  · have HOK2 := Lib.hid (show okTo (lens L) (k + 1) = true by rw [HOK.out]; unfold okAt; rw [if_neg (by omega), decide_eq_true (show 1 ≤ len by omega), decide_eq_true (show len ≤ 2047 by omega)]; rfl)
                    go_wp2
                    go_roundw
                    case rel => exact ⟨k + 1, q + len, by omega, by go_num, rfl, by omega, by omega, Lib.hid ⟨by rw [HSU.out, HK.out.1]; omega, HOK2.out⟩, trivial⟩
                    case measure => simp [intOf]; omega
              · have hlast' : ¬ (k : Int) + 1 < n := by omega
                by_cases h4 : 4000 < q + len
                · have HB := Lib.hid (HFB.out (.inr (by have := HLE.out; have := HSU.out; have := HK.out.1; omega)))
                  go_wp2
                  go_ret
                  exact ⟨by rw [HB.out]; rfl, rfl⟩
                · have HOK2 := Lib.hid (show okTo (lens L) (k + 1) = true by rw [HOK.out]; unfold okAt; rw [if_pos (by omega), decide_eq_true (show 1 ≤ len by omega), decide_eq_true (show len ≤ 4000 by omega)]; rfl)
                  go_wp2
                  go_roundw
                  case rel => exact ⟨k + 1, q + len, by omega, by go_num, rfl, by omega, by omega, Lib.hid ⟨by rw [HSU.out, HK.out.1]; omega, HOK2.out⟩, trivial⟩
                  case measure => simp [intOf]; omega
          · have hkn : k = n := by omega
            have h9 := HK.out
            rw [hkn, HALL.out] at h9
            have HG := Lib.hid (HFG.out h9.2 (by omega))
            have HQ := Lib.hid h9.1
            clear hkn h9
            go_wp2
            go_ret
            exact ⟨ret_int (by rw [HG.out, HQ.out]), rfl⟩

end Go.Proofs.Ytgdpjaojlhdhdaa
namespace Go.Proofs.Ytgdpjaojlhdhdaa
open Go.RowKit

set_option maxRecDepth 100000 in
set_option maxHeartbeats 6400000 in
theorem rs_kind {A : Option Addr} (poll part last : Bool) (fi sn off wd hf hp lw ow top z : Int) (ok : Bool) (n cap : Nat) (w : World) (hz0 : (hf == 0) = true)
    (hW : ∀ W, Calls Try.prog 177 #[.int .i64 wd] W fun e w' => e = .returned (.tuple #[.int .i64 lw, .int .i64 ow]) ∧ W = w') (hH : ∀ W, Calls Try.prog 45 #[.bool false, .int .i64 wd] W fun e w' => e = .returned (.int .i64 hf) ∧ W = w') (hP : ∀ W, Calls Try.prog 45 #[.bool part, .int .i64 wd] W fun e w' => e = .returned (.int .i64 hp) ∧ W = w')
    (hI : ∀ W, Calls Try.prog 180 #[.int .i64 wd, .int .i64 sn] W fun e w' => e = .returned (.bool ok) ∧ W = w') (hS : ∀ W, Calls Try.prog 59 #[.int .i64 ow] W fun e w' => e = .returned (.int .i64 top) ∧ W = w')
    (hFI : ∀ W, Below w.heap.size w W → Calls Try.prog 181 #[.slice A n cap, .int .i64 hp, .int .i64 lw] W fun e w' => e = .returned (.int .i64 z) ∧ W = w') :
    Calls Try.prog 39 #[.agg #[.bool poll, .int .i64 fi, .int .i64 sn, .bool part, .bool last, .int .i64 off, .slice A n cap], .int .i64 wd] w fun e w' => e = .returned (.int .i64 0) ∧ Below w.heap.size w w' := by
  have HW := Lib.hid hW
  have HSH := Lib.hid hH
  have HSP := Lib.hid hP
  have HI := Lib.hid hI
  have HSZ := Lib.hid hS
  have HFI := Lib.hid hFI
  have ROW0 := Lib.hid (Row.made w 60 #[.bool poll, .int .i64 fi, .int .i64 sn, .bool part, .bool last, .int .i64 off, .slice A n cap])
  have HB0 := Lib.hid (bl_alloc (Below.refl w.heap.size w) (.cells #[.bool poll, .int .i64 fi, .int .i64 sn, .bool part, .bool last, .int .i64 off, .slice A n cap] 60))
  try subst hok
  clear hW hH hP hI hS hFI
  go_enter Try.func39, Try.ntmps39
  go_wp2_with (go_at_call 177; refine (HW.out _).mono ?_; rintro e w1 ⟨rfl, rfl⟩)
  go_quiet ((first | (go_at_call 45; exact Calls.quiet_of_same ((HSH.out _).mono fun e w' h => ⟨h.1, h.2.symm⟩)) | (go_at_call 180; exact Calls.quiet_of_same ((HI.out _).mono fun e w' h => ⟨h.1, h.2.symm⟩)) | (go_at_call 59; exact Calls.quiet_of_same ((HSZ.out _).mono fun e w' h => ⟨h.1, h.2.symm⟩))))
  go_wp2
  go_ret
  exact ⟨rfl, below_drewN HB0.out _⟩
end Go.Proofs.Ytgdpjaojlhdhdaa
namespace Go.Proofs.Ytgdpjaojlhdhdaa
open Go.RowKit

set_option maxRecDepth 100000 in
set_option maxHeartbeats 6400000 in
theorem rs_fi0 {A : Option Addr} (poll part last : Bool) (fi sn off wd hf hp lw ow top z : Int) (ok : Bool) (n cap : Nat) (w : World) (hz0 : (hf == 0) = false) (h1 : fi < 0)
    (hW : ∀ W, Calls Try.prog 177 #[.int .i64 wd] W fun e w' => e = .returned (.tuple #[.int .i64 lw, .int .i64 ow]) ∧ W = w') (hH : ∀ W, Calls Try.prog 45 #[.bool false, .int .i64 wd] W fun e w' => e = .returned (.int .i64 hf) ∧ W = w') (hP : ∀ W, Calls Try.prog 45 #[.bool part, .int .i64 wd] W fun e w' => e = .returned (.int .i64 hp) ∧ W = w')
    (hI : ∀ W, Calls Try.prog 180 #[.int .i64 wd, .int .i64 sn] W fun e w' => e = .returned (.bool ok) ∧ W = w') (hS : ∀ W, Calls Try.prog 59 #[.int .i64 ow] W fun e w' => e = .returned (.int .i64 top) ∧ W = w')
    (hFI : ∀ W, Below w.heap.size w W → Calls Try.prog 181 #[.slice A n cap, .int .i64 hp, .int .i64 lw] W fun e w' => e = .returned (.int .i64 z) ∧ W = w') :
    Calls Try.prog 39 #[.agg #[.bool poll, .int .i64 fi, .int .i64 sn, .bool part, .bool last, .int .i64 off, .slice A n cap], .int .i64 wd] w fun e w' => e = .returned (.int .i64 0) ∧ Below w.heap.size w w' := by
  have HW := Lib.hid hW
  have HSH := Lib.hid hH
  have HSP := Lib.hid hP
  have HI := Lib.hid hI
  have HSZ := Lib.hid hS
  have HFI := Lib.hid hFI
  have ROW0 := Lib.hid (Row.made w 60 #[.bool poll, .int .i64 fi, .int .i64 sn, .bool part, .bool last, .int .i64 off, .slice A n cap])
  have HB0 := Lib.hid (bl_alloc (Below.refl w.heap.size w) (.cells #[.bool poll, .int .i64 fi, .int .i64 sn, .bool part, .bool last, .int .i64 off, .slice A n cap] 60))
  try subst hok
  clear hW hH hP hI hS hFI
  go_enter Try.func39, Try.ntmps39
  go_wp2_with (go_at_call 177; refine (HW.out _).mono ?_; rintro e w1 ⟨rfl, rfl⟩)
  go_quiet ((first | (go_at_call 45; exact Calls.quiet_of_same ((HSH.out _).mono fun e w' h => ⟨h.1, h.2.symm⟩)) | (go_at_call 180; exact Calls.quiet_of_same ((HI.out _).mono fun e w' h => ⟨h.1, h.2.symm⟩)) | (go_at_call 59; exact Calls.quiet_of_same ((HSZ.out _).mono fun e w' h => ⟨h.1, h.2.symm⟩))))
  go_wp2
  go_ret
  exact ⟨rfl, below_drewN HB0.out _⟩
end Go.Proofs.Ytgdpjaojlhdhdaa
