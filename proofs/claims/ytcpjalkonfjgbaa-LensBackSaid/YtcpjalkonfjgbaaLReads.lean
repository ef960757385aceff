/-
  LensReads: the lengths at any bytes' beginning are told, and how many bytes they have, or why there are none: the law walked.
-/
import Derived.Test.YtcpjalkonfjgbaaLWrites
import Derived.Test.YtcpjalkonfjgbaaLensRefRead
namespace Go.Proofs.Ytcpjalkonfjgbaa
open Go.RowKit

theorem src_ints {B : Nat} {w : World} {A : Option Addr} {n c : Nat} {l : List Int} (h : Ints B w (.slice A n c) l) : Src w A (ins l) := by
  obtain ⟨A', he, hc⟩ := h.read
  injection he with he _ _
  subst he
  intro h0
  rw [length_ins] at h0
  obtain ⟨g, hA, _, _⟩ := hc 0 l[0] (List.getElem?_eq_getElem h0)
  subst hA
  refine ⟨_, rfl, fun j u hu => ?_⟩
  have hj := (List.getElem?_eq_some_iff.1 hu).1
  rw [length_ins] at hj
  obtain ⟨g2, hA2, _, h2⟩ := hc j l[j] (List.getElem?_eq_getElem hj)
  injection hA2 with hA2
  injection hA2 with hA2 _ _
  subst hA2
  rw [ins_at (List.getElem?_eq_getElem hj)] at hu
  injection hu with hu
  rw [← hu, add_zero_addr]
  exact h2
theorem src_owns {B : Nat} {w : World} {A : Option Addr} {n c : Nat} {l : List Int} {k : Nat} (h : w.ownsRow B 3 1 (.slice A n c) k (ins l)) : Src w A (ins l) := by
  intro h0
  have hk : k = l.length := by have := h.1; rw [length_ins] at this; omega
  rw [length_ins] at h0
  obtain ⟨g, cap', hv, _, _⟩ := h.form (by omega)
  injection hv with hA _ _
  subst hA
  exact ⟨_, rfl, h.cells (g := g) rfl⟩
theorem owns_form {B : Nat} {w : World} {x : Value} {k : Nat} {xs : List Value} (h : w.ownsRow B 3 1 x k xs) : ∃ A c, x = .slice A k c := by
  rcases h.2 with ⟨rfl, h0⟩ | ⟨g, c, cur, rfl, _⟩
  · exact ⟨none, 0, by rw [h0]⟩
  · exact ⟨_, c, rfl⟩

/-- what Read answers: of the code and of the document: equal lists, one place, one error -/
theorem both_read {bs : List Nat} (x : Int) (n : Nat) (hn : bs.length = n) (hm : n ≤ 3000) (hb : ∀ b ∈ bs, b < 256) : ∃ (l : List Int) (k : Nat) (er : Int), l.length ≤ 1000 ∧
    (∀ W A cap, n ≤ cap → Src W A (bts bs) → Calls Try.prog 23 #[.slice A n cap, .int .i64 x] W fun e w' => ∃ Ay cy, e = .returned (.tuple #[.slice Ay l.length cy, .int .i64 (k : Int), .int .i64 er]) ∧ Below W.heap.size W w' ∧ Src w' Ay (ins l)) ∧
    (∀ W A cap, n ≤ cap → Src W A (bts bs) → Calls Try.prog 24 #[.slice A n cap, .int .i64 x] W fun e w' => ∃ Ay cy, e = .returned (.tuple #[.slice Ay l.length cy, .int .i64 (k : Int), .int .i64 er]) ∧ Below W.heap.size W w' ∧ Src w' Ay (ins l)) := by
  have hnil : ∀ W, Src W none (ins []) := fun W h0 => absurd h0 (by simp [ins])
  cases hx : okW x
  · refine ⟨[], 0, 9, by simp, fun W A cap _ _ => ?_, fun W A cap _ _ => ?_⟩
    · refine (read_kind A n cap W hx).mono ?_
      rintro e w' ⟨rfl, rfl⟩
      exact ⟨none, 0, rfl, Below.refl _ _, hnil _⟩
    · refine (refread_kind A n cap W hx).mono ?_
      rintro e w' ⟨rfl, rfl⟩
      exact ⟨none, 0, rfl, Below.refl _ _, hnil _⟩
  · rcases okW_nat hx with rfl | rfl
    · obtain ⟨l, k, er, hr⟩ : ∃ l k er, readF bs 11 = (l, k, er) := ⟨_, _, _, rfl⟩
      by_cases he : er = 0
      · subst he
        obtain ⟨_, h23, _⟩ := read_write hb hr
        have hlen : (l.map (fun n : Nat => (n : Int))).length = l.length := by simp
        refine ⟨l.map (fun n : Nat => (n : Int)), k, 0, by omega, fun W A cap hc hs => ?_, fun W A cap hc hs => ?_⟩
        · refine (read_11 n cap W hn (by omega) hc hs hb).mono ?_
          rintro e w' ⟨h, hbl⟩
          rw [hr] at h
          rcases h with ⟨_, u, rfl, hu⟩ | ⟨h, _⟩
          · obtain ⟨Ay, rfl, _⟩ := hu.read
            exact ⟨Ay, _, rfl, hbl, src_ints hu⟩
          · exact absurd rfl h
        · refine (refread_11 n cap W hn hm hs hb).mono ?_
          rintro e w' ⟨h, hbl⟩
          rw [hr] at h
          rcases h with ⟨_, u, rfl, hu⟩ | ⟨h, _⟩
          · obtain ⟨Ay, cy, rfl⟩ := owns_form hu
            exact ⟨Ay, cy, by rw [hlen], hbl, src_owns hu⟩
          · exact absurd rfl h
      · refine ⟨[], 0, er, by simp, fun W A cap hc hs => ?_, fun W A cap hc hs => ?_⟩
        · refine (read_11 n cap W hn (by omega) hc hs hb).mono ?_
          rintro e w' ⟨h, hbl⟩
          rw [hr] at h
          rcases h with ⟨h, _⟩ | ⟨_, rfl⟩
          · exact absurd h he
          · exact ⟨none, 0, rfl, hbl, hnil _⟩
        · refine (refread_11 n cap W hn hm hs hb).mono ?_
          rintro e w' ⟨h, hbl⟩
          rw [hr] at h
          rcases h with ⟨h, _⟩ | ⟨_, rfl⟩
          · exact absurd h he
          · exact ⟨none, 0, rfl, hbl, hnil _⟩
    · obtain ⟨l, k, er, hr⟩ : ∃ l k er, readF bs 15 = (l, k, er) := ⟨_, _, _, rfl⟩
      by_cases he : er = 0
      · subst he
        obtain ⟨_, h23, _⟩ := read_write hb hr
        have hlen : (l.map (fun n : Nat => (n : Int))).length = l.length := by simp
        refine ⟨l.map (fun n : Nat => (n : Int)), k, 0, by omega, fun W A cap hc hs => ?_, fun W A cap hc hs => ?_⟩
        · refine (read_15 n cap W hn (by omega) hc hs hb).mono ?_
          rintro e w' ⟨h, hbl⟩
          rw [hr] at h
          rcases h with ⟨_, u, rfl, hu⟩ | ⟨h, _⟩
          · obtain ⟨Ay, rfl, _⟩ := hu.read
            exact ⟨Ay, _, rfl, hbl, src_ints hu⟩
          · exact absurd rfl h
        · refine (refread_15 n cap W hn hm hs hb).mono ?_
          rintro e w' ⟨h, hbl⟩
          rw [hr] at h
          rcases h with ⟨_, u, rfl, hu⟩ | ⟨h, _⟩
          · obtain ⟨Ay, cy, rfl⟩ := owns_form hu
            exact ⟨Ay, cy, by rw [hlen], hbl, src_owns hu⟩
          · exact absurd rfl h
      · refine ⟨[], 0, er, by simp, fun W A cap hc hs => ?_, fun W A cap hc hs => ?_⟩
        · refine (read_15 n cap W hn (by omega) hc hs hb).mono ?_
          rintro e w' ⟨h, hbl⟩
          rw [hr] at h
          rcases h with ⟨h, _⟩ | ⟨_, rfl⟩
          · exact absurd h he
          · exact ⟨none, 0, rfl, hbl, hnil _⟩
        · refine (refread_15 n cap W hn hm hs hb).mono ?_
          rintro e w' ⟨h, hbl⟩
          rw [hr] at h
          rcases h with ⟨h, _⟩ | ⟨_, rfl⟩
          · exact absurd h he
          · exact ⟨none, 0, rfl, hbl, hnil _⟩

set_option maxRecDepth 100000 in
set_option maxHeartbeats 800000 in
theorem reads_guard (A : Option Addr) (n cap : Nat) (x : Int) (w : World) (h : 200 < n) :
    Calls Try.prog 7 #[.slice A n cap, .int .i64 x] w fun e w' => e = .returned (.bool true) ∧ Below w.heap.size w w' := by
  have h' : (200 : Int) < (n : Int) := by omega
  clear h
  go_enter Try.func7, Try.ntmps7
  go_wp2_with (go_at_call 18; refine (lalive_any _).mono ?_; rintro e w1 ⟨rfl, hb1⟩)
  go_ret
  exact ⟨rfl, hb1⟩

set_option maxRecDepth 100000 in
set_option maxHeartbeats 3200000 in
theorem reads_walk (A : Option Addr) (bs : List Nat) (n cap : Nat) (x : Int) (w : World) (hn : bs.length = n) (h : n ≤ 200) (hc : n ≤ cap) (hs : Src w A (bts bs)) (hb : ∀ b ∈ bs, b < 256) :
    Calls Try.prog 7 #[.slice A n cap, .int .i64 x] w fun e w' => e = .returned (.bool true) ∧ Below w.heap.size w w' := by
  have h' : ¬ (200 : Int) < (n : Int) := by omega
  obtain ⟨l, k, er, hl, hw1, hw2⟩ := both_read (bs := bs) x n hn (by omega) hb
  have HW1 := Lib.hid (hw1 w A cap hc hs)
  have HW2 := Lib.hid (fun W (hb : Below w.heap.size w W) => hw2 W A cap hc (src_laterV hs hb))
  generalize hm : l.length = m at *
  have HM := Lib.hid hm
  have hm9 : m ≤ 1000 := hl
  clear hw1 hw2 hs hn hm
  go_enter Try.func7, Try.ntmps7
  go_wp2_with (first
    | (go_at_call 23; refine HW1.out.mono ?_; rintro e w1 ⟨Ay, cy, rfl, hb1, hs1⟩; have HB1 := Lib.hid hb1; have HS1 := Lib.hid hs1; clear hb1 hs1)
    | (go_at_call 24; refine (HW2.out w1 HB1.out).mono ?_; rintro e w2 ⟨Az, cz, rfl, hb2, hs2⟩; have HB2 := Lib.hid (bl_step HB1.out hb2); have HS1 := Lib.hid (src_laterV HS1.out hb2); have HS2 := Lib.hid hs2; clear hb2 hs2)
    | (go_at_call 18; refine (lalive_any _).mono ?_; rintro e w3 ⟨rfl, hb3⟩; have HB3 := Lib.hid (bl_step HB2.out hb3); have HS1 := Lib.hid (src_laterV HS1.out hb3); have HS2 := Lib.hid (src_laterV HS2.out hb3); clear hb3)
    | (go_at_call 25; refine (same_yes m _ _ w3 HM.out hm9 HS1.out HS2.out).mono ?_; rintro e w4 ⟨rfl, hb4⟩; have HB4 := Lib.hid (bl_step HB3.out hb4); clear hb4))
  go_ret
  exact ⟨rfl, HB4.out⟩
theorem reads_all (A : Option Addr) (bs : List Nat) (cap : Nat) (x : Int) (w : World) (hc : bs.length ≤ cap) (hs : Src w A (bts bs)) (hb : ∀ b ∈ bs, b < 256) :
    Calls Try.prog 7 #[.slice A bs.length cap, .int .i64 x] w fun e w' => e = .returned (.bool true) ∧ Below w.heap.size w w' := by
  by_cases h : 200 < bs.length
  · exact reads_guard A bs.length cap x w h
  · exact reads_walk A bs bs.length cap x w rfl (by omega) hc hs hb
end Go.Proofs.Ytcpjalkonfjgbaa
