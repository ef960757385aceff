/-
  LensWrites: any lengths' bytes are told, or why they have none, and how many they would be: the law walked.
-/
import Derived.Test.YtcpjalkonfjgbaaLensAlive
import Derived.Test.YtcpjalkonfjgbaaLensRefWrite
namespace Go.Proofs.Ytcpjalkonfjgbaa
open Go.RowKit

theorem fault_zero {l : List Int} {w : Nat} (h : faultF l w = 0) : 1 ≤ l.length ∧ l.length ≤ 23 ∧ (∀ x ∈ l.map Int.toNat, 1 ≤ x ∧ x < 2 ^ w) ∧ insN (l.map Int.toNat) = ins l := by
  unfold faultF at h
  split at h
  · simp at h
  · split at h
    · simp at h
    · split at h
      · rename_i h1 h2 h3
        rw [List.all_eq_true] at h3
        have h4 : ∀ x ∈ l, (1 : Int) ≤ x ∧ x < 2 ^ w := fun x hx => by
          have h5 := h3 x hx
          unfold mayL at h5
          rw [Bool.and_eq_true, decide_eq_true_iff, decide_eq_true_iff] at h5
          exact h5
        refine ⟨by omega, by omega, ?_, ?_⟩
        · intro y hy
          rw [List.mem_map] at hy
          obtain ⟨x, hx, rfl⟩ := hy
          obtain ⟨a, b⟩ := h4 x hx
          refine ⟨by omega, ?_⟩
          have e : ((2 ^ w : Nat) : Int) = (2 : Int) ^ w := by rw [Int.natCast_pow]; rfl
          omega
        · unfold insN ins
          congr 1
          rw [List.map_map]
          have : l.map ((fun n : Nat => (n : Int)) ∘ Int.toNat) = l.map id := List.map_congr_left fun x hx => by
            obtain ⟨a, b⟩ := h4 x hx
            show ((x.toNat : Nat) : Int) = x
            omega
          rw [this, List.map_id]
      · simp at h
theorem conv_nil (w : World) : (convert 23 9 (.slice none 0 0)).run Try.prog w = .ok (.string (strOf [])) w :=
  run_convert_bytes_nil w 23 5 Try.underlying23 Try.underlying5 0 0 9 Try.underlying9
theorem src_laterV {w v : World} {A : Option Addr} {xs : List Value} (h : Src w A xs) (hb : Below w.heap.size w v) : Src v A xs := by
  intro h0
  obtain ⟨ad, rfl, hc⟩ := h h0
  exact ⟨ad, rfl, fun j u hu => cell_below hb (hc j u hu)⟩
theorem own_later2 {B : Nat} {e : TypeId} {size n : Nat} {w v : World} {x : Value} {xs : List Value} (h : w.ownsRow B e size x n xs) (hb : Below w.heap.size w v) : v.ownsRow B e size x n xs :=
  own_only h (S := fun _ => False) (.of_below hb) (fun _ _ h => h)
theorem size_pack_11 (n : Nat) (h1 : 1 ≤ n) (h2 : n ≤ 23) : sizeF n 11 = ((packLen (n * (11 + 1)) : Nat) : Int) := by
  unfold sizeF
  rw [show okW 11 = true from rfl, decide_eq_true (show (1 : Int) ≤ n by omega), decide_eq_true (show (n : Int) ≤ 23 by omega)]
  simp only [Bool.and_self, if_true, packLen]
  omega
theorem size_pack_15 (n : Nat) (h1 : 1 ≤ n) (h2 : n ≤ 23) : sizeF n 15 = ((packLen (n * (15 + 1)) : Nat) : Int) := by
  unfold sizeF
  rw [show okW 15 = true from rfl, decide_eq_true (show (1 : Int) ≤ n by omega), decide_eq_true (show (n : Int) ≤ 23 by omega)]
  simp only [Bool.and_self, if_true, packLen]
  omega

/-- what Write answers: of the code and of the document: one text, one error -/
theorem both_write {l : List Int} (x : Int) (n : Nat) (hn : l.length = n) (h60 : n ≤ 60) : ∃ (S : ByteArray) (er : Int) (k : Nat), (er = 0 → sizeF n x = (k : Int)) ∧
    (∀ W A cap, Src W A (ins l) → Calls Try.prog 19 #[.slice A n cap, .int .i64 x] W fun e w' => ∃ Ay cy, e = .returned (.tuple #[.slice Ay k cy, .int .i64 er]) ∧ Below W.heap.size W w' ∧ ∀ W', Below w'.heap.size w' W' → (convert 23 9 (.slice Ay k cy)).run Try.prog W' = .ok (.string S) W') ∧
    (∀ W A cap, Src W A (ins l) → Calls Try.prog 20 #[.slice A n cap, .int .i64 x] W fun e w' => ∃ y, e = .returned (.tuple #[y, .int .i64 er]) ∧ Below W.heap.size W w' ∧ ∀ W', Below w'.heap.size w' W' → (convert 23 9 y).run Try.prog W' = .ok (.string S) W') := by
  cases hx : okW x
  · refine ⟨strOf [], 9, 0, fun h => absurd h (by decide), fun W A cap _ => ?_, fun W A cap _ => ?_⟩
    · refine (write_bad _ x 9 W (by decide) (fault_kind _ W hx)).mono ?_
      rintro e w' ⟨rfl, rfl⟩
      exact ⟨none, 0, rfl, Below.refl _ _, fun W' _ => conv_nil W'⟩
    · refine (refwrite_kind _ W hx).mono ?_
      rintro e w' ⟨rfl, rfl⟩
      exact ⟨_, rfl, Below.refl _ _, fun W' _ => conv_nil W'⟩
  · rcases okW_nat hx with rfl | rfl
    · skip
      cases hf : (faultF l 11 == 0)
      · have hf' : faultF l 11 ≠ 0 := by simpa using hf
        refine ⟨strOf [], faultF l 11, 0, fun h => absurd h hf', fun W A cap hs => ?_, fun W A cap hs => ?_⟩
        · refine (write_bad _ 11 _ W hf' (fault_11 n cap W hn (by unfold maxLen; omega) hs)).mono ?_
          rintro e w' ⟨rfl, rfl⟩
          exact ⟨none, 0, rfl, Below.refl _ _, fun W' _ => conv_nil W'⟩
        · refine (refwrite_11 n cap W hn (by unfold maxLen; omega) hs).mono ?_
          rintro e w' ⟨h, hb⟩
          rcases h with ⟨h, _⟩ | ⟨_, rfl⟩
          · exact absurd h hf'
          · exact ⟨_, rfl, hb, fun W' _ => conv_nil W'⟩
      · have hf' : faultF l 11 = 0 := by simpa using hf
        obtain ⟨h1, h2, h3, h4⟩ := fault_zero hf'
        rw [hn] at h1 h2
        refine ⟨strOf (pack (wbl 11 (l.map Int.toNat))), 0, packLen (n * (11 + 1)), fun _ => (size_pack_11 n h1 h2), fun W A cap hs => ?_, fun W A cap hs => ?_⟩
        · refine (write_ok_11 (L := l.map Int.toNat) n cap W (by rw [List.length_map]; exact hn) h1 h2 h3 (by rw [h4]; exact hs)).mono ?_
          rintro e w' ⟨g, rfl, _, hr, hb⟩
          refine ⟨_, _, rfl, hb, fun W' hb' => ?_⟩
          have h9 := conv_str (c := packLen (n * (11 + 1))) (hr.later hb') (pack_small _)
          rw [length_pack, length_wbl, List.length_map, hn] at h9
          exact h9
        · refine (refwrite_11 n cap W hn (by unfold maxLen; omega) hs).mono ?_
          rintro e w' ⟨h, hb⟩
          rcases h with ⟨_, y, rfl, ho⟩ | ⟨h, _⟩
          · exact ⟨_, rfl, hb, fun W' hb' => conv_own (own_later2 ho hb') (pack_small _)⟩
          · exact absurd hf' h
    · skip
      cases hf : (faultF l 15 == 0)
      · have hf' : faultF l 15 ≠ 0 := by simpa using hf
        refine ⟨strOf [], faultF l 15, 0, fun h => absurd h hf', fun W A cap hs => ?_, fun W A cap hs => ?_⟩
        · refine (write_bad _ 15 _ W hf' (fault_15 n cap W hn (by unfold maxLen; omega) hs)).mono ?_
          rintro e w' ⟨rfl, rfl⟩
          exact ⟨none, 0, rfl, Below.refl _ _, fun W' _ => conv_nil W'⟩
        · refine (refwrite_15 n cap W hn (by unfold maxLen; omega) hs).mono ?_
          rintro e w' ⟨h, hb⟩
          rcases h with ⟨h, _⟩ | ⟨_, rfl⟩
          · exact absurd h hf'
          · exact ⟨_, rfl, hb, fun W' _ => conv_nil W'⟩
      · have hf' : faultF l 15 = 0 := by simpa using hf
        obtain ⟨h1, h2, h3, h4⟩ := fault_zero hf'
        rw [hn] at h1 h2
        refine ⟨strOf (pack (wbl 15 (l.map Int.toNat))), 0, packLen (n * (15 + 1)), fun _ => (size_pack_15 n h1 h2), fun W A cap hs => ?_, fun W A cap hs => ?_⟩
        · refine (write_ok_15 (L := l.map Int.toNat) n cap W (by rw [List.length_map]; exact hn) h1 h2 h3 (by rw [h4]; exact hs)).mono ?_
          rintro e w' ⟨g, rfl, _, hr, hb⟩
          refine ⟨_, _, rfl, hb, fun W' hb' => ?_⟩
          have h9 := conv_str (c := packLen (n * (15 + 1))) (hr.later hb') (pack_small _)
          rw [length_pack, length_wbl, List.length_map, hn] at h9
          exact h9
        · refine (refwrite_15 n cap W hn (by unfold maxLen; omega) hs).mono ?_
          rintro e w' ⟨h, hb⟩
          rcases h with ⟨_, y, rfl, ho⟩ | ⟨h, _⟩
          · exact ⟨_, rfl, hb, fun W' hb' => conv_own (own_later2 ho hb') (pack_small _)⟩
          · exact absurd hf' h

set_option maxRecDepth 100000 in
set_option maxHeartbeats 800000 in
theorem writes_guard (A : Option Addr) (n cap : Nat) (x m : Int) (w : World) (h : 60 < n) :
    Calls Try.prog 6 #[.slice A n cap, .int .i64 x, .int .i64 m] w fun e w' => e = .returned (.bool true) ∧ Below w.heap.size w w' := by
  have h' : (60 : Int) < (n : Int) := by omega
  clear h
  go_enter Try.func6, Try.ntmps6
  go_wp2_with (go_at_call 18; refine (lalive_any _).mono ?_; rintro e w1 ⟨rfl, hb1⟩)
  go_ret
  exact ⟨rfl, hb1⟩

set_option maxRecDepth 100000 in
set_option maxHeartbeats 3200000 in
theorem writes_walk (A : Option Addr) (l : List Int) (n cap : Nat) (x m : Int) (w : World) (hn : l.length = n) (h : n ≤ 60) (hs : Src w A (ins l)) :
    Calls Try.prog 6 #[.slice A n cap, .int .i64 x, .int .i64 m] w fun e w' => e = .returned (.bool true) ∧ Below w.heap.size w w' := by
  have h' : ¬ (60 : Int) < (n : Int) := by omega
  obtain ⟨S, er, k, hk, hw1, hw2⟩ := both_write (l := l) x n hn h
  have HW1 := Lib.hid (hw1 w A cap hs)
  have HW2 := Lib.hid (fun W (hb : Below w.heap.size w W) => hw2 W A cap (src_laterV hs hb))
  have HS1 := Lib.hid (fun W => size_any m x W)
  have HS2 := Lib.hid (fun W => refsize_any m x W)
  have HS3 := Lib.hid (fun W => size_any n x W)
  generalize sizeF m x = sm at *
  clear hw1 hw2 hs hn
  by_cases he : er = 0
  · subst he
    have hkk := hk rfl
    rw [hkk] at HS3
    clear hk hkk
    go_enter Try.func6, Try.ntmps6
    go_wp2_with (first
      | (go_at_call 19; refine HW1.out.mono ?_; rintro e w1 ⟨Ay, cy, rfl, hb1, hc1⟩; have HB1 := Lib.hid hb1; have HC1 := Lib.hid hc1; clear hb1 hc1)
      | (go_at_call 20; refine (HW2.out w1 HB1.out).mono ?_; rintro e w2 ⟨y, rfl, hb2, hc2⟩; have HB2 := Lib.hid (bl_step HB1.out hb2); have HC1 := Lib.hid (fun W (h : Below w2.heap.size w2 W) => HC1.out W (bl_step hb2 h)); have HC2 := Lib.hid hc2; clear hb2 hc2)
      | (go_at_call 18; refine (lalive_any _).mono ?_; rintro e w3 ⟨rfl, hb3⟩; have HB3 := Lib.hid (bl_step HB2.out hb3); have c1 := HC1.out w3 hb3; have c2 := HC2.out w3 hb3; clear hb3)
      | (go_at_call 21; (with_reducible refine (HS1.out _).mono ?_); rintro e w4 ⟨rfl, rfl⟩)
      | (go_at_call 22; (with_reducible refine (HS2.out _).mono ?_); rintro e w5 ⟨rfl, rfl⟩)
      | (go_at_call 21; (with_reducible refine (HS3.out _).mono ?_); rintro e w6 ⟨rfl, rfl⟩))
    go_ret
    exact ⟨rfl, HB3.out⟩
  · have he' : (er != 0) = true := by simpa using he
    clear hk he
    go_enter Try.func6, Try.ntmps6
    go_wp2_with (first
      | (go_at_call 19; refine HW1.out.mono ?_; rintro e w1 ⟨Ay, cy, rfl, hb1, hc1⟩; have HB1 := Lib.hid hb1; have HC1 := Lib.hid hc1; clear hb1 hc1)
      | (go_at_call 20; refine (HW2.out w1 HB1.out).mono ?_; rintro e w2 ⟨y, rfl, hb2, hc2⟩; have HB2 := Lib.hid (bl_step HB1.out hb2); have HC1 := Lib.hid (fun W (h : Below w2.heap.size w2 W) => HC1.out W (bl_step hb2 h)); have HC2 := Lib.hid hc2; clear hb2 hc2)
      | (go_at_call 18; refine (lalive_any _).mono ?_; rintro e w3 ⟨rfl, hb3⟩; have HB3 := Lib.hid (bl_step HB2.out hb3); have c1 := HC1.out w3 hb3; have c2 := HC2.out w3 hb3; clear hb3)
      | (go_at_call 21; (with_reducible refine (HS1.out _).mono ?_); rintro e w4 ⟨rfl, rfl⟩)
      | (go_at_call 22; (with_reducible refine (HS2.out _).mono ?_); rintro e w5 ⟨rfl, rfl⟩))
    go_ret
    exact ⟨rfl, HB3.out⟩
theorem writes_all (A : Option Addr) (l : List Int) (cap : Nat) (x m : Int) (w : World) (hs : Src w A (ins l)) :
    Calls Try.prog 6 #[.slice A l.length cap, .int .i64 x, .int .i64 m] w fun e w' => e = .returned (.bool true) ∧ Below w.heap.size w w' := by
  by_cases h : 60 < l.length
  · exact writes_guard A l.length cap x m w h
  · exact writes_walk A l l.length cap x m w rfl (by omega) hs
end Go.Proofs.Ytcpjalkonfjgbaa
