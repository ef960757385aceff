/-
  What the document's own answer for Between tells.
-/
import Derived.Test.YtjilmgbjbkidnaaSeqRefs
namespace Go.Proofs.Ytjilmgbjbkidnaa
open Go.RowKit

/-- how long a slice value is -/
def lenOf : Value → Nat | .slice _ n _ => n | _ => 0
theorem lenOf_own {w : World} {base : Nat} {e : TypeId} {size : Nat} {v : Value} {n : Nat} {xs : List Value} (h : w.ownsRow base e size v n xs) : lenOf v = n := by
  rcases h.2 with ⟨rfl, rfl⟩ | ⟨g, cap, cur, rfl, _⟩ <;> rfl

/-- the numbers from a on, as values -/
def nums (a M : Int) (k : Nat) : List Value := (List.range k).map fun j : Nat => .int .i64 ((a + j) % M)
theorem nums_length (a M : Int) (k : Nat) : (nums a M k).length = k := by simp [nums]
theorem nums_succ (a M : Int) (k : Nat) : nums a M (k + 1) = nums a M k ++ [.int .i64 ((a + k) % M)] := by simp [nums, List.range_succ]
theorem nums_at (a M : Int) {k j : Nat} (h : j < k) : (nums a M k)[j]? = some (.int .i64 ((a + j) % M)) := by simp [nums, h]

/-- a slice value whose cells are these numbers -/
def Reads (w : World) (v : Value) (n : Nat) (f : Nat → Int) : Prop :=
  ∃ A cap, v = .slice A n cap ∧ (0 < n → ∃ g, A = some ⟨g, 0, none⟩ ∧ g < w.heap.size ∧ ∀ j, j < n → w.cell? ⟨g, j, none⟩ = some (.int .i64 (f j)))

theorem Reads.later {w w' : World} {v : Value} {n : Nat} {f : Nat → Int} (h : Reads w v n f) (hb : Below w.heap.size w w') : Reads w' v n f := by
  obtain ⟨A, cap, hv, hr⟩ := h
  refine ⟨A, cap, hv, fun hn => ?_⟩
  obtain ⟨g, hA, hg, hc⟩ := hr hn
  exact ⟨g, hA, by have := hb.size; omega, fun j hj => kept_box hb (hc j hj)⟩

theorem reads_own {w : World} {base : Nat} {v : Value} {a M : Int} {n : Nat} (h : w.ownsRow base 3 1 v n (nums a M n)) : Reads w v n fun j => (a + j) % M := by
  rcases Nat.eq_zero_or_pos n with h0 | h0
  · rcases h.2 with ⟨rfl, rfl⟩ | ⟨g, cap, cur, rfl, _⟩
    · exact ⟨none, 0, rfl, fun hn => absurd hn (by omega)⟩
    · exact ⟨_, cap, rfl, fun hn => absurd hn (by omega)⟩
  · obtain ⟨g, cap, hv, _, hlt⟩ := h.form h0
    subst hv
    exact ⟨_, cap, rfl, fun _ => ⟨g, rfl, hlt, fun j hj => (h.cellAt j (by omega)).trans (nums_at a M hj)⟩⟩

/-- what Between's list is, on either side -/
def BetR (b a c : Int) (v : Value) (w : World) : Prop :=
  if BetE b a c = 0 then Reads w v (farV b a c).toNat (fun j => (a + j) % sz b) else v = .slice none 0 0

theorem BetE_zero {b a c : Int} : BetE b a c = 0 ↔ (rt b && [a, c].all (okn b)) = true ∧ farV b a c ≤ 1024 := by
  unfold BetE
  cases hq : rt b && [a, c].all (okn b)
  · have := flt_ne hq
    simp
    omega
  · by_cases h : 1024 < farV b a c
    · simp [h]
    · simp [h]; omega

theorem betR_of {b a c : Int} {v : Value} {w : World} (h : BetL b a c v w) : BetR b a c v w := by
  unfold BetR
  unfold BetL at h
  split
  · rename_i h0
    obtain ⟨hq, hf⟩ := BetE_zero.1 h0
    rw [if_pos hq, if_neg (by omega)] at h
    obtain ⟨g, cs, rfl, hr, _, hc⟩ := h
    exact ⟨_, _, rfl, fun _ => ⟨g, rfl, hr.inside, fun j hj => hr.read (hc j hj)⟩⟩
  · rename_i h0
    split at h
    · split at h
      · exact h
      · exact absurd (BetE_zero.2 ⟨by assumption, by omega⟩) h0
    · exact h

theorem info3_parts : ∃ i, Try.prog.info? 3 = some i ∧ i.zero = some (.int .i64 0) ∧ i.size = 1 ∧ i.bytes = 8 := info_parts Try.info3

theorem step_math {b a c : Int} {k : Nat} (hr : rt b = true) (h1 : okn b a = true) (h2 : okn b c = true) (hk : (k : Int) < farV b a c) : (a + k) % sz b ≠ c := by
  obtain ⟨hz1, hz2⟩ := rt_pos hr
  obtain ⟨ha1, ha2⟩ := okn_true h1
  obtain ⟨hc1, hc2⟩ := okn_true h2
  intro he
  have h3 := farV_bd a c hr
  have : farV b a c = k := by
    unfold farV
    rw [← he, Int.emod_sub_emod, show a + (k : Int) - a = k by omega]
    exact Int.emod_eq_of_lt (by omega) (by omega)
  omega
theorem stop_math {b a c : Int} (h2 : okn b c = true) : (a + farV b a c) % sz b = c := by
  obtain ⟨hc1, hc2⟩ := okn_true h2
  unfold farV
  rw [Int.add_emod_emod, show a + (c - a) = c by omega]
  exact Int.emod_eq_of_lt hc1 hc2

set_option maxHeartbeats 1600000 in
theorem rbet_any (b a c : Int) (w : World) :
    Calls Try.prog 40 #[.int .i64 b, .int .i64 a, .int .i64 c] w fun e w' => ∃ v, e = .returned (.tuple #[v, .int .i64 (BetE b a c)]) ∧ BetR b a c v w' ∧ Below w.heap.size w w' := by
  by_cases h0 : BetE b a c = 0
  · obtain ⟨hq, hf⟩ := BetE_zero.1 h0
    have hF : FarV b a c = farV b a c := by unfold FarV; rw [hq]; rfl
    rw [all2, Bool.and_eq_true, Bool.and_eq_true] at hq
    obtain ⟨hr, h1, h2⟩ := hq
    obtain ⟨he, _⟩ := far_val hr h1 h2
    obtain ⟨hf0, hf1⟩ := farV_bd a c hr
    obtain ⟨hz1, hz2⟩ := rt_pos hr
    obtain ⟨ha1, ha2⟩ := okn_true h1
    obtain ⟨n, hn⟩ : ∃ n : Nat, farV b a c = n := ⟨(farV b a c).toNat, by omega⟩
    have hR : ∀ v w', BetR b a c v w' = Reads w' v n (fun j => (a + j) % sz b) := by
      intro v w'
      unfold BetR
      rw [if_pos h0, hn]
      rfl
    have hstep : ∀ k : Nat, k < n → (a + k) % sz b ≠ c := fun k hk => step_math hr h1 h2 (by omega)
    have hstop : (a + n) % sz b = c := by rw [← hn]; exact stop_math h2
    have hmod : ∀ k : Nat, 0 ≤ (a + k) % sz b ∧ (a + k) % sz b < sz b := fun k => ⟨Int.emod_nonneg _ (by omega), Int.emod_lt_of_pos _ (by omega)⟩
    have hnext : ∀ k : Nat, ((a + k) % sz b + 1) % sz b = (a + ((k + 1 : Nat) : Int)) % sz b := fun k => by
      rw [Int.emod_add_emod, show a + (k : Int) + 1 = a + ((k + 1 : Nat) : Int) by omega]
    have hstart : (a + ((0 : Nat) : Int)) % sz b = a := by rw [Int.natCast_zero, Int.add_zero]; exact Int.emod_eq_of_lt ha1 ha2
    rw [h0]
    have hFn : FarV b a c = n := hF.trans hn
    have hnb : n ≤ 1024 := by omega
    have HR := Lib.hid hR
    have HS := Lib.hid hstep
    have HT := Lib.hid hstop
    have HM := Lib.hid hmod
    have HX := Lib.hid hnext
    clear h0 hF hr h1 h2 hn hR hstep hstop hmod hnext hf hf0 hf1
    obtain ⟨i0, hi, hi0, hi1, hi2⟩ := info3_parts
    go_enter Try.func40, Try.ntmps40
    go_wp2_with (go_at_call 30; refine (rfar_any _ _ _ _).mono ?_; rintro e w1 ⟨rfl, rfl⟩)
    go_loopw [10, 11] (fun v i wr => ∃ k : Nat, k ≤ n ∧ i = .int .i64 ((a + (k : Int)) % sz b) ∧ wr.ownsRow w.heap.size 3 1 v k (nums a (sz b) k) ∧ Below w.heap.size w wr) (fun v _ _ => n - lenOf v)
    case atStart => exact ⟨0, by omega, by rw [hstart], World.ownsRow_nil _ _ _ _, Below.refl _ _⟩
    case round =>
      obtain ⟨k, hk, rfl, hown, hbr⟩ := hrel
      have hlen := Lib.hid (lenOf_own hown)
      have HK := HX.out k
      have HM1 := HM.out k
      by_cases hkn : k < n
      · have hne := HS.out k hkn
        generalize hq : (a + (k : Int)) % sz b = q at *
        have HQ := Lib.hid hq
        have HKK := Lib.hid HK
        obtain ⟨q0, q1⟩ := HM1
        have hne' : (q != c) = true := by simpa using hne
        clear hq HK hne
        go_wp2_with (first
          | (at_builtin; refine wpList_append_lies _ rfl _ _ _ (by rfl) w.heap.size 3 i0 (.int .i64 0) 1 8 Try.underlying39 hi hi0 hi1 hi2 rfl (by omega) _ k _ (by rfl) (hown.alloc _) ⟨wr.heap.size, 0, none⟩ 1 1 [.int .i64 q] (by rfl) (by rfl) ?h1 ?h2 ?h3 ?h4 ?h5 ?h6 (wr.heap.size + 1) ?h7 ?_)
          | (go_at_call 36; refine (rsize_any _ _).mono ?_; rintro e w1 ⟨rfl, rfl⟩)
          | (go_at_call 48; refine (rmod_any _ _ _ (by omega) (by omega) (by omega) (by omega)).mono ?_; rintro e w1 ⟨rfl, rfl⟩))
        case h1 => exact cell_one_new _ _ _
        case h2 => intro u hu; simp at hu; subst hu; rfl
        case h3 => omega
        case h4 => unfold maxLen; omega
        case h5 => omega
        case h6 => have := hbr.size; simp; omega
        case h7 => simp
        intro g cap w2 hown2 hgrow _ _
        have hb2 : Below w.heap.size w w2 := (hbr.alloc hbr.size _).grown hgrow (by have := hbr.size; simp; omega) (fun r hr => (hown.lt r hr).1)
        have hown3 : w2.ownsRow w.heap.size 3 1 (.slice (some ⟨g, 0, none⟩) (k + 1) cap) (k + 1) (nums a (sz b) (k + 1)) := by rw [nums_succ, HQ.out]; exact hown2
        clear hown2 hgrow hown
        go_wp2_with (first
          | (go_at_call 36; refine (rsize_any _ _).mono ?_; rintro e w1 ⟨rfl, rfl⟩)
          | (go_at_call 48; refine (rmod_any _ _ _ (by omega) (by omega) (by omega) (by omega)).mono ?_; rintro e w1 ⟨rfl, rfl⟩))
        go_roundw
        case rel => exact ⟨k + 1, by omega, by rw [HKK.out], hown3, hb2⟩
        case measure => rw [hlen.out]; simp only [lenOf]; omega
      · have hkn' : k = n := by omega
        subst hkn'
        have heq : ((a + (k : Int)) % sz b != c) = false := by simpa using HT.out
        go_wp2
        refine bodyPost_ret (v := .tuple #[u10, .int .i64 0]) (by simp [results, Try.results40, go_sem]) rfl ⟨_, rfl, ?_, hbr⟩
        rw [HR.out]
        exact reads_own hown
  · have hR : ∀ w', BetR b a c (.slice none 0 0) w' := by intro w'; unfold BetR; rw [if_neg h0]
    have HR := Lib.hid hR
    by_cases hq : (rt b && [a, c].all (okn b)) = true
    · have hf : 1024 < farV b a c := by
        rcases Int.lt_or_le 1024 (farV b a c) with h | h
        · exact h
        · exact absurd (BetE_zero.2 ⟨hq, h⟩) h0
      have hE : BetE b a c = 2 := by unfold BetE; rw [if_pos hq, if_pos hf]
      have hF : FarV b a c = farV b a c := by unfold FarV; rw [hq]; rfl
      rw [all2, Bool.and_eq_true, Bool.and_eq_true] at hq
      obtain ⟨hr, h1, h2⟩ := hq
      obtain ⟨he, _⟩ := far_val hr h1 h2
      rw [hE]
      clear h0 hE hr h1 h2 hR
      go_enter Try.func40, Try.ntmps40
      go_wp2_with (go_at_call 30; refine (rfar_any _ _ _ _).mono ?_; rintro e w1 ⟨rfl, rfl⟩)
      exact bodyPost_ret (v := .tuple #[.slice none 0 0, .int .i64 2]) (by simp [results, Try.results40, go_sem]) rfl ⟨_, rfl, HR.out _, Below.refl _ _⟩
    · rw [Bool.not_eq_true] at hq
      have hE : BetE b a c = flt b [a, c] := by unfold BetE; rw [hq]; rfl
      have hn' : (flt b [a, c] != 0) = true := by have := flt_ne hq; simp; omega
      rw [hE]
      clear h0 hE hq hR
      go_enter Try.func40, Try.ntmps40
      go_wp2_with (go_at_call 30; refine (rfar_any _ _ _ _).mono ?_; rintro e w1 ⟨rfl, rfl⟩)
      exact bodyPost_ret (v := .tuple #[.slice none 0 0, .int .i64 (flt b [a, c])]) (by simp [results, Try.results40, go_sem]) rfl ⟨_, rfl, HR.out _, Below.refl _ _⟩
end Go.Proofs.Ytjilmgbjbkidnaa
