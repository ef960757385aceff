/-
  Which packets of umd may be, and how many bytes they are.
-/
import Derived.Test.YtdklddpkklodnaaFldWrite
import Derived.Test.YtdklddpkklodnaaSeq
namespace Go.Proofs.Ytdklddpkklodnaa
open Go.RowKit


def umdF (fi sn : Int) (ls : List Nat) (wd : Int) : Int := if (wd = 5 ∨ wd = 10) ∧ 0 ≤ fi ∧ fi ≤ 3 ∧ okn wd sn = true then fieldsF ls (wd / 5) 11 else 0
theorem fieldsF_big (ls : List Nat) (head wd : Int) : fieldsF ls head wd ≤ 4000 := by
  unfold fieldsF
  split
  · rename_i h; exact h.2.2.2
  · omega
theorem umdF_big (fi sn : Int) (ls : List Nat) (wd : Int) : umdF fi sn ls wd ≤ 4000 := by
  unfold umdF
  split
  · exact fieldsF_big _ _ _
  · omega
theorem fieldsF_nonneg (ls : List Nat) (head wd : Int) (h : 0 ≤ head) : 0 ≤ fieldsF ls head wd := by
  unfold fieldsF
  have := sizeF_nonneg ((ls.length : Int) - 1) wd
  split <;> omega
theorem umdF_nonneg (fi sn : Int) (ls : List Nat) (wd : Int) : 0 ≤ umdF fi sn ls wd := by
  unfold umdF
  split
  · exact fieldsF_nonneg _ _ _ (by omega)
  · omega
theorem umdF_pos {fi sn : Int} {ls : List Nat} {wd : Int} (h : umdF fi sn ls wd ≠ 0) : (wd = 5 ∨ wd = 10) ∧ 0 ≤ fi ∧ fi ≤ 3 ∧ okn wd sn = true ∧ 1 ≤ ls.length ∧ ls.length ≤ 24 ∧ okTo ls ls.length = true ∧ umdF fi sn ls wd = wd / 5 + sizeF ((ls.length : Int) - 1) 11 + ls.sum := by
  unfold umdF at h ⊢
  split at h
  · rename_i h1
    rw [if_pos h1]
    unfold fieldsF at h ⊢
    split at h
    · rename_i h2
      rw [if_pos h2]
      exact ⟨h1.1, h1.2.1, h1.2.2.1, h1.2.2.2, h2.1, h2.2.1, h2.2.2.1, rfl⟩
    · exact absurd rfl h
  · exact absurd rfl h

/-- a head's bytes, and the noughts that it begins with -/
def headN (wd : Int) : Int × Int := if wd = 5 then (1, 0) else if wd = 10 then (2, 3) else (0, 0)
theorem shape_any (wd : Int) (w : World) : Calls Try.prog 40 #[.int .i64 wd] w fun e w' => e = .returned (.tuple #[.int .i64 (headN wd).1, .int .i64 (headN wd).2]) ∧ w = w' := by
  by_cases h5 : wd = 5
  · subst h5
    go_enter Try.func40, Try.ntmps40
    go_wp2
    go_ret2
    exact ⟨rfl, rfl⟩
  · by_cases h10 : wd = 10
    · subst h10
      go_enter Try.func40, Try.ntmps40
      go_wp2
      go_ret2
      exact ⟨rfl, rfl⟩
    · have h1 : (wd == 5) = false := by simpa using h5
      have h2 : (wd == 10) = false := by simpa using h10
      have HH := Lib.hid (show headN wd = (0, 0) by unfold headN; rw [if_neg h5, if_neg h10])
      clear h5 h10
      go_enter Try.func40, Try.ntmps40
      go_wp2
      go_ret2
      exact ⟨by rw [HH.out]; rfl, rfl⟩

set_option maxRecDepth 100000 in
set_option maxHeartbeats 3200000 in
theorem usize_any {A : Option Addr} {L : List RowB} (fi sn wd : Int) (n cap : Nat) (w : World) (hL : L.length = n) (hn : n ≤ 9223372036854775807) (hs : RSrc w A L) (hm : ∀ m ∈ lens L, m ≤ 9223372036854775807) :
    Calls Try.prog 16 #[.agg #[.int .i64 fi, .int .i64 sn, .slice A n cap], .int .i64 wd] w fun e w' => e = .returned (.int .i64 (umdF fi sn (lens L) wd)) ∧ Below w.heap.size w w' := by
  have HSH := Lib.hid (fun W => shape_any wd W)
  have HZ := Lib.hid (fun W (hb : Below w.heap.size w W) => fsize_any n cap 11 W hL hn (hs.later hb) hm)
  have hz : 0 ≤ szF (lens L) 11 ∧ szF (lens L) 11 ≤ 100000 := by
    rcases szF_pos (ls := lens L) (wd := 11) with h | h <;> omega
  have HI := Lib.hid (fun W => sqis_any wd sn W)
  have hF : umdF fi sn (lens L) wd = if (wd = 5 ∨ wd = 10) ∧ 0 ≤ fi ∧ fi ≤ 3 ∧ okn wd sn = true then (if szF (lens L) 11 = 0 ∨ 4000 < wd / 5 + szF (lens L) 11 then 0 else wd / 5 + szF (lens L) 11) else 0 := by
    unfold umdF
    rw [fieldsF_code]
  generalize szF (lens L) 11 = z at *
  generalize umdF fi sn (lens L) wd = F at *
  obtain ⟨hz0, hz1⟩ := hz
  clear hs hm hL
  by_cases hw : wd = 5 ∨ wd = 10
  · have hd : (headN wd).1 = wd / 5 ∧ 1 ≤ wd / 5 ∧ wd / 5 ≤ 2 := by rcases hw with rfl | rfl <;> decide
    obtain ⟨hd1, hd2, hd3⟩ := hd
    rw [hd1] at HSH
    generalize (headN wd).2 = nz at *
    have hF2 : F = if 0 ≤ fi ∧ fi ≤ 3 ∧ okn wd sn = true then (if z = 0 ∨ 4000 < wd / 5 + z then 0 else wd / 5 + z) else 0 := by
      rw [hF]
      by_cases h : 0 ≤ fi ∧ fi ≤ 3 ∧ okn wd sn = true
      · rw [if_pos ⟨hw, h⟩, if_pos h]
      · rw [if_neg (fun h2 => h h2.2), if_neg h]
    clear hF hw hd1
    generalize wd / 5 = hd at *
    have h0 : (hd == 0) = false := by simp; omega
    rcases Decidable.em (z = 0) with hz2 | hz2
    · have HF := Lib.hid (show F = 0 by rw [hF2]; split <;> simp [hz2])
      subst hz2
      clear hF2
      go_enter Try.func16, Try.ntmps16
      go_wp2_with (first
        | (go_at_call 40; refine (HSH.out _).mono ?_; rintro e w1 ⟨rfl, rfl⟩)
        | (go_at_call 46; refine (HZ.out _ (bl_alloc (Below.refl _ _) _)).mono ?_; rintro e w2 ⟨rfl, hb2⟩; obtain ⟨hc, hf⟩ := bcell hb2; (have HB := Lib.hid ((bl_alloc (Below.refl w.heap.size w) _).trans (hb2.mono (by simp))); clear hb2)))
      go_ret
      exact ⟨ret_int (by rw [HF.out]), HB.out⟩
    · have hz3 : (z == 0) = false := by simpa using hz2
      rcases Decidable.em (4000 < hd + z) with hz4 | hz4
      · have HF := Lib.hid (show F = 0 by rw [hF2]; split <;> simp [hz4])
        clear hF2 hz2
        go_enter Try.func16, Try.ntmps16
        go_wp2_with (first
          | (go_at_call 40; refine (HSH.out _).mono ?_; rintro e w1 ⟨rfl, rfl⟩)
          | (go_at_call 46; refine (HZ.out _ (bl_alloc (Below.refl _ _) _)).mono ?_; rintro e w2 ⟨rfl, hb2⟩; obtain ⟨hc, hf⟩ := bcell hb2; (have HB := Lib.hid ((bl_alloc (Below.refl w.heap.size w) _).trans (hb2.mono (by simp))); clear hb2)))
        go_ret
        exact ⟨ret_int (by rw [HF.out]), HB.out⟩
      · have hF3 : F = if 0 ≤ fi ∧ fi ≤ 3 ∧ okn wd sn = true then hd + z else 0 := by
          rw [hF2, if_neg (show ¬ (z = 0 ∨ 4000 < hd + z) by omega)]
        clear hF2 hz2
        rcases Decidable.em (fi < 0) with hfi | hfi
        · have HF := Lib.hid (show F = 0 by rw [hF3, if_neg (by omega)])
          clear hF3
          go_enter Try.func16, Try.ntmps16
          go_wp2_with (first
            | (go_at_call 40; refine (HSH.out _).mono ?_; rintro e w1 ⟨rfl, rfl⟩)
            | (go_at_call 46; refine (HZ.out _ (bl_alloc (Below.refl _ _) _)).mono ?_; rintro e w2 ⟨rfl, hb2⟩; obtain ⟨hc, hf⟩ := bcell hb2; (have HB := Lib.hid ((bl_alloc (Below.refl w.heap.size w) _).trans (hb2.mono (by simp))); clear hb2)))
          go_ret
          exact ⟨ret_int (by rw [HF.out]), HB.out⟩
        · rcases Decidable.em (3 < fi) with hfi2 | hfi2
          · have HF := Lib.hid (show F = 0 by rw [hF3, if_neg (by omega)])
            clear hF3
            go_enter Try.func16, Try.ntmps16
            go_wp2_with (first
              | (go_at_call 40; refine (HSH.out _).mono ?_; rintro e w1 ⟨rfl, rfl⟩)
              | (go_at_call 46; refine (HZ.out _ (bl_alloc (Below.refl _ _) _)).mono ?_; rintro e w2 ⟨rfl, hb2⟩; obtain ⟨hc, hf⟩ := bcell hb2; (have HB := Lib.hid ((bl_alloc (Below.refl w.heap.size w) _).trans (hb2.mono (by simp))); clear hb2)))
            go_ret
            exact ⟨ret_int (by rw [HF.out]), HB.out⟩
          · cases hi : okn wd sn
            · have HF := Lib.hid (show F = 0 by rw [hF3, if_neg (by rw [hi]; simp)])
              rw [hi] at HI
              clear hF3 hi
              go_enter Try.func16, Try.ntmps16
              go_wp2_with (first
                | (go_at_call 40; refine (HSH.out _).mono ?_; rintro e w1 ⟨rfl, rfl⟩)
                | (go_at_call 46; refine (HZ.out _ (bl_alloc (Below.refl _ _) _)).mono ?_; rintro e w2 ⟨rfl, hb2⟩; obtain ⟨hc, hf⟩ := bcell hb2; (have HB := Lib.hid ((bl_alloc (Below.refl w.heap.size w) _).trans (hb2.mono (by simp))); clear hb2))
                | (go_at_call 47; refine (HI.out _).mono ?_; rintro e w3 ⟨rfl, hb3⟩))
              go_ret
              exact ⟨ret_int (by rw [HF.out]), HB.out.trans (hb3.mono HB.out.size)⟩
            · have HF := Lib.hid (show F = hd + z by rw [hF3, if_pos ⟨by omega, by omega, hi⟩])
              rw [hi] at HI
              clear hF3 hi
              go_enter Try.func16, Try.ntmps16
              go_wp2_with (first
                | (go_at_call 40; refine (HSH.out _).mono ?_; rintro e w1 ⟨rfl, rfl⟩)
                | (go_at_call 46; refine (HZ.out _ (bl_alloc (Below.refl _ _) _)).mono ?_; rintro e w2 ⟨rfl, hb2⟩; obtain ⟨hc, hf⟩ := bcell hb2; (have HB := Lib.hid ((bl_alloc (Below.refl w.heap.size w) _).trans (hb2.mono (by simp))); clear hb2))
                | (go_at_call 47; refine (HI.out _).mono ?_; rintro e w3 ⟨rfl, hb3⟩))
              go_ret
              exact ⟨ret_int (by rw [HF.out]), HB.out.trans (hb3.mono HB.out.size)⟩
  · have HF := Lib.hid (show F = 0 by rw [hF, if_neg (fun h => hw h.1)])
    have hh : headN wd = (0, 0) := by unfold headN; rw [if_neg (fun h => hw (.inl h)), if_neg (fun h => hw (.inr h))]
    rw [hh] at HSH
    clear hF hw hh
    go_enter Try.func16, Try.ntmps16
    go_wp2_with (first
      | (go_at_call 40; refine (HSH.out _).mono ?_; rintro e w1 ⟨rfl, rfl⟩)
      | (go_at_call 46; refine (HZ.out _ (bl_alloc (Below.refl _ _) _)).mono ?_; rintro e w2 ⟨rfl, hb2⟩; obtain ⟨hc, hf⟩ := bcell hb2; (have HB := Lib.hid ((bl_alloc (Below.refl w.heap.size w) _).trans (hb2.mono (by simp))); clear hb2)))
    go_ret
    exact ⟨ret_int (by rw [HF.out]), HB.out⟩
set_option maxRecDepth 100000 in
set_option maxHeartbeats 800000 in
theorem uright_any {A : Option Addr} {L : List RowB} (fi sn wd : Int) (n cap : Nat) (w : World) (hL : L.length = n) (hn : n ≤ 9223372036854775807) (hs : RSrc w A L) (hm : ∀ m ∈ lens L, m ≤ 9223372036854775807) :
    Calls Try.prog 17 #[.agg #[.int .i64 fi, .int .i64 sn, .slice A n cap], .int .i64 wd] w fun e w' => e = .returned (.bool (decide (0 < umdF fi sn (lens L) wd))) ∧ Below w.heap.size w w' := by
  have HZ := Lib.hid (fun W (hb : Below w.heap.size w W) => usize_any (A := A) fi sn wd n cap W hL hn (hs.later hb) hm)
  generalize umdF fi sn (lens L) wd = F at *
  clear hs hm hL
  go_enter Try.func17, Try.ntmps17
  go_wp2_with (go_at_call 16; refine (HZ.out _ (bl_alloc (Below.refl _ _) _)).mono ?_; rintro e w2 ⟨rfl, hb2⟩)
  go_ret
  exact ⟨rfl, (bl_alloc (Below.refl w.heap.size w) _).trans (hb2.mono (by simp))⟩
end Go.Proofs.Ytdklddpkklodnaa
