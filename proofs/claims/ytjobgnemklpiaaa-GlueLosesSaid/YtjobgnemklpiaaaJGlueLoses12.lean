/-
  What numbers of a space may be, as the code and the document say. Which packets of umd may be, and how many bytes they are. A packet's bytes. The packet that bytes are.
-/
import Derived.Test.YtjobgnemklpiaaaJGlueLoses01
import Derived.Test.YtjobgnemklpiaaaJGlueLoses11
import Derived.Deep.RegionHeld3
import Derived.Laws.ResultCell
namespace Go.Proofs.Ytjobgnemklpiaaa
open Go.RowKit

def rt (b : Int) : Bool := decide (1 ≤ b ∧ b ≤ 16)
def sz (b : Int) : Int := if rt b then 2 ^ b.toNat else 0
def okn (b n : Int) : Bool := decide (0 ≤ n ∧ n < sz b)

theorem rt_true {b : Int} (h : rt b = true) : 1 ≤ b ∧ b ≤ 16 := of_decide_eq_true h
theorem rt_false {b : Int} (h : rt b = false) : b < 1 ∨ 16 < b := by have := of_decide_eq_false h; omega
theorem rt_of {b : Int} (h1 : 1 ≤ b) (h2 : b ≤ 16) : rt b = true := decide_eq_true ⟨h1, h2⟩
theorem rt_not {b : Int} (h : b < 1 ∨ 16 < b) : rt b = false := decide_eq_false (by omega)
theorem sz_cases {b : Int} (h : rt b = true) : sz b = 2 ∨ sz b = 4 ∨ sz b = 8 ∨ sz b = 16 ∨ sz b = 32 ∨ sz b = 64 ∨ sz b = 128 ∨ sz b = 256 ∨ sz b = 512 ∨ sz b = 1024 ∨ sz b = 2048 ∨ sz b = 4096 ∨ sz b = 8192 ∨ sz b = 16384 ∨ sz b = 32768 ∨ sz b = 65536 := by
  obtain ⟨h1, h2⟩ := rt_true h
  unfold sz
  rw [if_pos h]
  obtain rfl | rfl | rfl | rfl | rfl | rfl | rfl | rfl | rfl | rfl | rfl | rfl | rfl | rfl | rfl | rfl : b = 1 ∨ b = 2 ∨ b = 3 ∨ b = 4 ∨ b = 5 ∨ b = 6 ∨ b = 7 ∨ b = 8 ∨ b = 9 ∨ b = 10 ∨ b = 11 ∨ b = 12 ∨ b = 13 ∨ b = 14 ∨ b = 15 ∨ b = 16 := by omega
  all_goals simp
theorem sz_zero {b : Int} (h : rt b = false) : sz b = 0 := by unfold sz; rw [h]; rfl


set_option maxHeartbeats 400000 in
theorem sqright_any (b : Int) (w : World) :
    Calls Try.prog 202 #[.agg #[.int .i64 b]] w fun e w' => e = .returned (.bool (rt b)) ∧ Below w.heap.size w w' := by
  go_enter Try.func202, Try.ntmps202
  go_wp2
  go_loop [4] (fun i => ∃ k : Nat, k ≤ 16 ∧ i = .int .i64 k ∧ (b < 1 ∨ k < b)) (fun i => 16 - (intOf i).toNat)
  case atStart => exact ⟨0, by omega, rfl, by omega⟩
  case round =>
    obtain ⟨k, hk, rfl, hb⟩ := hrel
    go_wp2
    · go_ret
      exact ⟨ret_bool (rt_of (by omega) (by omega)).symm, (Below.refl _ _).alloc (Nat.le_refl _) _⟩
    · go_round
      case rel => exact ⟨k + 1, by omega, by go_num, by omega⟩
      case measure => simp [intOf]; omega
    · go_ret
      exact ⟨ret_bool (rt_not (by omega)).symm, (Below.refl _ _).alloc (Nat.le_refl _) _⟩



set_option maxHeartbeats 400000 in
theorem sqsize_any (b : Int) (w : World) :
    Calls Try.prog 176 #[.agg #[.int .i64 b]] w fun e w' => e = .returned (.int .i64 (sz b)) ∧ Below w.heap.size w w' := by
  cases hr : rt b
  · rw [sz_zero hr]
    have H := Lib.hid hr
    clear hr
    go_enter Try.func176, Try.ntmps176
    go_wp2_with (go_at_call 202; refine (sqright_any _ _).mono ?_; rintro e w1 ⟨rfl, hb⟩; rw [H.out])
    go_ret
    exact ⟨rfl, ((Below.refl _ _).alloc (Nat.le_refl _) _).trans (hb.mono (by simp))⟩
  · have hs := sz_cases hr
    obtain ⟨h1, h2⟩ := rt_true hr
    have hs : sz b = 2 ^ b.toNat := by unfold sz; rw [if_pos hr]
    have Hs := Lib.hid hs
    have H := Lib.hid hr
    clear hr hs
    go_enter Try.func176, Try.ntmps176
    go_wp2_with (go_at_call 202; refine (sqright_any _ _).mono ?_; rintro e w1 ⟨rfl, hb⟩; obtain ⟨hc, hf⟩ := bcell hb; rw [H.out])
    go_ret
    have hw : wrap64 (2 ^ b.toNat) = 2 ^ b.toNat := by rw [← Hs.out]; exact IntWalk.wrap64_in _ ⟨by omega, by omega⟩
    exact ⟨ret_int (hw.trans Hs.out.symm), ((Below.refl _ _).alloc (Nat.le_refl _) _).trans (hb.mono (by simp))⟩

theorem sz_bd (b : Int) : 0 ≤ sz b ∧ sz b ≤ 65536 := by
  cases h : rt b
  · rw [sz_zero h]; omega
  · have := sz_cases h; omega

set_option maxHeartbeats 400000 in
theorem sqis_any (b n : Int) (w : World) :
    Calls Try.prog 147 #[.agg #[.int .i64 b], .int .i64 n] w fun e w' => e = .returned (.bool (okn b n)) ∧ Below w.heap.size w w' := by
  by_cases hn : 0 ≤ n
  · have ho : okn b n = decide (n < sz b) := by unfold okn; simp [hn]
    have H := Lib.hid ho
    clear ho
    go_enter Try.func147, Try.ntmps147
    go_wp2_with (go_at_call 176; refine (sqsize_any _ _).mono ?_; rintro e w1 ⟨rfl, hb⟩)
    go_ret
    exact ⟨ret_bool H.out.symm, ((Below.refl _ _).alloc (Nat.le_refl _) _).trans (hb.mono (by simp))⟩
  · have ho : okn b n = false := decide_eq_false (by omega)
    have H := Lib.hid ho
    clear ho
    go_enter Try.func147, Try.ntmps147
    go_wp2
    go_ret
    exact ⟨ret_bool H.out.symm, ((Below.refl _ _).alloc (Nat.le_refl _) _)⟩

set_option maxHeartbeats 400000 in
theorem rsize_any (b : Int) (w : World) :
    Calls Try.prog 128 #[.int .i64 b] w fun e w' => e = .returned (.int .i64 (sz b)) ∧ w = w' := by
  cases hr : rt b
  · rw [sz_zero hr]
    have hb := rt_false hr
    clear hr
    by_cases h1 : b < 1
    · go_enter Try.func128, Try.ntmps128
      go_wp2
      go_ret
      exact ⟨rfl, rfl⟩
    · have h2 : 16 < b := by omega
      go_enter Try.func128, Try.ntmps128
      go_wp2
      go_ret
      exact ⟨rfl, rfl⟩
  · obtain ⟨h1, h2⟩ := rt_true hr
    have hs : sz b = 2 ^ b.toNat := by unfold sz; rw [if_pos hr]
    have Hs := Lib.hid hs
    clear hr hs
    go_enter Try.func128, Try.ntmps128
    go_wp2
    go_loop [3, 4] (fun v i => ∃ k n : Nat, (k : Int) ≤ b ∧ i = .int .i64 k ∧ v = .int .i64 n ∧ Hid (n = 2 ^ k) ∧ n ≤ 65536) (fun _ i => (b - intOf i).toNat)
    case atStart => exact ⟨0, 1, by omega, rfl, rfl, Lib.hid rfl, by omega⟩
    case round =>
      obtain ⟨k, n, hk, rfl, rfl, hn, hnb⟩ := hrel
      by_cases hlt : (k : Int) < b
      · go_wp2
        go_round
        case rel =>
          have e := hn.out
          have h15 : n ≤ 2 ^ 15 := by rw [e]; exact Nat.pow_le_pow_right (by omega) (by omega)
          exact ⟨k + 1, 2 * n, by omega, by go_num, by go_num, Lib.hid (by rw [e, Nat.pow_succ]; omega), by omega⟩
        case measure => simp [intOf]; omega
      · go_wp2
        go_ret
        have hkb : b.toNat = k := by omega
        exact ⟨ret_int (by rw [Hs.out, hkb, hn.out]; simp), rfl⟩

set_option maxHeartbeats 400000 in
theorem ris_any (b n : Int) (w : World) :
    Calls Try.prog 177 #[.int .i64 b, .int .i64 n] w fun e w' => e = .returned (.bool (okn b n)) ∧ w = w' := by
  by_cases hn : 0 ≤ n
  · have ho : okn b n = decide (n < sz b) := by unfold okn; simp [hn]
    have H := Lib.hid ho
    clear ho
    go_enter Try.func177, Try.ntmps177
    go_wp2_with (go_at_call 128; refine (rsize_any _ _).mono ?_; rintro e w1 ⟨rfl, rfl⟩)
    go_ret
    exact ⟨ret_bool H.out.symm, rfl⟩
  · have ho : okn b n = false := decide_eq_false (by omega)
    have H := Lib.hid ho
    clear ho
    go_enter Try.func177, Try.ntmps177
    go_wp2
    go_ret
    exact ⟨ret_bool H.out.symm, rfl⟩

end Go.Proofs.Ytjobgnemklpiaaa
namespace Go.Proofs.Ytjobgnemklpiaaa
open Go.RowKit


def umdF (fi sn : Int) (ls : List Nat) (wd : Int) : Int := if (wd = 5 ∨ wd = 10) ∧ 0 ≤ fi ∧ fi ≤ 3 ∧ okn wd sn = true then fieldsF ls (wd / 5) 11 else 0
theorem fieldsF_big (ls : List Nat) (head wd : Int) : fieldsF ls head wd ≤ 4000 := by
  unfold fieldsF
  split
  · rename_i h; exact h.2.2.2
  · omega
theorem umdF_big (fi sn : Int) (ls : List Nat) (wd : Int) : umdF fi sn ls wd ≤ 4000 := by
  unfold umdF
  split
  · exact fieldsF_big _ _ _
  · omega
theorem fieldsF_nonneg (ls : List Nat) (head wd : Int) (h : 0 ≤ head) : 0 ≤ fieldsF ls head wd := by
  unfold fieldsF
  have := sizeF_nonneg ((ls.length : Int) - 1) wd
  split <;> omega
theorem umdF_nonneg (fi sn : Int) (ls : List Nat) (wd : Int) : 0 ≤ umdF fi sn ls wd := by
  unfold umdF
  split
  · exact fieldsF_nonneg _ _ _ (by omega)
  · omega
theorem umdF_pos {fi sn : Int} {ls : List Nat} {wd : Int} (h : umdF fi sn ls wd ≠ 0) : (wd = 5 ∨ wd = 10) ∧ 0 ≤ fi ∧ fi ≤ 3 ∧ okn wd sn = true ∧ 1 ≤ ls.length ∧ ls.length ≤ 24 ∧ okTo ls ls.length = true ∧ umdF fi sn ls wd = wd / 5 + sizeF ((ls.length : Int) - 1) 11 + ls.sum := by
  unfold umdF at h ⊢
  split at h
  · rename_i h1
    rw [if_pos h1]
    unfold fieldsF at h ⊢
    split at h
    · rename_i h2
      rw [if_pos h2]
      exact ⟨h1.1, h1.2.1, h1.2.2.1, h1.2.2.2, h2.1, h2.2.1, h2.2.2.1, rfl⟩
    · exact absurd rfl h
  · exact absurd rfl h

/-- a head's bytes, and the noughts that it begins with -/
def headN (wd : Int) : Int × Int := if wd = 5 then (1, 0) else if wd = 10 then (2, 3) else (0, 0)
theorem shape_any (wd : Int) (w : World) : Calls Try.prog 140 #[.int .i64 wd] w fun e w' => e = .returned (.tuple #[.int .i64 (headN wd).1, .int .i64 (headN wd).2]) ∧ w = w' := by
  by_cases h5 : wd = 5
  · subst h5
    go_enter Try.func140, Try.ntmps140
    go_wp2
    go_ret2
    exact ⟨rfl, rfl⟩
  · by_cases h10 : wd = 10
    · subst h10
      go_enter Try.func140, Try.ntmps140
      go_wp2
      go_ret2
      exact ⟨rfl, rfl⟩
    · have h1 : (wd == 5) = false := by simpa using h5
      have h2 : (wd == 10) = false := by simpa using h10
      have HH := Lib.hid (show headN wd = (0, 0) by unfold headN; rw [if_neg h5, if_neg h10])
      clear h5 h10
      go_enter Try.func140, Try.ntmps140
      go_wp2
      go_ret2
      exact ⟨by rw [HH.out]; rfl, rfl⟩

set_option maxRecDepth 100000 in
set_option maxHeartbeats 3200000 in
theorem usize_any {A : Option Addr} {L : List RowB} (fi sn wd : Int) (n cap : Nat) (w : World) (hL : L.length = n) (hn : n ≤ 9223372036854775807) (hs : RSrc w A L) (hm : ∀ m ∈ lens L, m ≤ 9223372036854775807) :
    Calls Try.prog 170 #[.agg #[.int .i64 fi, .int .i64 sn, .slice A n cap], .int .i64 wd] w fun e w' => e = .returned (.int .i64 (umdF fi sn (lens L) wd)) ∧ Below w.heap.size w w' := by
  have HSH := Lib.hid (fun W => shape_any wd W)
  have HZ := Lib.hid (fun W (hb : Below w.heap.size w W) => fsize_any n cap 11 W hL hn (hs.later hb) hm)
  have hz : 0 ≤ szF (lens L) 11 ∧ szF (lens L) 11 ≤ 100000 := by
    rcases szF_pos (ls := lens L) (wd := 11) with h | h <;> omega
  have HI := Lib.hid (fun W => sqis_any wd sn W)
  have hF : umdF fi sn (lens L) wd = if (wd = 5 ∨ wd = 10) ∧ 0 ≤ fi ∧ fi ≤ 3 ∧ okn wd sn = true then (if szF (lens L) 11 = 0 ∨ 4000 < wd / 5 + szF (lens L) 11 then 0 else wd / 5 + szF (lens L) 11) else 0 := by
    unfold umdF
    rw [fieldsF_code]
  generalize szF (lens L) 11 = z at *
  generalize umdF fi sn (lens L) wd = F at *
  obtain ⟨hz0, hz1⟩ := hz
  clear hs hm hL
  by_cases hw : wd = 5 ∨ wd = 10
  · have hd : (headN wd).1 = wd / 5 ∧ 1 ≤ wd / 5 ∧ wd / 5 ≤ 2 := by rcases hw with rfl | rfl <;> decide
    obtain ⟨hd1, hd2, hd3⟩ := hd
    rw [hd1] at HSH
    generalize (headN wd).2 = nz at *
    have hF2 : F = if 0 ≤ fi ∧ fi ≤ 3 ∧ okn wd sn = true then (if z = 0 ∨ 4000 < wd / 5 + z then 0 else wd / 5 + z) else 0 := by
      rw [hF]
      by_cases h : 0 ≤ fi ∧ fi ≤ 3 ∧ okn wd sn = true
      · rw [if_pos ⟨hw, h⟩, if_pos h]
      · rw [if_neg (fun h2 => h h2.2), if_neg h]
    clear hF hw hd1
    generalize wd / 5 = hd at *
    have h0 : (hd == 0) = false := by simp; omega
    rcases Decidable.em (z = 0) with hz2 | hz2
    · have HF := Lib.hid (show F = 0 by rw [hF2]; split <;> simp [hz2])
      subst hz2
      clear hF2
      go_enter Try.func170, Try.ntmps170
      go_wp2_with (first
        | (go_at_call 140; refine (HSH.out _).mono ?_; rintro e w1 ⟨rfl, rfl⟩)
        | (go_at_call 197; refine (HZ.out _ (bl_alloc (Below.refl _ _) _)).mono ?_; rintro e w2 ⟨rfl, hb2⟩; obtain ⟨hc, hf⟩ := bcell hb2; (have HB := Lib.hid ((bl_alloc (Below.refl w.heap.size w) _).trans (hb2.mono (by simp))); clear hb2)))
      go_ret
      exact ⟨ret_int (by rw [HF.out]), HB.out⟩
    · have hz3 : (z == 0) = false := by simpa using hz2
      rcases Decidable.em (4000 < hd + z) with hz4 | hz4
      · have HF := Lib.hid (show F = 0 by rw [hF2]; split <;> simp [hz4])
        clear hF2 hz2
        go_enter Try.func170, Try.ntmps170
        go_wp2_with (first
          | (go_at_call 140; refine (HSH.out _).mono ?_; rintro e w1 ⟨rfl, rfl⟩)
          | (go_at_call 197; refine (HZ.out _ (bl_alloc (Below.refl _ _) _)).mono ?_; rintro e w2 ⟨rfl, hb2⟩; obtain ⟨hc, hf⟩ := bcell hb2; (have HB := Lib.hid ((bl_alloc (Below.refl w.heap.size w) _).trans (hb2.mono (by simp))); clear hb2)))
        go_ret
        exact ⟨ret_int (by rw [HF.out]), HB.out⟩
      · have hF3 : F = if 0 ≤ fi ∧ fi ≤ 3 ∧ okn wd sn = true then hd + z else 0 := by
          rw [hF2, if_neg (show ¬ (z = 0 ∨ 4000 < hd + z) by omega)]
        clear hF2 hz2
        rcases Decidable.em (fi < 0) with hfi | hfi
        · have HF := Lib.hid (show F = 0 by rw [hF3, if_neg (by omega)])
          clear hF3
          go_enter Try.func170, Try.ntmps170
          go_wp2_with (first
            | (go_at_call 140; refine (HSH.out _).mono ?_; rintro e w1 ⟨rfl, rfl⟩)
            | (go_at_call 197; refine (HZ.out _ (bl_alloc (Below.refl _ _) _)).mono ?_; rintro e w2 ⟨rfl, hb2⟩; obtain ⟨hc, hf⟩ := bcell hb2; (have HB := Lib.hid ((bl_alloc (Below.refl w.heap.size w) _).trans (hb2.mono (by simp))); clear hb2)))
          go_ret
          exact ⟨ret_int (by rw [HF.out]), HB.out⟩
        · rcases Decidable.em (3 < fi) with hfi2 | hfi2
          · have HF := Lib.hid (show F = 0 by rw [hF3, if_neg (by omega)])
            clear hF3
            go_enter Try.func170, Try.ntmps170
            go_wp2_with (first
              | (go_at_call 140; refine (HSH.out _).mono ?_; rintro e w1 ⟨rfl, rfl⟩)
              | (go_at_call 197; refine (HZ.out _ (bl_alloc (Below.refl _ _) _)).mono ?_; rintro e w2 ⟨rfl, hb2⟩; obtain ⟨hc, hf⟩ := bcell hb2; (have HB := Lib.hid ((bl_alloc (Below.refl w.heap.size w) _).trans (hb2.mono (by simp))); clear hb2)))
            go_ret
            exact ⟨ret_int (by rw [HF.out]), HB.out⟩
          · cases hi : okn wd sn
            · have HF := Lib.hid (show F = 0 by rw [hF3, if_neg (by rw [hi]; simp)])
              rw [hi] at HI
              clear hF3 hi
              go_enter Try.func170, Try.ntmps170
              go_wp2_with (first
                | (go_at_call 140; refine (HSH.out _).mono ?_; rintro e w1 ⟨rfl, rfl⟩)
                | (go_at_call 197; refine (HZ.out _ (bl_alloc (Below.refl _ _) _)).mono ?_; rintro e w2 ⟨rfl, hb2⟩; obtain ⟨hc, hf⟩ := bcell hb2; (have HB := Lib.hid ((bl_alloc (Below.refl w.heap.size w) _).trans (hb2.mono (by simp))); clear hb2))
                | (go_at_call 147; refine (HI.out _).mono ?_; rintro e w3 ⟨rfl, hb3⟩))
              go_ret
              exact ⟨ret_int (by rw [HF.out]), HB.out.trans (hb3.mono HB.out.size)⟩
            · have HF := Lib.hid (show F = hd + z by rw [hF3, if_pos ⟨by omega, by omega, hi⟩])
              rw [hi] at HI
              clear hF3 hi
              go_enter Try.func170, Try.ntmps170
              go_wp2_with (first
                | (go_at_call 140; refine (HSH.out _).mono ?_; rintro e w1 ⟨rfl, rfl⟩)
                | (go_at_call 197; refine (HZ.out _ (bl_alloc (Below.refl _ _) _)).mono ?_; rintro e w2 ⟨rfl, hb2⟩; obtain ⟨hc, hf⟩ := bcell hb2; (have HB := Lib.hid ((bl_alloc (Below.refl w.heap.size w) _).trans (hb2.mono (by simp))); clear hb2))
                | (go_at_call 147; refine (HI.out _).mono ?_; rintro e w3 ⟨rfl, hb3⟩))
              go_ret
              exact ⟨ret_int (by rw [HF.out]), HB.out.trans (hb3.mono HB.out.size)⟩
  · have HF := Lib.hid (show F = 0 by rw [hF, if_neg (fun h => hw h.1)])
    have hh : headN wd = (0, 0) := by unfold headN; rw [if_neg (fun h => hw (.inl h)), if_neg (fun h => hw (.inr h))]
    rw [hh] at HSH
    clear hF hw hh
    go_enter Try.func170, Try.ntmps170
    go_wp2_with (first
      | (go_at_call 140; refine (HSH.out _).mono ?_; rintro e w1 ⟨rfl, rfl⟩)
      | (go_at_call 197; refine (HZ.out _ (bl_alloc (Below.refl _ _) _)).mono ?_; rintro e w2 ⟨rfl, hb2⟩; obtain ⟨hc, hf⟩ := bcell hb2; (have HB := Lib.hid ((bl_alloc (Below.refl w.heap.size w) _).trans (hb2.mono (by simp))); clear hb2)))
    go_ret
    exact ⟨ret_int (by rw [HF.out]), HB.out⟩
set_option maxRecDepth 100000 in
set_option maxHeartbeats 800000 in
theorem uright_any {A : Option Addr} {L : List RowB} (fi sn wd : Int) (n cap : Nat) (w : World) (hL : L.length = n) (hn : n ≤ 9223372036854775807) (hs : RSrc w A L) (hm : ∀ m ∈ lens L, m ≤ 9223372036854775807) :
    Calls Try.prog 171 #[.agg #[.int .i64 fi, .int .i64 sn, .slice A n cap], .int .i64 wd] w fun e w' => e = .returned (.bool (decide (0 < umdF fi sn (lens L) wd))) ∧ Below w.heap.size w w' := by
  have HZ := Lib.hid (fun W (hb : Below w.heap.size w W) => usize_any (A := A) fi sn wd n cap W hL hn (hs.later hb) hm)
  generalize umdF fi sn (lens L) wd = F at *
  clear hs hm hL
  go_enter Try.func171, Try.ntmps171
  go_wp2_with (go_at_call 170; refine (HZ.out _ (bl_alloc (Below.refl _ _) _)).mono ?_; rintro e w2 ⟨rfl, hb2⟩)
  go_ret
  exact ⟨rfl, (bl_alloc (Below.refl w.heap.size w) _).trans (hb2.mono (by simp))⟩
end Go.Proofs.Ytjobgnemklpiaaa
namespace Go.Proofs.Ytjobgnemklpiaaa
open Go.RowKit


theorem okn_true {b n : Int} (h : okn b n = true) : 0 ≤ n ∧ n < sz b := of_decide_eq_true h
theorem fwrite_at {A A0 : Option Addr} {L : List RowB} {lh : List Nat} (n cap n0 c0 wd : Nat) (wi : Int) (w : World) (e : wi = wd) (h : wd = 11 ∨ wd = 15) (hL : L.length = n) (hcap : n ≤ cap) (hcm : cap ≤ 9223372036854775807) (h1 : 1 ≤ n) (h24 : n ≤ 24) (hok : okTo (lens L) (lens L).length = true) (hs : RSrc w A L) (hh : Src w A0 (bts lh)) (hn0 : lh.length = n0) (hn1 : n0 ≤ 10) :
    Calls Try.prog 174 #[.slice A0 n0 c0, .slice A n cap, .int .i64 wi] w fun e w' => ∃ v', e = .returned v' ∧ OwnY w.heap.size w' v' (lh ++ tailF (lens L) wd ++ flat L) ∧ Below w.heap.size w w' := by
  subst e
  exact fwrite_any n cap n0 c0 wd w h hL hcap hcm h1 h24 hok hs hh hn0 hn1
theorem Row.under {w v : World} {B g : Nat} {t : TypeId} {cs : Array Value} (h : Row w g t cs) (hb : Below B w v) (hg : g < B) : Row v g t cs := (hb.block g hg).trans h
theorem put_step {B p : Nat} {bl : List Bool} {w : World} (v n : Nat) (vi ni : Int) (h : ∃ sv, WRep B w p sv bl) (e1 : vi = v) (e2 : ni = n) (hn : n ≤ 64) (hv : v < 2 ^ n) (hv2 : v < 18446744073709551616) (hl : bl.length + n ≤ 65536) :
    Calls Try.prog 172 #[.pointer (some ⟨p, 0, none⟩), .int .u64 vi, .int .i64 ni] w fun e w' => e = .returned (.int .i64 0) ∧ (∃ sv, WRep B w' p sv (bl ++ unval v n)) ∧ Below B w w' := by
  subst e1 e2
  obtain ⟨sv, h⟩ := h
  refine (put_any v n w h hn hv hl hv2).mono ?_
  rintro e w' ⟨rfl, sv', h1, _, h3⟩
  exact ⟨rfl, ⟨sv', h1⟩, wrote_below h h3⟩
set_option maxHeartbeats 400000 in
theorem ufollows_any (b : Bool) (w : World) : Calls Try.prog 173 #[.bool b] w fun e w' => e = .returned (.int .u64 b.toNat) ∧ w = w' := by
  cases b
  · go_enter Try.func173, Try.ntmps173
    go_wp2
    go_ret
    exact ⟨rfl, rfl⟩
  · go_enter Try.func173, Try.ntmps173
    go_wp2
    go_ret
    exact ⟨rfl, rfl⟩
/-- a head's bits -/
def headB (fi sn : Nat) (more : Bool) (wd : Nat) : List Bool := ((unval 0 (if wd = 10 then 3 else 0) ++ unval fi 2) ++ unval more.toNat 1) ++ unval sn wd
def umdBytes (fi sn : Nat) (L : List RowB) (wd : Nat) : List Nat := pack (headB fi sn (decide (1 < L.length)) wd) ++ tailF (lens L) 11 ++ flat L
theorem length_headB (fi sn : Nat) (more : Bool) (wd : Nat) : (headB fi sn more wd).length = (if wd = 10 then 3 else 0) + 3 + wd := by
  unfold headB
  rw [List.length_append, List.length_append, List.length_append, length_unval, length_unval, length_unval, length_unval]

set_option maxRecDepth 100000 in
set_option maxHeartbeats 800000 in
theorem uwrite_bad {A : Option Addr} {L : List RowB} (fi sn wd : Int) (n cap : Nat) (w : World) (hL : L.length = n) (hn : n ≤ 9223372036854775807) (hs : RSrc w A L) (hm : ∀ m ∈ lens L, m ≤ 9223372036854775807) (h : umdF fi sn (lens L) wd = 0) :
    Calls Try.prog 134 #[.agg #[.int .i64 fi, .int .i64 sn, .slice A n cap], .int .i64 wd] w fun e w' => e = .returned (.tuple #[.slice none 0 0, .int .i64 (if wd = 5 ∨ wd = 10 then 3 else 9)]) ∧ Below w.heap.size w w' := by
  have HSH := Lib.hid (fun W => shape_any wd W)
  have HR := Lib.hid (fun W (hb : Below w.heap.size w W) => (show Calls Try.prog 171 #[.agg #[.int .i64 fi, .int .i64 sn, .slice A n cap], .int .i64 wd] W fun e w' => e = .returned (.bool false) ∧ Below W.heap.size W w' from by
    have h1 := uright_any (A := A) fi sn wd n cap W hL hn (hs.later hb) hm
    rw [h] at h1
    exact h1))
  clear hs hm hL h
  by_cases hw : wd = 5 ∨ wd = 10
  · have hd : 1 ≤ (headN wd).1 := by rcases hw with rfl | rfl <;> decide
    have h0 : ((headN wd).1 == 0) = false := by simp; omega
    generalize (headN wd).1 = hd at *
    generalize (headN wd).2 = nz at *
    rw [if_pos hw]
    clear hw
    go_enter Try.func134, Try.ntmps134
    go_wp2_with (first
      | (go_at_call 140; refine (HSH.out _).mono ?_; rintro e w1 ⟨rfl, rfl⟩)
      | (go_at_call 171; refine (HR.out _ (bl_alloc (Below.refl _ _) _)).mono ?_; rintro e w2 ⟨rfl, hb2⟩))
    go_ret2
    exact ⟨rfl, (bl_alloc (Below.refl w.heap.size w) _).trans (hb2.mono (by simp))⟩
  · have hh : headN wd = (0, 0) := by unfold headN; rw [if_neg (fun h => hw (.inl h)), if_neg (fun h => hw (.inr h))]
    rw [hh] at HSH
    rw [if_neg hw]
    clear hw hh
    go_enter Try.func134, Try.ntmps134
    go_wp2_with (go_at_call 140; refine (HSH.out _).mono ?_; rintro e w1 ⟨rfl, rfl⟩)
    go_ret2
    exact ⟨rfl, bl_alloc (Below.refl w.heap.size w) _⟩

set_option maxRecDepth 100000 in
set_option maxHeartbeats 3200000 in
theorem uwrite_ok {A : Option Addr} {L : List RowB} (fi sn wd n cap : Nat) (w : World) (hL : L.length = n) (hcap : n ≤ cap) (hcm : cap ≤ 9223372036854775807) (hs : RSrc w A L) (hm : ∀ m ∈ lens L, m ≤ 9223372036854775807) (h : umdF fi sn (lens L) wd ≠ 0) :
    Calls Try.prog 134 #[.agg #[.int .i64 fi, .int .i64 sn, .slice A n cap], .int .i64 wd] w fun e w' => ∃ v', e = .returned (.tuple #[v', .int .i64 0]) ∧ OwnY w.heap.size w' v' (umdBytes fi sn L wd) ∧ Below w.heap.size w w' := by
  obtain ⟨hw, _, hfi, hsn, hl1, hl2, hok, _⟩ := umdF_pos h
  rw [length_lens, hL] at hl1 hl2
  have hsz : (sn : Int) < 2 ^ wd := by
    have h1 := (okn_true hsn).2
    unfold sz at h1
    rcases hw with h9 | h9
    · obtain rfl : wd = 5 := by omega
      exact h1
    · obtain rfl : wd = 10 := by omega
      exact h1
  have hsn2 : sn < 2 ^ wd := by
    have e : ((2 ^ wd : Nat) : Int) = (2 : Int) ^ wd := by rw [Int.natCast_pow]; rfl
    omega
  have hwd : wd = 5 ∨ wd = 10 := by omega
  have hsn3 : sn < 1024 := by rcases hwd with rfl | rfl <;> omega
  have HSH := Lib.hid (fun W => shape_any wd W)
  have hnz : (headN wd).2 = ((if wd = 10 then 3 else 0 : Nat) : Int) := by rcases hwd with rfl | rfl <;> rfl
  have hhd : 1 ≤ (headN wd).1 := by rcases hwd with rfl | rfl <;> decide
  have h0 : ((headN wd).1 == 0) = false := by simp; omega
  have HR := Lib.hid (fun W (hb : Below w.heap.size w W) => (show Calls Try.prog 171 #[.agg #[.int .i64 fi, .int .i64 sn, .slice A n cap], .int .i64 wd] W fun e w' => e = .returned (.bool true) ∧ Below W.heap.size W w' from by
    have h1 := uright_any (A := A) fi sn wd n cap W hL (by omega) (hs.later hb) hm
    rw [decide_eq_true (show 0 < umdF fi sn (lens L) wd by have := umdF_nonneg fi sn (lens L) wd; omega)] at h1
    exact h1))
  have HNEW := Lib.hid (fun W (hB : w.heap.size + 1 ≤ W.heap.size) => new_any (w.heap.size + 1) W hB)
  generalize hnzz : (if wd = 10 then 3 else 0 : Nat) = nz at *
  have hnz3 : nz ≤ 3 := by rw [← hnzz]; split <;> omega
  have hlen := length_headB fi sn (decide (1 < L.length)) wd
  rw [hnzz] at hlen
  have hpl : packLen (headB fi sn (decide (1 < L.length)) wd).length ≤ 10 := by rw [hlen]; unfold packLen; omega
  have HHB := Lib.hid (show ((unval 0 nz ++ unval fi 2) ++ unval (decide (1 < L.length)).toNat 1) ++ unval sn wd = headB fi sn (decide (1 < L.length)) wd by unfold headB; rw [hnzz])
  have HFW := Lib.hid (fun W A0 n0 c0 (hb : Below w.heap.size w W) hh hn0 => fwrite_at (A := A) (A0 := A0) (lh := pack (headB fi sn (decide (1 < L.length)) wd)) n cap n0 c0 11 11 W rfl (.inl rfl) hL hcap hcm hl1 hl2 hok (hs.later hb) hh hn0 (by rw [← hn0, length_pack]; exact hpl))
  have HP1 := Lib.hid (fun W p (hr : ∃ sv, WRep (w.heap.size + 1) W p sv []) => put_step (bl := []) 0 nz 0 nz hr rfl rfl (by omega) (Nat.two_pow_pos _) (by omega) (by simp; omega))
  have HP2 := Lib.hid (fun W p (hr : ∃ sv, WRep (w.heap.size + 1) W p sv ([] ++ unval 0 nz)) => put_step (bl := [] ++ unval 0 nz) fi 2 fi 2 hr rfl rfl (by omega) (by omega) (by omega) (by simp [length_unval]; omega))
  have HP3 := Lib.hid (fun W p (hr : ∃ sv, WRep (w.heap.size + 1) W p sv (([] ++ unval 0 nz) ++ unval fi 2)) => put_step (bl := ([] ++ unval 0 nz) ++ unval fi 2) (decide (1 < L.length)).toNat 1 (decide (1 < L.length)).toNat 1 hr rfl rfl (by omega) (by cases decide (1 < L.length) <;> decide) (by cases decide (1 < L.length) <;> decide) (by simp [length_unval]; omega))
  have HP4 := Lib.hid (fun W p (hr : ∃ sv, WRep (w.heap.size + 1) W p sv ((([] ++ unval 0 nz) ++ unval fi 2) ++ unval (decide (1 < L.length)).toNat 1)) => put_step (bl := (([] ++ unval 0 nz) ++ unval fi 2) ++ unval (decide (1 < L.length)).toNat 1) sn wd sn wd hr rfl rfl (by omega) hsn2 (by omega) (by simp [length_unval]; omega))
  have HMORE := Lib.hid (show decide ((1 : Int) < (n : Int)) = decide (1 < L.length) by apply decide_eq_decide.2; omega)
  have HBY := Lib.hid (fun W p (hr : ∃ sv, WRep (w.heap.size + 1) W p sv (headB fi sn (decide (1 < L.length)) wd)) => by
    obtain ⟨sv, hr⟩ := hr
    exact bytes_any hr (by rw [hlen]; omega))
  have hfw : IntKind.u64.wrap (fi : Int) = (fi : Int) := by rw [IntKind.wrap_u64]; omega
  have hsw : IntKind.u64.wrap (sn : Int) = (sn : Int) := by rw [IntKind.wrap_u64]; omega
  have HU := Lib.hid (show umdBytes fi sn L wd = pack (headB fi sn (decide (1 < L.length)) wd) ++ tailF (lens L) 11 ++ flat L from rfl)
  rw [hnz] at HSH
  generalize (headN wd).1 = hd at *
  generalize decide (1 < L.length) = more at *
  generalize hHB : headB fi sn more wd = bits at *
  generalize umdBytes fi sn L wd = out at *
  clear h hw hok hs hm hL hlen hnz hnzz hwd hsn hsz hsn2 hHB
  go_enter Try.func134, Try.ntmps134
  go_wp2_with (first
    | (go_at_call 140; refine (HSH.out _).mono ?_; rintro e w1 ⟨rfl, rfl⟩)
    | (go_at_call 171; refine (HR.out _ (bl_alloc (Below.refl _ _) _)).mono ?_; rintro e w2 ⟨rfl, hb2⟩; (have HROW := Lib.hid ((Row.made w 152 #[.int .i64 fi, .int .i64 sn, .slice A n cap]).later hb2); have HB2 := Lib.hid ((bl_alloc (Below.refl w.heap.size w) _).trans (hb2.mono (by simp))); have HZ2 := Lib.hid (show w.heap.size + 1 ≤ w2.heap.size by have := hb2.size; simp at this; omega); clear hb2))
    | (go_at_call 149; refine (HNEW.out w2 HZ2.out).mono ?_; rintro e w3 ⟨rfl, hr3, hb3⟩; (have HROW3 := Lib.hid (HROW.out.later hb3); have HR3 := Lib.hid (show ∃ sv, WRep (w.heap.size + 1) w3 w2.heap.size sv [] from ⟨_, hr3⟩); have HB3 := Lib.hid (HB2.out.trans (hb3.mono HB2.out.size)); clear hr3 hb3))
    | (go_at_call 172; (with_reducible refine (HP1.out w3 _ HR3.out).mono ?_); rintro e w4 ⟨rfl, hr4, hb4⟩; (have HROW4 := Lib.hid (HROW3.out.under hb4 (by omega)); have c4 := HROW4.out.read (i := 0) rfl; have HR4 := Lib.hid hr4; have HB4 := Lib.hid (HB3.out.trans (hb4.mono (by omega))); clear hr4 hb4))
    | (go_at_call 172; (with_reducible refine (HP2.out w4 _ HR4.out).mono ?_); rintro e w5 ⟨rfl, hr5, hb5⟩; (have HROW5 := Lib.hid (HROW4.out.under hb5 (by omega)); have c5 := HROW5.out.read (i := 2) rfl; have HR5 := Lib.hid hr5; have HB5 := Lib.hid (HB4.out.trans (hb5.mono (by omega))); clear hr5 hb5))
    | (go_at_call 173; (with_reducible refine (ufollows_any _ _).mono ?_); rintro e w6 ⟨rfl, rfl⟩; rw [HMORE.out])
    | (go_at_call 172; (with_reducible refine (HP3.out w5 _ HR5.out).mono ?_); rintro e w7 ⟨rfl, hr7, hb7⟩; (have HROW7 := Lib.hid (HROW5.out.under hb7 (by omega)); have c7 := HROW7.out.read (i := 1) rfl; have HR7 := Lib.hid hr7; have HB7 := Lib.hid (HB5.out.trans (hb7.mono (by omega))); clear hr7 hb7))
    | (go_at_call 172; (with_reducible refine (HP4.out w7 _ HR7.out).mono ?_); rintro e w8 ⟨rfl, hr8, hb8⟩; (have HROW8 := Lib.hid (HROW7.out.under hb8 (by omega)); have c8 := HROW8.out.read (i := 2) rfl; have HR8 := Lib.hid hr8; have HB8 := Lib.hid (HB7.out.trans (hb8.mono (by omega))); clear hr8 hb8)))
  have d8 : w8.drew.cell? ⟨w.heap.size, 2, none⟩ = some (.slice A n cap) := c8
  have HBY8 := Lib.hid (HBY.out w8.drew _ (by rw [← HHB.out]; obtain ⟨sv, h9⟩ := HR8.out; exact ⟨sv, h9.later (bl_drew (Below.refl _ _))⟩))
  have hpk := length_pack bits
  generalize packLen bits.length = k8 at *
  have HPK := Lib.hid hpk
  clear hpk
  go_region_held3 (fun w' => w'.cell? ⟨w.heap.size, 2, none⟩ = some (.slice A n cap)) (first | assumption | go_keep) (first
    | (go_at_call 153; (with_reducible refine HBY8.out.mono ?_); rintro e v1 ⟨g1, rfl, hg1, hr1, hv1⟩; have HW1 := Lib.hid (HB8.out.trans ((bl_step (bl_drew (Below.refl w8.heap.size w8)) hv1).mono HB8.out.size)); have HR1 := Lib.hid hr1; have k1 : v1.cell? ⟨w.heap.size, 2, none⟩ = some (.slice A n cap) := kept_box hv1 d8)
    | (go_at_call 174; (with_reducible refine (HFW.out _ _ _ _ HW1.out (row_src HR1.out) HPK.out).mono ?_); rintro e v2 ⟨x2, rfl, ho2, hv2⟩; obtain ⟨A2, c2, hx2, _⟩ := ho2.form; generalize (pack bits ++ tailF (lens L) 11 ++ flat L).length = n2 at hx2; subst hx2; have k2 : v2.cell? ⟨w.heap.size, 2, none⟩ = some (.slice A n cap) := kept_box hv2 k1; (have HO2 := Lib.hid ho2; have HW2 := Lib.hid (HW1.out.trans (hv2.mono HW1.out.size)))))
  go_wp2
  go_ret2
  exact ⟨_, rfl, by rw [HU.out]; exact HO2.out.down HW1.out.size, HW2.out⟩
end Go.Proofs.Ytjobgnemklpiaaa
namespace Go.Proofs.Ytjobgnemklpiaaa
open Go.RowKit


theorem get54 {pr p g : Nat} {bs : List Nat} {i : Nat} (n : Nat) (ni : Int) (w : World) (e : ni = n) (hp : Row w pr 211 #[.pointer (some ⟨p, 0, none⟩)]) (hr : RRep w p g bs i) (hn : n ≤ 40) (h : i + n ≤ 8 * bs.length) :
    Calls Try.prog 142 #[.int .i64 ni, .pointer (some ⟨pr, 0, none⟩)] w fun e w' => e = .returned (.int .i64 (val (seg bs i n))) ∧ RRep w' p g bs (i + n) ∧ Only (fun k => k = p) w w' := by
  subst e
  have HG := Lib.hid (get_any n w hr (by omega) h)
  have hc : w.cell? ⟨pr, 0, none⟩ = some (.pointer (some ⟨p, 0, none⟩)) := hp.read rfl
  have hv : val (seg bs i n) < 9223372036854775808 := val_small (by rw [length_seg h]; omega)
  generalize val (seg bs i n) = v at *
  have hw : IntKind.i64.wrap (v : Int) = (v : Int) := by rw [IntKind.wrap_i64]; omega
  clear hr hp
  go_enter Try.func142, Try.ntmps142
  go_wp2_with (go_at_call 143; refine HG.out.mono ?_; rintro e w1 ⟨rfl, h1, h2⟩)
  go_ret
  exact ⟨ret_int (by first | rfl | exact hw), h1, h2⟩
/-- what a packet's bytes tell: why they are none, FI, the number, the fields -/
def umdRd (bs : List Nat) (wd : Nat) : Int × Nat × Nat × List (List Nat) :=
  if wd = 5 ∨ wd = 10 then
    if 4000 < bs.length then (2, 0, 0, [])
    else if bs.length < wd / 5 then (8, 0, 0, [])
    else if val (seg (bs.take (wd / 5)) 0 (if wd = 10 then 3 else 0)) ≠ 0 then (3, 0, 0, [])
    else if (fldR (bs.drop (wd / 5)) (bitAt (bs.take (wd / 5)) ((if wd = 10 then 3 else 0) + 2)) 11).1 = 0 then
      (0, val (seg (bs.take (wd / 5)) (if wd = 10 then 3 else 0) 2), val (seg (bs.take (wd / 5)) ((if wd = 10 then 3 else 0) + 2 + 1) wd), (fldR (bs.drop (wd / 5)) (bitAt (bs.take (wd / 5)) ((if wd = 10 then 3 else 0) + 2)) 11).2)
    else ((fldR (bs.drop (wd / 5)) (bitAt (bs.take (wd / 5)) ((if wd = 10 then 3 else 0) + 2)) 11).1, 0, 0, [])
  else (9, 0, 0, [])
def UrdAns (B : Nat) (w : World) (r : Int × Nat × Nat × List (List Nat)) (e : Ending) (w' : World) : Prop :=
  ((r.1 = 0 ∧ ∃ v L, r.2.2.2 = texts L ∧ e = .returned (.tuple #[.agg #[.int .i64 r.2.1, .int .i64 r.2.2.1, v], .int .i64 0]) ∧ OwnR B w' v L) ∨ (r.1 ≠ 0 ∧ e = .returned (.tuple #[.agg #[.int .i64 0, .int .i64 0, .slice none 0 0], .int .i64 r.1]))) ∧ Below B w w'
theorem urd_bad {B : Nat} {w w' : World} {er : Int} {r : Int × Nat × Nat × List (List Nat)} (h : r.1 = er) (h0 : er ≠ 0) (hb : Below B w w') : UrdAns B w r (.returned (.tuple #[.agg #[.int .i64 0, .int .i64 0, .slice none 0 0], .int .i64 er])) w' := by
  subst h
  exact ⟨.inr ⟨h0, rfl⟩, hb⟩
theorem fread_any {A : Option Addr} {bs : List Nat} (more : Bool) (wd n cap : Nat) (wi : Int) (w : World) (hw : wd = 11 ∨ wd = 15) (e : wi = wd) (hn : bs.length = n) (hm : n ≤ 8192) (hc : n ≤ cap) (hcm : cap ≤ 9223372036854775807) (hs : Src w A (bts bs)) (hb : ∀ b ∈ bs, b < 256) :
    Calls Try.prog 144 #[.slice A n cap, .bool more, .int .i64 wi] w (FldAns w.heap.size w (fldR bs more wd)) := by
  cases more
  · exact fread_no wd n cap wi w hn hm hc hcm hs hb
  · exact fread_yes wd n cap wi w hw e hn hm hc hcm hs hb
theorem OwnR.down {B B' : Nat} {w : World} {v : Value} {L : List RowB} (h : OwnR B w v L) (hb : B' ≤ B) : OwnR B' w v L := ⟨own_down h.own hb, fun r hr => (h.mine r hr).down hb⟩
/-- a reader while a head is read -/
structure RdSt (B : Nat) (w0 : World) (pr p g : Nat) (hd : List Nat) (i : Nat) (w : World) : Prop where
  rd : RRep w p g hd i
  cell : Row w pr 211 #[.pointer (some ⟨p, 0, none⟩)]
  below : Below B w0 w
  above : B ≤ p
  size : B ≤ w.heap.size
theorem RdSt.get {B pr p g i : Nat} {w0 w : World} {hd : List Nat} (h : RdSt B w0 pr p g hd i w) (n : Nat) (ni : Int) (e : ni = n) (hn : n ≤ 40) (h2 : i + n ≤ 8 * hd.length) :
    Calls Try.prog 142 #[.int .i64 ni, .pointer (some ⟨pr, 0, none⟩)] w fun e w' => e = .returned (.int .i64 (val (seg hd i n))) ∧ RdSt B w0 pr p g hd (i + n) w' := by
  refine (get54 n ni w e h.cell h.rd hn h2).mono ?_
  rintro e w' ⟨rfl, h3, h4⟩
  exact ⟨rfl, h3, h.cell.only h4 (h.cell.apart h.rd.1 (by decide)), h.below.trans (get_below h4 h.above h.size), h.above, Nat.le_trans h.size h4.size⟩
theorem one_bit {bs : List Nat} {i : Nat} (h : i < 8 * bs.length) : ((val (seg bs i 1) : Nat) : Int) = ((bitAt bs i).toNat : Int) := by rw [val_one h]
theorem bit_eq (b : Bool) : (((b.toNat : Nat) : Int) == 1) = b := by cases b <;> rfl

theorem Try.info152s : (Try.prog.info? 152).map (·.size) = some 3 := by kernel_rfl
theorem Try.under152s : (Try.prog.underlying 152).map (fun d => match d with | .struct _ => true | _ => false) = some true := by kernel_rfl
theorem under152_parts : ∃ fs, Try.prog.underlying 152 = some (.struct fs) := by
  obtain ⟨d, hd, h⟩ := Option.map_eq_some_iff.1 Try.under152s
  cases d with
  | struct fs => exact ⟨fs, hd⟩
  | _ => simp at h
theorem results_two {fn : Func} {p u : Tmp} {ty : TypeId} (h : fn.results = #[.cell p ty, .tmp u]) (tmps : Array Value) (w : World) (g : Nat) (t : TypeId) (cs : Array Value) (fs : Array Field)
    (hp : tmps.getD p undef = .pointer (some ⟨g, 0, none⟩)) (hg : Row w g t cs)
    (hu : Try.prog.underlying ty = some (.struct fs)) (hi : (Try.prog.info? ty).map (·.size) = some cs.size) :
    (results fn tmps).run Try.prog w = .ok (.tuple #[.agg cs, tmps.getD u undef]) w := by
  rw [results_cell_tmp h, hp]
  simp only [asAddr, Sem.run_pure, Result.andThen_ok, run_loadVar_row w g t ty cs (0, 0) (.struct fs) hg hu rfl hi]

set_option maxRecDepth 100000 in
set_option maxHeartbeats 1600000 in
theorem uread_kind {A : Option Addr} {bs : List Nat} (n cap : Nat) (wd : Int) (w : World) (h5 : wd ≠ 5) (h10 : wd ≠ 10) :
    Calls Try.prog 88 #[.slice A n cap, .int .i64 wd] w fun e w' => e = .returned (.tuple #[.agg #[.int .i64 0, .int .i64 0, .slice none 0 0], .int .i64 9]) ∧ Below w.heap.size w w' := by
  have hh : headN wd = (0, 0) := by unfold headN; rw [if_neg h5, if_neg h10]
  have HSH := Lib.hid (fun W => shape_any wd W)
  rw [hh] at HSH
  clear hh h5 h10
  go_enter Try.func88, Try.ntmps88
  go_wp2_with (go_at_call 140; refine (HSH.out _).mono ?_; rintro e w1 ⟨rfl, rfl⟩)
  exact bodyPost_ret (v := .tuple #[.agg #[.int .i64 0, .int .i64 0, .slice none 0 0], .int .i64 9]) (by simp [results, Try.results88, go_sem]) rfl ⟨rfl, by first | exact bl_alloc (Below.refl _ _) _ | exact (bl_alloc (Below.refl _ _) _).setCell (by simp) _⟩
end Go.Proofs.Ytjobgnemklpiaaa
