/-
  The rest of a reader's bytes, refused where a bit that is left over is 1; and the document's answer for it.
-/
import Derived.Test.YtjilmgbjbkidnaaRefGet
namespace Go.Proofs.Ytjilmgbjbkidnaa
open Go.RowKit

theorem first_one (f : Nat → Bool) : ∀ (d i : Nat), (∀ k, i ≤ k → k < i + d → f k = false) ∨ ∃ j, i ≤ j ∧ j < i + d ∧ f j = true ∧ ∀ k, i ≤ k → k < j → f k = false
  | 0, i => .inl fun k h1 h2 => by omega
  | d + 1, i => by
    rcases first_one f d i with h | ⟨j, h1, h2, h3, h4⟩
    · cases hf : f (i + d)
      · refine .inl fun k h1 h2 => ?_
        rcases Nat.lt_or_ge k (i + d) with h3 | h3
        · exact h k h1 h3
        · obtain rfl : k = i + d := by omega
          exact hf
      · exact .inr ⟨i + d, by omega, by omega, hf, fun k h1 h2 => h k h1 h2⟩
    · exact .inr ⟨j, h1, by omega, h3, h4⟩

theorem byteAt_bitsOf {cs : List Nat} (hb : ∀ b ∈ cs, b < 256) {i : Nat} (h : i < cs.length) : byteAt (bitsOf cs) i = cs[i] := by
  have h1 : eight (bitsOf cs) i = unval cs[i] 8 := by
    apply List.ext_getElem?
    intro j
    by_cases hj : j < 8
    · rw [eight_at _ hj, List.getD_eq_getElem?_getD, bitsOf_at cs (8 * i + j) cs[i] (by rw [show (8 * i + j) / 8 = i by omega]; exact List.getElem?_eq_getElem h), show (8 * i + j) % 8 = j by omega, unval_at _ _ _ hj]
      rfl
    · rw [List.getElem?_eq_none (by rw [length_eight]; omega), List.getElem?_eq_none (by rw [length_unval]; omega)]
  unfold byteAt
  rw [h1, val_unval]
  exact Nat.mod_eq_of_lt (hb _ (List.getElem_mem h))
theorem pack_bitsOf {cs : List Nat} (hb : ∀ b ∈ cs, b < 256) : pack (bitsOf cs) = cs := by
  have hl : packLen (bitsOf cs).length = cs.length := by rw [length_bitsOf]; unfold packLen; omega
  apply List.ext_getElem?
  intro i
  by_cases h : i < cs.length
  · rw [pack_at _ (by rw [hl]; exact h), byteAt_bitsOf hb h, List.getElem?_eq_getElem h]
  · rw [List.getElem?_eq_none (by rw [length_pack, hl]; omega), List.getElem?_eq_none (by omega)]
theorem bitsOf_drop (bs : List Nat) : ∀ m, (bitsOf bs).drop (8 * m) = bitsOf (bs.drop m) := by
  induction bs with
  | nil => intro m; simp [bitsOf]
  | cons b bs ih =>
    intro m
    cases m with
    | zero => rfl
    | succ m =>
      have e : bitsOf (b :: bs) = unval b 8 ++ bitsOf bs := rfl
      rw [e, List.drop_succ_cons, ← ih m, show 8 * (m + 1) = (unval b 8).length + 8 * m by rw [length_unval]; omega, ← List.drop_drop, List.drop_left]

set_option maxRecDepth 100000 in
set_option maxHeartbeats 1600000 in
theorem rest_form {p g : Nat} {bs : List Nat} {i : Nat} (w : World) (hr : RRep w p g bs i) (j : Nat) (hj1 : i ≤ j) (hj2 : j < 8 * up i) (hj3 : bitAt bs j = true) (h : ∀ k, i ≤ k → k < j → bitAt bs k = false) :
    Calls Try.prog 25 #[.pointer (some ⟨p, 0, none⟩)] w fun e w' => e = .returned (.tuple #[.slice none 0 0, .int .i64 3]) ∧ w = w' := by
  have hi := hr.2.2.1
  have hn := hr.2.2.2.1
  have hup : up i ≤ bs.length := by unfold up; omega
  have hc0 : w.cell? ⟨p, 0, none⟩ = some (.slice (some ⟨g, 0, none⟩) bs.length bs.length) := hr.1.read rfl
  have hc1 : w.cell? ⟨p, 1, none⟩ = some (.int .i64 i) := hr.1.read rfl
  have HR := Lib.hid hr
  have HH := Lib.hid h
  have HJ := Lib.hid hj3
  clear hr h hj3
  go_enter Try.func25, Try.ntmps25
  go_wp2
  refine wp_scope_jumps 0 (fun a' w' => ∃ k : Nat, i ≤ k ∧ k ≤ j ∧ Fr [some (.pointer (some ⟨p, 0, none⟩)), none, none, none, some (.int .i64 k), none, none, none, none, none, none, none, none, none, none, none, none, none, none, none, none, none, none, none, none, none, none, none, none, none, none, none, none, none, none, none, none] a' ∧ w' = w) (fun a' _ => 8 * up i - (intOf (a'.tmps.getD 4 undef)).toNat) rfl ?_ ?_
  · go_wp2
    go_step3
    have hb8 : ((i : Int) % 8 != 0) = true := by
      unfold up at hj2
      simp
      omega
    have hkl : i < 8 * bs.length := by omega
    rcases Nat.lt_or_ge i j with hlt | hge
    · have hbit := HH.out i (Nat.le_refl _) hlt
      go_wp2_with (go_at_call 46; refine (bit_any HR.out hkl).mono ?_; rintro e w1 ⟨rfl, rfl⟩; rw [hbit])
      go_step3
      refine ⟨rfl, i + 1, by omega, by omega, ?_, rfl⟩
      simp only [Fr, Holes]
      repeat apply Exists.intro
      rfl
    · obtain rfl : i = j := by omega
      have hbit := HJ.out
      go_wp2_with (go_at_call 46; refine (bit_any HR.out hkl).mono ?_; rintro e w1 ⟨rfl, rfl⟩; rw [hbit])
      simp only [Exit.jump]
      exact bodyPost_ret (v := .tuple #[.slice none 0 0, .int .i64 3]) (by simp [results, Try.results25, go_sem]) rfl ⟨rfl, rfl⟩
  · rintro a' w' ⟨k, hk0, hk1, hfr, rfl⟩
    simp only [Fr, Holes] at hfr
    repeat (obtain ⟨_, hfr⟩ := hfr)
    have hb8 : ((k : Int) % 8 != 0) = true := by
      unfold up at hj2
      simp
      omega
    have hkl : k < 8 * bs.length := by omega
    rcases Nat.lt_or_ge k j with hlt | hge
    · have hbit := HH.out k hk0 hlt
      go_wp2_with (go_at_call 46; refine (bit_any HR.out hkl).mono ?_; rintro e w1 ⟨rfl, rfl⟩; rw [hbit])
      go_step3
      refine ⟨rfl, ⟨k + 1, by omega, by omega, ?_, rfl⟩, ?_⟩
      · simp only [Fr, Holes]
        repeat apply Exists.intro
        rfl
      · simp [intOf]
        omega
    · obtain rfl : k = j := by omega
      have hbit := HJ.out
      go_wp2_with (go_at_call 46; refine (bit_any HR.out hkl).mono ?_; rintro e w1 ⟨rfl, rfl⟩; rw [hbit])
      simp only [Exit.jump]
      exact bodyPost_ret (v := .tuple #[.slice none 0 0, .int .i64 3]) (by simp [results, Try.results25, go_sem]) rfl ⟨rfl, rfl⟩

set_option maxRecDepth 100000 in
set_option maxHeartbeats 1600000 in
theorem refrest_form {bs : List Nat} (A : Option Addr) (L c a : Nat) (w : World) (hs : SrcB w A (bls (bitsOf bs))) (hL : L = 8 * bs.length) (hb : bs.length ≤ 3000) (ha : a ≤ L) (j : Nat) (hj1 : a ≤ j) (hj2 : j < 8 * up a) (hj3 : bitAt bs j = true) (h : ∀ k, a ≤ k → k < j → bitAt bs k = false) :
    Calls Try.prog 26 #[.slice A L c, .int .i64 a] w fun e w' => e = .returned (.tuple #[.slice none 0 0, .int .i64 a, .int .i64 3]) ∧ w = w' := by
  have hup : up a ≤ bs.length := by unfold up; omega
  have HS := Lib.hid hs
  have HL := Lib.hid hL
  have HH := Lib.hid h
  have HJ := Lib.hid hj3
  have hLL : L ≤ 65536 := by omega
  clear hs hL hb hj3 h
  go_enter Try.func26, Try.ntmps26
  go_wp2
  go_loopw [7] (fun i wr => ∃ q : Nat, a ≤ q ∧ q ≤ j ∧ i = .int .i64 q ∧ w = wr) (fun i _ => L - (intOf i).toNat)
  case atStart => exact ⟨a, by omega, by omega, rfl, rfl⟩
  case round =>
    obtain ⟨q, hq1, hq2, rfl, rfl⟩ := hrel
    have hqL : q < 8 * bs.length := by omega
    have hqL2 : q < L := by have := HL.out; omega
    obtain ⟨b, off, rfl, hc⟩ := HS.out (by rw [length_bls, length_bitsOf]; omega)
    have hcell := hc _ _ (bls_at (bitAt_get hqL))
    have hb8 : ((q : Int) % 8 != 0) = true := by
      unfold up at hj2
      simp
      omega
    have hi0 : (0 : Int) ≤ (q : Int) := by omega
    have hi1 : (q : Int) < (L : Int) := by omega
    clear hc
    rcases Nat.lt_or_ge q j with hlt | hge
    · rw [HH.out q hq1 hlt] at hcell
      go_wp2
      go_roundw
      case rel => exact ⟨q + 1, by omega, by omega, by go_num, trivial⟩
      case measure => simp [intOf]; omega
    · obtain rfl : q = j := by omega
      rw [HJ.out] at hcell
      go_wp2
      exact bodyPost_ret (v := .tuple #[.slice none 0 0, .int .i64 a, .int .i64 3]) (by simp [results, Try.results26, go_sem]) rfl ⟨rfl, rfl⟩

set_option maxRecDepth 100000 in
set_option maxHeartbeats 1600000 in
theorem refrest_ok {bs : List Nat} (A : Option Addr) (L c a : Nat) (w : World) (hs : SrcB w A (bls (bitsOf bs))) (hL : L = 8 * bs.length) (hc : L ≤ c) (hb : bs.length ≤ 3000) (hv : ∀ b ∈ bs, b < 256) (ha : a ≤ L) (h : ∀ k, a ≤ k → k < 8 * up a → bitAt bs k = false) :
    Calls Try.prog 26 #[.slice A L c, .int .i64 a] w fun e w' => ∃ x', e = .returned (.tuple #[x', .int .i64 L, .int .i64 0]) ∧ w'.ownsRow w.heap.size 5 1 x' (bs.length - up a) (bts (bs.drop (up a))) ∧ Below w.heap.size w w' := by
  have hup : up a ≤ bs.length := by unfold up; omega
  have hlen : ((bitsOf bs).drop (8 * up a)).length = L - 8 * up a := by rw [List.length_drop, length_bitsOf, hL]
  have hrb := fun (W : World) (A' : Option Addr) (c' : Nat) (h : SrcB W A' (bls ((bitsOf bs).drop (8 * up a)))) => refbytes_any (w := W) (A := A') c' h (by rw [hlen]; omega)
  have hpl : packLen (L - 8 * up a) = bs.length - up a := by unfold packLen; omega
  rw [hlen, hpl, bitsOf_drop, pack_bitsOf (fun b hb => hv b (List.mem_of_mem_drop hb)), ← bitsOf_drop] at hrb
  have HRB := Lib.hid hrb
  have HS := Lib.hid hs
  have HL := Lib.hid hL
  have HH := Lib.hid h
  have hLL : L ≤ 65536 := by omega
  clear hs hL hb h hrb hpl hlen hv
  go_enter Try.func26, Try.ntmps26
  go_wp2
  go_loopw [7] (fun i wr => ∃ q : Nat, a ≤ q ∧ q ≤ 8 * up a ∧ i = .int .i64 q ∧ w = wr) (fun i _ => L - (intOf i).toNat)
  case atStart => exact ⟨a, by omega, by unfold up; omega, rfl, rfl⟩
  case round =>
    obtain ⟨q, hq1, hq2, rfl, rfl⟩ := hrel
    by_cases h8 : q % 8 = 0
    · have hb8 : ((q : Int) % 8 != 0) = false := by simp; omega
      obtain rfl : q = 8 * up a := by unfold up at *; omega
      rcases Nat.lt_or_ge (8 * up a) L with hlt | hge
      · obtain ⟨b, off, rfl, hc⟩ := HS.out (by rw [length_bls, length_bitsOf]; have := HL.out; omega)
        have hsrc : SrcB w (some ⟨b, off + 8 * up a, none⟩) (bls ((bitsOf bs).drop (8 * up a))) := fun _ => ⟨b, off + 8 * up a, rfl, fun j u hu => by
          have h1 := hc (8 * up a + j) u (by rw [bls, List.map_drop, List.getElem?_drop] at hu; exact hu)
          rw [← Nat.add_assoc] at h1
          exact h1⟩
        have HSR := Lib.hid hsrc
        clear hc hsrc
        go_wp2_with (go_at_call 19; have hh := HRB.out w (some ⟨b, off + 8 * up a, none⟩) (c - 8 * up a) HSR.out; refine hh.mono ?_; rintro e w1 ⟨x', rfl, ho, hb⟩; clear hh)
        refine bodyPost_ret (v := .tuple #[x', .int .i64 L, .int .i64 0]) (by simp [results, Try.results26, go_sem]) rfl ⟨_, rfl, ho, hb⟩
      · have hLm : L = 8 * up a := by have := HL.out; omega
        have hd : (bitsOf bs).drop (8 * up a) = [] := by rw [List.drop_eq_nil_iff, length_bitsOf]; have := HL.out; omega
        have hsrc : ∀ A', SrcB w A' (bls ((bitsOf bs).drop (8 * up a))) := fun A' h0 => by
          rw [hd] at h0
          exact absurd h0 (Nat.lt_irrefl 0)
        have HSR := Lib.hid hsrc
        have HRB0 := Lib.hid (fun A' c' => HRB.out w A' c' (HSR.out A'))
        rw [hLm, Nat.sub_self] at HRB0
        clear hd hsrc HRB HSR HH HL HS
        generalize hM : 8 * up a = M at *
        subst hLm
        clear hM
        by_cases hcm : c = L
        · subst hcm
          go_wp2_with (go_at_call 19; have hh := HRB0.out A 0; refine hh.mono ?_; rintro e w1 ⟨x', rfl, ho, hb⟩; clear hh)
          exact bodyPost_ret (v := .tuple #[x', .int .i64 c, .int .i64 0]) (by simp [results, Try.results26, go_sem]) rfl ⟨_, rfl, ho, hb⟩
        · have hcm2 : L < c := by omega
          have hcm3 : (L : Int) < (c : Int) := by omega
          go_wp2_with (go_at_call 19; have hh := HRB0.out (Option.map (fun x => x.add L) A) (c - L); refine hh.mono ?_; rintro e w1 ⟨x', rfl, ho, hb⟩; clear hh)
          exact bodyPost_ret (v := .tuple #[x', .int .i64 L, .int .i64 0]) (by simp [results, Try.results26, go_sem]) rfl ⟨_, rfl, ho, hb⟩
    · have hb8 : ((q : Int) % 8 != 0) = true := by simp; omega
      have hqu : q < 8 * up a := by unfold up at *; omega
      have hqL : q < 8 * bs.length := by omega
      have hqL2 : q < L := by have := HL.out; omega
      obtain ⟨b, off, rfl, hc⟩ := HS.out (by rw [length_bls, length_bitsOf]; omega)
      have hcell := hc _ _ (bls_at (bitAt_get hqL))
      have hi0 : (0 : Int) ≤ (q : Int) := by omega
      have hi1 : (q : Int) < (L : Int) := by omega
      clear hc
      rw [HH.out q hq1 hqu] at hcell
      go_wp2
      go_roundw
      case rel => exact ⟨q + 1, by omega, by omega, by go_num, trivial⟩
      case measure => simp [intOf]; omega
end Go.Proofs.Ytjilmgbjbkidnaa
