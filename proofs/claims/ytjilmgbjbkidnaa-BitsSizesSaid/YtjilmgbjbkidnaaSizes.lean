/-
  BitsSizes: bytes are as many as the bits need; what is refused changes nothing; no bits got move nothing.
-/
import Derived.Test.YtjilmgbjbkidnaaParts
import Derived.Test.YtjilmgbjbkidnaaBitsBack
namespace Go.Proofs.Ytjilmgbjbkidnaa
open Go.RowKit
attribute [local go_sem ↓] Go.wp_at_zero Go.wp_at_succ

/-- the loop: some bits were put -/
def SizesInv (B p k : Nat) (w : World) : Prop := ∃ (bl : List Bool) (sv : Value), WRep B w p sv bl ∧ bl.length ≤ 64 * k

/-- a writer's bytes, how many they are, and the text that they are -/
theorem bytes_text2 {B : Nat} (bl : List Bool) (hn : bl.length ≤ 65536) : ∃ (k : Nat) (pk : List Nat) (S : ByteArray), (k : Int) = ((bl.length : Int) + 7) / 8 ∧
    (∀ (W : World) (p : Nat) (sv : Value), WRep B W p sv bl → Calls Try.prog 18 #[.pointer (some ⟨p, 0, none⟩)] W fun e w' => ∃ g, e = .returned (.slice (some ⟨g, 0, none⟩) k k) ∧ Row w' g 5 (bts pk).toArray ∧ Below W.heap.size W w') ∧
    (∀ (W : World) (g : Nat), Row W g 5 (bts pk).toArray → (convert 35 9 (.slice (some ⟨g, 0, none⟩) k k)).run Try.prog W = .ok (.string S) W) := by
  refine ⟨packLen bl.length, pack bl, strOf (pack bl), ?_, fun W p sv h => ?_, fun W g h => ?_⟩
  · unfold packLen
    omega
  · refine (bytes_any h hn).mono ?_
    rintro e w' ⟨g, rfl, _, h1, h2⟩
    exact ⟨g, rfl, h1, h2⟩
  · have h1 := conv_str (c := packLen bl.length) h (pack_small bl)
    rw [length_pack] at h1
    exact h1

theorem sizes_wrap {x : Int} (h1 : -9223372036854775808 ≤ x) (h2 : x ≤ 9223372036854775807) : IntKind.i64.wrap x = x := by
  rw [IntKind.wrap_i64]
  omega
theorem sizes_quo {L k : Nat} (hL : L ≤ 65536) (h : (k : Int) = ((L : Int) + 7) / 8) : IntKind.i64.wrap ((IntKind.i64.wrap ((L : Int) + 7)).tdiv 8) = (k : Int) := by
  rw [sizes_wrap (x := (L : Int) + 7) (by omega) (by omega), Int.tdiv_eq_ediv_of_nonneg (by omega), sizes_wrap (by omega) (by omega), h]

theorem get_0 {p g : Nat} {bs : List Nat} (w : World) (hr : RRep w p g bs 0) :
    Calls Try.prog 22 #[.pointer (some ⟨p, 0, none⟩), .int .i64 0] w fun e w' => e = .returned (.tuple #[.int .u64 0, .int .i64 0]) ∧ RRep w' p g bs 0 ∧ Only (fun k => k = p) w w' := by
  have h := get_any 0 w hr (by omega) (by omega)
  rw [seg_zero, val_nil] at h
  exact h
theorem left_0 {w : World} {p g : Nat} {bs : List Nat} (h : RRep w p g bs 0) :
    Calls Try.prog 24 #[.pointer (some ⟨p, 0, none⟩)] w fun e w' => e = .returned (.int .i64 (8 * (bs.length : Int))) ∧ Below w.heap.size w w' := by
  have h1 := left_any h
  rw [Nat.sub_zero, Int.natCast_mul] at h1
  exact h1

set_option maxRecDepth 100000 in
set_option maxHeartbeats 6400000 in
theorem sizes_walk (A : Option Addr) (l : List (Nat × Int)) (cap : Nat) (A2 : Option Addr) (l2 : List Nat) (cap2 : Nat) (w : World) (hs : PSrc w A l) (hv : ∀ x ∈ l, x.1 < 18446744073709551616)
    (hcap2 : l2.length ≤ cap2) (_hm2 : cap2 ≤ 9223372036854775807) (hs2 : Src w A2 (bts l2)) (hb2 : ∀ b ∈ l2, b < 256) :
    Calls Try.prog 7 #[.slice A l.length cap, .slice A2 l2.length cap2] w fun e w' => e = .returned (.bool true) ∧ Below w.heap.size w w' := by
  have HS := Lib.hid hs
  have HV := Lib.hid hv
  have HS2 := Lib.hid hs2
  have HB2 := Lib.hid hb2
  clear hs hv hs2 hb2
  go_enter Try.func7, Try.ntmps7
  go_wp2_with fail
  refine (new_any w.heap.size _ (Nat.le_refl _)).mono ?_
  rintro e w1 ⟨rfl, hr1, hb1⟩
  have HI := Lib.hid (show SizesInv w.heap.size w.heap.size 0 w1 from ⟨[], _, hr1, by simp⟩)
  have HB1 := Lib.hid hb1
  clear hr1 hb1
  go_wp2_with fail
  go_loopw [6] (fun i wr => ∃ k : Nat, k ≤ l.length ∧ k ≤ 200 ∧ i = .int .i64 k ∧ SizesInv w.heap.size w.heap.size k wr ∧ Below w.heap.size w wr) (fun i _ => l.length - (intOf i).toNat)
  case atStart => exact ⟨0, by omega, by omega, rfl, HI.out, HB1.out⟩
  case round =>
    obtain ⟨k, hk, hk2, rfl, hinv, hbr⟩ := hrel
    have HINV := Lib.hid hinv
    have HBR := Lib.hid hbr
    clear hinv hbr HI HB1
    by_cases hlt : k < l.length ∧ k < 200
    · obtain ⟨hlt, hlt2⟩ := hlt
      obtain ⟨b, off, rfl, hc⟩ := HS.out (by omega)
      have hx : l[k]? = some l[k] := List.getElem?_eq_getElem hlt
      obtain ⟨c0, c1⟩ := hc k l[k] hx
      have d0 := Lib.hid (cell_below c0 rfl HBR.out)
      have d1 := Lib.hid (cell_below c1 rfl HBR.out)
      have hvk := HV.out l[k] (List.getElem_mem hlt)
      generalize l[k].1 = V at *
      generalize l[k].2 = N at *
      have hbb : b < w.heap.size := by
        rcases Nat.lt_or_ge b w.heap.size with h | h
        · exact h
        · exfalso
          simp [World.cell?, Array.getElem?_eq_none h] at c0
      clear hc hx c0 c1
      have hi0 : (0 : Int) ≤ (k : Int) := by omega
      have hi1 : (k : Int) < (l.length : Int) := by omega
      obtain ⟨bl, sv, hw, hbl⟩ := HINV.out
      obtain ⟨kk, pk, S, hkk, hby, hcv⟩ := bytes_text2 (B := w.heap.size) bl (by omega)
      have HW := Lib.hid hw
      have HBY := Lib.hid hby
      have HCV := Lib.hid hcv
      have HVK := Lib.hid hvk
      clear hw hby hcv HINV hvk
      go_wp2
      refine wp_of_frame [some (.slice (some ⟨b, off, none⟩) l.length cap), some (.slice A2 l2.length cap2), some (undef), some (undef), none, some (.pointer (some ⟨w.heap.size, 0, none⟩)), some (.int .i64 k), none, none, none, some (undef), some (undef), some (undef), some (.pointer (some ⟨w.heap.size, 0, none⟩)), none, none, none, none, none, none, none, none, none, none, none, none, none, none, none, none, none, none, none, none, none, none, none, none, none, none, none, none, none, none, none, none, none, none, none, none, none, none, none, none, none, none, none, none, none, none, none, none, none, none, none, none, none, none, none, none, none, none, none, none, none, none, none, none, none, none, none, none, some (undef), some (undef), some (undef), some (undef), some (undef), some (undef), some (undef), some (undef), some (undef), some (undef), some (undef), some (undef), some (undef), some (undef), some (undef), some (undef), some (undef), some (undef), some (undef), some (undef), some (undef), some (undef), some (undef), some (undef), some (undef), some (undef), some (undef), some (undef)] (by
        simp only [Fr, Holes]
        repeat apply Exists.intro
        rfl) ?_
      intro a' hfr
      simp only [Fr, Holes] at hfr
      repeat (obtain ⟨_, hfr⟩ := hfr)
      refine wp_region_noPanic ?_
      refine wp_region_held_drew (S := fun W => Below wr.heap.size wr W) (by kernel_rfl) (bl_drew (Below.refl _ _)) (fun hS => ?_)
      refine take_at 0 24 (v := ?v0) (by simp only [List.getElem?_toArray, List.getElem?_cons_zero]; rfl) rfl (by kernel_rfl) (by kernel_rfl) (by kernel_rfl) (fun _ _ _ h => h) (Or.inl ⟨by rfl, ?y0⟩) hS ?_
      case y0 =>
        intro W hSW
        (try dsimp only at hSW)
        go_simp
        first | done | with_reducible rfl
      simp only [Act.put, List.setIfInBounds_toArray, List.set_cons_zero, List.set_cons_succ]
      refine take_at 2 26 (v := ?v2) (by simp only [List.getElem?_toArray, List.getElem?_cons_succ, List.getElem?_cons_zero]; rfl) rfl (by kernel_rfl) (by kernel_rfl) (by kernel_rfl) (fun _ _ _ h => h) (Or.inl ⟨by rfl, ?y2⟩) hS ?_
      case y2 =>
        intro W hSW
        (try dsimp only at hSW)
        go_simp
        first | done | with_reducible rfl
      simp only [Act.put, List.setIfInBounds_toArray, List.set_cons_zero, List.set_cons_succ]
      refine wpAnyH_ready (rs := [1]) (by kernel_rfl) (by simp) ?_
      refine AllReadyH.cons rfl (fun K hK => ?_) AllReadyH.nil
      go_simp
      refine (len_any (HW.out.later hS)).mono ?_
      rintro e _ ⟨rfl, rfl⟩
      try go_simp
      refine hK.out _ _ hS (fun hS => ?_)
      clear hK K
      try simp only [Act.put, List.setIfInBounds_toArray, List.set_cons_zero, List.set_cons_succ]
      refine wpAnyH_ready (rs := [3]) (by kernel_rfl) (by simp) ?_
      refine AllReadyH.cons rfl (fun K hK => ?_) AllReadyH.nil
      go_simp
      refine (HBY.out _ _ sv (HW.out.later hS)).mono ?_
      rintro e w8 ⟨g8, rfl, hrow8, hb8⟩
      try go_simp
      refine hK.out _ _ (bl_step hS hb8) (fun hS => ?_)
      clear hK K
      try simp only [Act.put, List.setIfInBounds_toArray, List.set_cons_zero, List.set_cons_succ]
      have hBw8 : Below wr.heap.size wr w8 := hS
      refine wpAnyH_more (S' := fun W => Below w8.heap.size w8 W) ?_ (fun _ h => bl_step hBw8 h)
      clear hS
      have hS : (fun W => Below w8.heap.size w8 W) w8 := Below.refl _ _
      refine take_at 4 28 (v := ?v4) (by simp only [List.getElem?_toArray, List.getElem?_cons_succ, List.getElem?_cons_zero]; rfl) rfl (by kernel_rfl) (by kernel_rfl) (by kernel_rfl) (fun _ _ _ h => h) (Or.inl ⟨by rfl, ?y4⟩) hS ?_
      case y4 =>
        intro W hSW
        (try dsimp only at hSW)
        have hq := HCV.out W g8 (hrow8.later hSW)
        go_simp
        first | done | with_reducible rfl
      simp only [Act.put, List.setIfInBounds_toArray, List.set_cons_zero, List.set_cons_succ]
      refine take_at 5 7 (v := ?v5) (by simp only [List.getElem?_toArray, List.getElem?_cons_succ, List.getElem?_cons_zero]; rfl) rfl (by kernel_rfl) (by kernel_rfl) (by kernel_rfl) (fun _ _ _ h => h) (Or.inl ⟨by rfl, ?y5⟩) hS ?_
      case y5 =>
        intro W hSW
        (try dsimp only at hSW)
        go_simp
        first | done | with_reducible rfl
      simp only [Act.put, List.setIfInBounds_toArray, List.set_cons_zero, List.set_cons_succ]
      refine take_at 6 8 (v := ?v6) (by simp only [List.getElem?_toArray, List.getElem?_cons_succ, List.getElem?_cons_zero]; rfl) rfl (by kernel_rfl) (by kernel_rfl) (by kernel_rfl) (fun _ _ _ h => h) (Or.inl ⟨by rfl, ?y6⟩) hS ?_
      case y6 =>
        intro W hSW
        (try dsimp only at hSW)
        go_simp
        first | done | with_reducible rfl
      simp only [Act.put, List.setIfInBounds_toArray, List.set_cons_zero, List.set_cons_succ]
      refine wpAnyH_done (by kernel_rfl) ?_ _
      refine NoPanic.normal ?_
      have HW8 := Lib.hid (HW.out.later hBw8)
      have e0 := cell_later d0.out hBw8
      have e1 := cell_later d1.out hBw8
      have HBR8 := Lib.hid (bl_step HBR.out hBw8)
      clear hrow8 hb8 hBw8 HBR HW hS d0 d1
      by_cases hok : 0 ≤ N ∧ N ≤ 64 ∧ V < 2 ^ N.toNat
      · obtain ⟨hn1, hn2, hvk⟩ := hok
        obtain ⟨n, rfl⟩ : ∃ n : Nat, N = n := ⟨N.toNat, by omega⟩
        rw [Int.toNat_natCast] at hvk
        have HN2 := Lib.hid (show n ≤ 64 by omega)
        have HVN := Lib.hid hvk
        clear hn1 hn2 hvk
        go_wp2
        go_region_held3 (fun w' => w'.cell? ⟨b, off + k * 2, none⟩ = some (.int .u64 V) ∧ w'.cell? ⟨b, off + k * 2 + 1, none⟩ = some (.int .i64 n)) (go_keep) (first
          | (go_at_call 14; refine (put_any V n _ (show WRep w.heap.size w8.drew w.heap.size sv bl from HW8.out) HN2.out HVN.out (by have := HN2.out; omega) HVK.out).mono ?_; rintro e w9 ⟨rfl, hw9⟩; have HX := Lib.hid hw9; have q0 := put_keeps HW8.out hw9 hbb e0; have q1 := put_keeps HW8.out hw9 hbb e1; clear hw9))
        obtain ⟨sv9, hw9, _, hy9⟩ := HX.out
        have hbw := wrote_below (show WRep w.heap.size w8.drew w.heap.size sv bl from HW8.out) hy9
        have HBR9 := Lib.hid (HBR8.out.trans (show Below w.heap.size w8 w9 from (Below.refl _ _).drew.trans hbw))
        have hlen : (bl ++ unval V n).length = bl.length + n := by rw [List.length_append, length_unval]
        generalize bl ++ unval V n = bl9 at *
        obtain ⟨kk9, pk9, S9, hkk9, hby9, hcv9⟩ := bytes_text2 (B := w.heap.size) bl9 (by have := HN2.out; omega)
        have HBY9 := Lib.hid hby9
        have HW9 := Lib.hid hw9
        have HLEN := Lib.hid (fun W h => len_any (B := w.heap.size) (w := W) (p := w.heap.size) (sv := sv9) (bl := bl9) h)
        have hne1 : IntKind.i64.wrap ((bl9.length : Int) - (bl.length : Int)) = (n : Int) := by
          have := HN2.out
          rw [sizes_wrap (by omega) (by omega)]
          omega
        have hne2 := sizes_quo (L := bl9.length) (k := kk9) (by have := HN2.out; omega) hkk9
        have Q1 := Lib.hid q1
        have hl9 : bl9.length ≤ 64 * (k + 1) := by have := HN2.out; omega
        clear hby9 hcv9 hw9 hy9 hbw HX q0 q1 e0 e1 HBR8 HW8 HBY HCV hkk hkk9 hlen
        go_wp2
        refine wp_of_frame [some (.slice (some ⟨b, off, none⟩) l.length cap), some (.slice A2 l2.length cap2), some (undef), some (undef), none, some (.pointer (some ⟨w.heap.size, 0, none⟩)), some (.int .i64 k), some (.int .i64 bl.length), some (.string S), some (.int .i64 0), some (undef), some (undef), some (undef), some (.pointer (some ⟨w.heap.size, 0, none⟩)), none, none, none, none, none, none, none, none, none, none, none, none, none, none, none, none, none, none, none, none, none, none, none, none, none, none, none, none, none, none, none, none, none, none, none, none, none, none, none, none, none, none, none, none, none, none, none, none, none, none, none, none, none, none, none, none, none, none, none, none, none, none, none, none, none, none, none, none, some (undef), some (undef), some (undef), some (undef), some (undef), some (undef), some (undef), some (undef), some (undef), some (undef), some (undef), some (undef), some (undef), some (undef), some (undef), some (undef), some (undef), some (undef), some (undef), some (undef), some (undef), some (undef), some (undef), some (undef), some (undef), some (undef), some (undef), some (undef)] (by
          simp only [Fr, Holes]
          repeat apply Exists.intro
          rfl) ?_
        intro a' hfr
        simp only [Fr, Holes] at hfr
        repeat (obtain ⟨_, hfr⟩ := hfr)
        refine wp_region_noPanic ?_
        refine wp_region_held_drew (S := fun W => Below w9.heap.size w9 W) (by kernel_rfl) (bl_drew (Below.refl _ _)) (fun hS => ?_)
        refine take_at 0 41 (v := ?vU0) (by simp only [List.getElem?_toArray, List.getElem?_cons_zero]; rfl) rfl (by kernel_rfl) (by kernel_rfl) (by kernel_rfl) (fun _ _ _ h => h) (Or.inl ⟨by rfl, ?yU0⟩) hS ?_
        case yU0 =>
          intro W hSW
          (try dsimp only at hSW)
          go_simp
          first | done | with_reducible rfl
        simp only [Act.put, List.setIfInBounds_toArray, List.set_cons_zero, List.set_cons_succ]
        refine take_at 1 42 (v := ?vU1) (by simp only [List.getElem?_toArray, List.getElem?_cons_succ, List.getElem?_cons_zero]; rfl) rfl (by kernel_rfl) (by kernel_rfl) (by kernel_rfl) (fun _ _ _ h => h) (Or.inl ⟨by rfl, ?yU1⟩) hS ?_
        case yU1 =>
          intro W hSW
          (try dsimp only at hSW)
          go_simp
          first | done | with_reducible rfl
        simp only [Act.put, List.setIfInBounds_toArray, List.set_cons_zero, List.set_cons_succ]
        refine take_at 2 43 (v := ?vU2) (by simp only [List.getElem?_toArray, List.getElem?_cons_succ, List.getElem?_cons_zero]; rfl) rfl (by kernel_rfl) (by kernel_rfl) (by kernel_rfl) (fun _ _ _ h => h) (Or.inl ⟨by rfl, ?yU2⟩) hS ?_
        case yU2 =>
          intro W hSW
          (try dsimp only at hSW)
          go_simp
          first | done | with_reducible rfl
        simp only [Act.put, List.setIfInBounds_toArray, List.set_cons_zero, List.set_cons_succ]
        refine take_at 3 44 (v := undef) (by simp only [List.getElem?_toArray, List.getElem?_cons_succ, List.getElem?_cons_zero]; rfl) rfl (by kernel_rfl) (by kernel_rfl) (by kernel_rfl) (fun _ _ _ h => h) (Or.inr ⟨by rfl, rfl⟩) hS ?_
        simp only [Act.put, List.setIfInBounds_toArray, List.set_cons_zero, List.set_cons_succ]
        refine take_at 4 45 (v := undef) (by simp only [List.getElem?_toArray, List.getElem?_cons_succ, List.getElem?_cons_zero]; rfl) rfl (by kernel_rfl) (by kernel_rfl) (by kernel_rfl) (fun _ _ _ h => h) (Or.inr ⟨by rfl, rfl⟩) hS ?_
        simp only [Act.put, List.setIfInBounds_toArray, List.set_cons_zero, List.set_cons_succ]
        refine take_at 5 46 (v := undef) (by simp only [List.getElem?_toArray, List.getElem?_cons_succ, List.getElem?_cons_zero]; rfl) rfl (by kernel_rfl) (by kernel_rfl) (by kernel_rfl) (fun _ _ _ h => h) (Or.inr ⟨by rfl, rfl⟩) hS ?_
        simp only [Act.put, List.setIfInBounds_toArray, List.set_cons_zero, List.set_cons_succ]
        refine take_at 6 47 (v := undef) (by simp only [List.getElem?_toArray, List.getElem?_cons_succ, List.getElem?_cons_zero]; rfl) rfl (by kernel_rfl) (by kernel_rfl) (by kernel_rfl) (fun _ _ _ h => h) (Or.inr ⟨by rfl, rfl⟩) hS ?_
        simp only [Act.put, List.setIfInBounds_toArray, List.set_cons_zero, List.set_cons_succ]
        refine take_at 7 48 (v := undef) (by simp only [List.getElem?_toArray, List.getElem?_cons_succ, List.getElem?_cons_zero]; rfl) rfl (by kernel_rfl) (by kernel_rfl) (by kernel_rfl) (fun _ _ _ h => h) (Or.inr ⟨by rfl, rfl⟩) hS ?_
        simp only [Act.put, List.setIfInBounds_toArray, List.set_cons_zero, List.set_cons_succ]
        refine take_at 8 49 (v := undef) (by simp only [List.getElem?_toArray, List.getElem?_cons_succ, List.getElem?_cons_zero]; rfl) rfl (by kernel_rfl) (by kernel_rfl) (by kernel_rfl) (fun _ _ _ h => h) (Or.inr ⟨by rfl, rfl⟩) hS ?_
        simp only [Act.put, List.setIfInBounds_toArray, List.set_cons_zero, List.set_cons_succ]
        refine take_at 9 50 (v := undef) (by simp only [List.getElem?_toArray, List.getElem?_cons_succ, List.getElem?_cons_zero]; rfl) rfl (by kernel_rfl) (by kernel_rfl) (by kernel_rfl) (fun _ _ _ h => h) (Or.inr ⟨by rfl, rfl⟩) hS ?_
        simp only [Act.put, List.setIfInBounds_toArray, List.set_cons_zero, List.set_cons_succ]
        refine take_at 10 51 (v := undef) (by simp only [List.getElem?_toArray, List.getElem?_cons_succ, List.getElem?_cons_zero]; rfl) rfl (by kernel_rfl) (by kernel_rfl) (by kernel_rfl) (fun _ _ _ h => h) (Or.inr ⟨by rfl, rfl⟩) hS ?_
        simp only [Act.put, List.setIfInBounds_toArray, List.set_cons_zero, List.set_cons_succ]
        refine take_at 11 52 (v := undef) (by simp only [List.getElem?_toArray, List.getElem?_cons_succ, List.getElem?_cons_zero]; rfl) rfl (by kernel_rfl) (by kernel_rfl) (by kernel_rfl) (fun _ _ _ h => h) (Or.inr ⟨by rfl, rfl⟩) hS ?_
        simp only [Act.put, List.setIfInBounds_toArray, List.set_cons_zero, List.set_cons_succ]
        refine take_at 12 53 (v := undef) (by simp only [List.getElem?_toArray, List.getElem?_cons_succ, List.getElem?_cons_zero]; rfl) rfl (by kernel_rfl) (by kernel_rfl) (by kernel_rfl) (fun _ _ _ h => h) (Or.inr ⟨by rfl, rfl⟩) hS ?_
        simp only [Act.put, List.setIfInBounds_toArray, List.set_cons_zero, List.set_cons_succ]
        refine take_at 13 54 (v := undef) (by simp only [List.getElem?_toArray, List.getElem?_cons_succ, List.getElem?_cons_zero]; rfl) rfl (by kernel_rfl) (by kernel_rfl) (by kernel_rfl) (fun _ _ _ h => h) (Or.inr ⟨by rfl, rfl⟩) hS ?_
        simp only [Act.put, List.setIfInBounds_toArray, List.set_cons_zero, List.set_cons_succ]
        refine take_at 14 55 (v := ?vU14) (by simp only [List.getElem?_toArray, List.getElem?_cons_succ, List.getElem?_cons_zero]; rfl) rfl (by kernel_rfl) (by kernel_rfl) (by kernel_rfl) (fun _ _ _ h => h) (Or.inl ⟨by rfl, ?yU14⟩) hS ?_
        case yU14 =>
          intro W hSW
          (try dsimp only at hSW)
          go_simp
          first | done | with_reducible rfl
        simp only [Act.put, List.setIfInBounds_toArray, List.set_cons_zero, List.set_cons_succ]
        refine take_at 15 56 (v := ?vU15) (by simp only [List.getElem?_toArray, List.getElem?_cons_succ, List.getElem?_cons_zero]; rfl) rfl (by kernel_rfl) (by kernel_rfl) (by kernel_rfl) (fun _ _ _ h => h) (Or.inl ⟨by rfl, ?yU15⟩) hS ?_
        case yU15 =>
          intro W hSW
          (try dsimp only at hSW)
          go_simp
          first | done | with_reducible rfl
        simp only [Act.put, List.setIfInBounds_toArray, List.set_cons_zero, List.set_cons_succ]
        refine take_at 16 57 (v := ?vU16) (by simp only [List.getElem?_toArray, List.getElem?_cons_succ, List.getElem?_cons_zero]; rfl) rfl (by kernel_rfl) (by kernel_rfl) (by kernel_rfl) (fun _ _ _ h => h) (Or.inl ⟨by rfl, ?yU16⟩) hS ?_
        case yU16 =>
          intro W hSW
          (try dsimp only at hSW)
          go_simp
          first | done | with_reducible rfl
        simp only [Act.put, List.setIfInBounds_toArray, List.set_cons_zero, List.set_cons_succ]
        refine take_at 17 58 (v := ?vU17) (by simp only [List.getElem?_toArray, List.getElem?_cons_succ, List.getElem?_cons_zero]; rfl) rfl (by kernel_rfl) (by kernel_rfl) (by kernel_rfl) (fun _ _ _ h => h) (Or.inl ⟨by rfl, ?yU17⟩) hS ?_
        case yU17 =>
          intro W hSW
          (try dsimp only at hSW)
          go_simp
          first | done | with_reducible rfl
        simp only [Act.put, List.setIfInBounds_toArray, List.set_cons_zero, List.set_cons_succ]
        refine take_at 18 59 (v := ?vU18) (by simp only [List.getElem?_toArray, List.getElem?_cons_succ, List.getElem?_cons_zero]; rfl) rfl (by kernel_rfl) (by kernel_rfl) (by kernel_rfl) (fun _ _ _ h => h) (Or.inl ⟨by rfl, ?yU18⟩) hS ?_
        case yU18 =>
          intro W hSW
          (try dsimp only at hSW)
          go_simp
          first | done | with_reducible rfl
        simp only [Act.put, List.setIfInBounds_toArray, List.set_cons_zero, List.set_cons_succ]
        refine take_at 19 60 (v := ?vU19) (by simp only [List.getElem?_toArray, List.getElem?_cons_succ, List.getElem?_cons_zero]; rfl) rfl (by kernel_rfl) (by kernel_rfl) (by kernel_rfl) (fun _ _ _ h => h) (Or.inl ⟨by rfl, ?yU19⟩) hS ?_
        case yU19 =>
          intro W hSW
          (try dsimp only at hSW)
          go_simp
          first | done | with_reducible rfl
        simp only [Act.put, List.setIfInBounds_toArray, List.set_cons_zero, List.set_cons_succ]
        refine take_at 21 62 (v := ?vU21) (by simp only [List.getElem?_toArray, List.getElem?_cons_succ, List.getElem?_cons_zero]; rfl) rfl (by kernel_rfl) (by kernel_rfl) (by kernel_rfl) (fun _ _ _ h => h) (Or.inl ⟨by rfl, ?yU21⟩) hS ?_
        case yU21 =>
          intro W hSW
          (try dsimp only at hSW)
          go_simp
          first | done | with_reducible rfl
        simp only [Act.put, List.setIfInBounds_toArray, List.set_cons_zero, List.set_cons_succ]
        refine take_at 23 64 (v := ?vU23) (by simp only [List.getElem?_toArray, List.getElem?_cons_succ, List.getElem?_cons_zero]; rfl) rfl (by kernel_rfl) (by kernel_rfl) (by kernel_rfl) (fun _ _ _ h => h) (Or.inl ⟨by rfl, ?yU23⟩) hS ?_
        case yU23 =>
          intro W hSW
          (try dsimp only at hSW)
          go_simp
          first | done | with_reducible rfl
        simp only [Act.put, List.setIfInBounds_toArray, List.set_cons_zero, List.set_cons_succ]
        refine take_at 24 65 (v := ?vU24) (by simp only [List.getElem?_toArray, List.getElem?_cons_succ, List.getElem?_cons_zero]; rfl) rfl (by kernel_rfl) (by kernel_rfl) (by kernel_rfl) (fun _ _ _ h => h) (Or.inl ⟨by rfl, ?yU24⟩) hS ?_
        case yU24 =>
          intro W hSW
          (try dsimp only at hSW)
          go_simp
          first | done | with_reducible rfl
        simp only [Act.put, List.setIfInBounds_toArray, List.set_cons_zero, List.set_cons_succ]
        refine take_at 25 66 (v := ?vU25) (by simp only [List.getElem?_toArray, List.getElem?_cons_succ, List.getElem?_cons_zero]; rfl) rfl (by kernel_rfl) (by kernel_rfl) (by kernel_rfl) (fun _ _ _ h => h) (Or.inl ⟨by rfl, ?yU25⟩) hS ?_
        case yU25 =>
          intro W hSW
          (try dsimp only at hSW)
          go_simp
          first | done | with_reducible rfl
        simp only [Act.put, List.setIfInBounds_toArray, List.set_cons_zero, List.set_cons_succ]
        refine take_at 26 67 (v := ?vU26) (by simp only [List.getElem?_toArray, List.getElem?_cons_succ, List.getElem?_cons_zero]; rfl) rfl (by kernel_rfl) (by kernel_rfl) (by kernel_rfl) (fun _ _ _ h => h) (Or.inl ⟨by rfl, ?yU26⟩) hS ?_
        case yU26 =>
          intro W hSW
          (try dsimp only at hSW)
          go_simp
          first | done | with_reducible rfl
        simp only [Act.put, List.setIfInBounds_toArray, List.set_cons_zero, List.set_cons_succ]
        refine take_at 27 68 (v := ?vU27) (by simp only [List.getElem?_toArray, List.getElem?_cons_succ, List.getElem?_cons_zero]; rfl) rfl (by kernel_rfl) (by kernel_rfl) (by kernel_rfl) (fun _ _ _ h => h) (Or.inl ⟨by rfl, ?yU27⟩) hS ?_
        case yU27 =>
          intro W hSW
          (try dsimp only at hSW)
          have hq := cell_later Q1.out hSW
          go_simp
          first | done | with_reducible rfl
        simp only [Act.put, List.setIfInBounds_toArray, List.set_cons_zero, List.set_cons_succ]
        refine wpAnyH_ready (rs := [20]) (by kernel_rfl) (by simp) ?_
        refine AllReadyH.cons rfl (fun K hK => ?_) AllReadyH.nil
        go_simp
        refine (HLEN.out _ (HW9.out.later hS)).mono ?_
        rintro e _ ⟨rfl, rfl⟩
        try go_simp
        refine hK.out _ _ hS (fun hS => ?_)
        clear hK K
        try simp only [Act.put, List.setIfInBounds_toArray, List.set_cons_zero, List.set_cons_succ]
        refine take_at 22 63 (v := ?vU22) (by simp only [List.getElem?_toArray, List.getElem?_cons_succ, List.getElem?_cons_zero]; rfl) rfl (by kernel_rfl) (by kernel_rfl) (by kernel_rfl) (fun _ _ _ h => h) (Or.inl ⟨by rfl, ?yU22⟩) hS ?_
        case yU22 =>
          intro W hSW
          (try dsimp only at hSW)
          go_simp
          first | done | with_reducible rfl
        simp only [Act.put, List.setIfInBounds_toArray, List.set_cons_zero, List.set_cons_succ]
        refine take_at 28 69 (v := ?vU28) (by simp only [List.getElem?_toArray, List.getElem?_cons_succ, List.getElem?_cons_zero]; rfl) rfl (by kernel_rfl) (by kernel_rfl) (by kernel_rfl) (fun _ _ _ h => h) (Or.inl ⟨by rfl, ?yU28⟩) hS ?_
        case yU28 =>
          intro W hSW
          (try dsimp only at hSW)
          go_simp
          first | done | with_reducible rfl
        simp only [Act.put, List.setIfInBounds_toArray, List.set_cons_zero, List.set_cons_succ]
        refine take_at 29 70 (v := ?vU29) (by simp only [List.getElem?_toArray, List.getElem?_cons_succ, List.getElem?_cons_zero]; rfl) rfl (by kernel_rfl) (by kernel_rfl) (by kernel_rfl) (fun _ _ _ h => h) (Or.inl ⟨by rfl, ?yU29⟩) hS ?_
        case yU29 =>
          intro W hSW
          (try dsimp only at hSW)
          go_simp
          first | done | with_reducible rfl
        simp only [Act.put, List.setIfInBounds_toArray, List.set_cons_zero, List.set_cons_succ]
        refine take_at 30 71 (v := ?vU30) (by simp only [List.getElem?_toArray, List.getElem?_cons_succ, List.getElem?_cons_zero]; rfl) rfl (by kernel_rfl) (by kernel_rfl) (by kernel_rfl) (fun _ _ _ h => h) (Or.inl ⟨by rfl, ?yU30⟩) hS ?_
        case yU30 =>
          intro W hSW
          (try dsimp only at hSW)
          go_simp
          first | done | with_reducible rfl
        simp only [Act.put, List.setIfInBounds_toArray, List.set_cons_zero, List.set_cons_succ]
        refine take_at 31 72 (v := ?vU31) (by simp only [List.getElem?_toArray, List.getElem?_cons_succ, List.getElem?_cons_zero]; rfl) rfl (by kernel_rfl) (by kernel_rfl) (by kernel_rfl) (fun _ _ _ h => h) (Or.inl ⟨by rfl, ?yU31⟩) hS ?_
        case yU31 =>
          intro W hSW
          (try dsimp only at hSW)
          go_simp
          first | done | with_reducible rfl
        simp only [Act.put, List.setIfInBounds_toArray, List.set_cons_zero, List.set_cons_succ]
        refine take_at 32 73 (v := ?vU32) (by simp only [List.getElem?_toArray, List.getElem?_cons_succ, List.getElem?_cons_zero]; rfl) rfl (by kernel_rfl) (by kernel_rfl) (by kernel_rfl) (fun _ _ _ h => h) (Or.inl ⟨by rfl, ?yU32⟩) hS ?_
        case yU32 =>
          intro W hSW
          (try dsimp only at hSW)
          go_simp
          first | done | with_reducible rfl
        simp only [Act.put, List.setIfInBounds_toArray, List.set_cons_zero, List.set_cons_succ]
        refine take_at 35 76 (v := ?vU35) (by simp only [List.getElem?_toArray, List.getElem?_cons_succ, List.getElem?_cons_zero]; rfl) rfl (by kernel_rfl) (by kernel_rfl) (by kernel_rfl) (fun _ _ _ h => h) (Or.inl ⟨by rfl, ?yU35⟩) hS ?_
        case yU35 =>
          intro W hSW
          (try dsimp only at hSW)
          go_simp
          first | done | with_reducible rfl
        simp only [Act.put, List.setIfInBounds_toArray, List.set_cons_zero, List.set_cons_succ]
        refine wpAnyH_ready (rs := [33]) (by kernel_rfl) (by simp) ?_
        refine AllReadyH.cons rfl (fun K hK => ?_) AllReadyH.nil
        go_simp
        refine (HBY9.out _ _ _ (HW9.out.later hS)).mono ?_
        rintro e w11 ⟨g11, rfl, hrow11, hb11⟩
        try go_simp
        refine hK.out _ _ (bl_step hS hb11) (fun hS => ?_)
        clear hK K
        try simp only [Act.put, List.setIfInBounds_toArray, List.set_cons_zero, List.set_cons_succ]
        have hBw11 : Below w9.heap.size w9 w11 := hS
        refine wpAnyH_more (S' := fun W => Below w11.heap.size w11 W) ?_ (fun _ h => bl_step hBw11 h)
        clear hS
        have hS : (fun W => Below w11.heap.size w11 W) w11 := Below.refl _ _
        refine take_at 34 75 (v := ?vU34) (by simp only [List.getElem?_toArray, List.getElem?_cons_succ, List.getElem?_cons_zero]; rfl) rfl (by kernel_rfl) (by kernel_rfl) (by kernel_rfl) (fun _ _ _ h => h) (Or.inl ⟨by rfl, ?yU34⟩) hS ?_
        case yU34 =>
          intro W hSW
          (try dsimp only at hSW)
          go_simp
          first | done | with_reducible rfl
        simp only [Act.put, List.setIfInBounds_toArray, List.set_cons_zero, List.set_cons_succ]
        refine wpAnyH_ready (rs := [36]) (by kernel_rfl) (by simp) ?_
        refine AllReadyH.cons rfl (fun K hK => ?_) AllReadyH.nil
        go_simp
        refine (HLEN.out _ ((HW9.out.later hBw11).later hS)).mono ?_
        rintro e _ ⟨rfl, rfl⟩
        try go_simp
        refine hK.out _ _ hS (fun hS => ?_)
        clear hK K
        try simp only [Act.put, List.setIfInBounds_toArray, List.set_cons_zero, List.set_cons_succ]
        refine take_at 37 78 (v := ?vU37) (by simp only [List.getElem?_toArray, List.getElem?_cons_succ, List.getElem?_cons_zero]; rfl) rfl (by kernel_rfl) (by kernel_rfl) (by kernel_rfl) (fun _ _ _ h => h) (Or.inl ⟨by rfl, ?yU37⟩) hS ?_
        case yU37 =>
          intro W hSW
          (try dsimp only at hSW)
          go_simp
          first | done | with_reducible rfl
        simp only [Act.put, List.setIfInBounds_toArray, List.set_cons_zero, List.set_cons_succ]
        refine take_at 38 79 (v := ?vU38) (by simp only [List.getElem?_toArray, List.getElem?_cons_succ, List.getElem?_cons_zero]; rfl) rfl (by kernel_rfl) (by kernel_rfl) (by kernel_rfl) (fun _ _ _ h => h) (Or.inl ⟨by rfl, ?yU38⟩) hS ?_
        case yU38 =>
          intro W hSW
          (try dsimp only at hSW)
          go_simp
          first | done | with_reducible rfl
        simp only [Act.put, List.setIfInBounds_toArray, List.set_cons_zero, List.set_cons_succ]
        refine take_at 39 80 (v := ?vU39) (by simp only [List.getElem?_toArray, List.getElem?_cons_succ, List.getElem?_cons_zero]; rfl) rfl (by kernel_rfl) (by kernel_rfl) (by kernel_rfl) (fun _ _ _ h => h) (Or.inl ⟨by rfl, ?yU39⟩) hS ?_
        case yU39 =>
          intro W hSW
          (try dsimp only at hSW)
          go_simp
          first | done | with_reducible rfl
        simp only [Act.put, List.setIfInBounds_toArray, List.set_cons_zero, List.set_cons_succ]
        refine take_at 40 81 (v := ?vU40) (by simp only [List.getElem?_toArray, List.getElem?_cons_succ, List.getElem?_cons_zero]; rfl) rfl (by kernel_rfl) (by kernel_rfl) (by kernel_rfl) (fun _ _ _ h => h) (Or.inl ⟨by rfl, ?yU40⟩) hS ?_
        case yU40 =>
          intro W hSW
          (try dsimp only at hSW)
          go_simp
          first | done | with_reducible rfl
        simp only [Act.put, List.setIfInBounds_toArray, List.set_cons_zero, List.set_cons_succ]
        refine wpAnyH_done (by kernel_rfl) ?_ _
        refine NoPanic.normal ?_
        go_wp2
        go_roundw
        case rel => exact ⟨k + 1, by omega, by omega, by go_num, ⟨bl9, sv9, (HW9.out.later hBw11).later hS, hl9⟩, bl_step (bl_step HBR9.out hBw11) hS⟩
        case measure => simp [intOf]; omega
      · have HBAD := Lib.hid hok
        clear hok
        go_wp2
        go_region_held3 (fun w' => w'.cell? ⟨b, off + k * 2, none⟩ = some (.int .u64 V) ∧ w'.cell? ⟨b, off + k * 2 + 1, none⟩ = some (.int .i64 N)) (go_keep) (first
          | (go_at_call 14; refine (put_bad _ V N _ HBAD.out).mono ?_; rintro e _ ⟨rfl, rfl⟩))
        have HW8D := Lib.hid (show WRep w.heap.size w8.drew w.heap.size sv bl from HW8.out)
        have hne2 := sizes_quo (L := bl.length) (k := kk) (by omega) hkk
        go_wp2
        refine wp_of_frame [some (.slice (some ⟨b, off, none⟩) l.length cap), some (.slice A2 l2.length cap2), some (undef), some (undef), none, some (.pointer (some ⟨w.heap.size, 0, none⟩)), some (.int .i64 k), some (.int .i64 bl.length), some (.string S), some (.int .i64 1), some (undef), some (undef), some (undef), some (.pointer (some ⟨w.heap.size, 0, none⟩)), none, none, none, none, none, none, none, none, none, none, none, none, none, none, none, none, none, none, none, none, none, none, none, none, none, none, none, none, none, none, none, none, none, none, none, none, none, none, none, none, none, none, none, none, none, none, none, none, none, none, none, none, none, none, none, none, none, none, none, none, none, none, none, none, none, none, none, none, some (undef), some (undef), some (undef), some (undef), some (undef), some (undef), some (undef), some (undef), some (undef), some (undef), some (undef), some (undef), some (undef), some (undef), some (undef), some (undef), some (undef), some (undef), some (undef), some (undef), some (undef), some (undef), some (undef), some (undef), some (undef), some (undef), some (undef), some (undef)] (by
          simp only [Fr, Holes]
          repeat apply Exists.intro
          rfl) ?_
        intro a' hfr
        simp only [Fr, Holes] at hfr
        repeat (obtain ⟨_, hfr⟩ := hfr)
        refine wp_region_noPanic ?_
        refine wp_region_held_drew (S := fun W => Below w8.drew.heap.size w8.drew W) (by kernel_rfl) (bl_drew (Below.refl _ _)) (fun hS => ?_)
        refine take_at 0 41 (v := ?vT0) (by simp only [List.getElem?_toArray, List.getElem?_cons_zero]; rfl) rfl (by kernel_rfl) (by kernel_rfl) (by kernel_rfl) (fun _ _ _ h => h) (Or.inl ⟨by rfl, ?yT0⟩) hS ?_
        case yT0 =>
          intro W hSW
          (try dsimp only at hSW)
          go_simp
          first | done | with_reducible rfl
        simp only [Act.put, List.setIfInBounds_toArray, List.set_cons_zero, List.set_cons_succ]
        refine take_at 1 42 (v := ?vT1) (by simp only [List.getElem?_toArray, List.getElem?_cons_succ, List.getElem?_cons_zero]; rfl) rfl (by kernel_rfl) (by kernel_rfl) (by kernel_rfl) (fun _ _ _ h => h) (Or.inl ⟨by rfl, ?yT1⟩) hS ?_
        case yT1 =>
          intro W hSW
          (try dsimp only at hSW)
          go_simp
          first | done | with_reducible rfl
        simp only [Act.put, List.setIfInBounds_toArray, List.set_cons_zero, List.set_cons_succ]
        refine take_at 2 43 (v := ?vT2) (by simp only [List.getElem?_toArray, List.getElem?_cons_succ, List.getElem?_cons_zero]; rfl) rfl (by kernel_rfl) (by kernel_rfl) (by kernel_rfl) (fun _ _ _ h => h) (Or.inl ⟨by rfl, ?yT2⟩) hS ?_
        case yT2 =>
          intro W hSW
          (try dsimp only at hSW)
          go_simp
          first | done | with_reducible rfl
        simp only [Act.put, List.setIfInBounds_toArray, List.set_cons_zero, List.set_cons_succ]
        refine take_at 3 44 (v := ?vT3) (by simp only [List.getElem?_toArray, List.getElem?_cons_succ, List.getElem?_cons_zero]; rfl) rfl (by kernel_rfl) (by kernel_rfl) (by kernel_rfl) (fun _ _ _ h => h) (Or.inl ⟨by rfl, ?yT3⟩) hS ?_
        case yT3 =>
          intro W hSW
          (try dsimp only at hSW)
          go_simp
          first | done | with_reducible rfl
        simp only [Act.put, List.setIfInBounds_toArray, List.set_cons_zero, List.set_cons_succ]
        refine take_at 5 46 (v := ?vT5) (by simp only [List.getElem?_toArray, List.getElem?_cons_succ, List.getElem?_cons_zero]; rfl) rfl (by kernel_rfl) (by kernel_rfl) (by kernel_rfl) (fun _ _ _ h => h) (Or.inl ⟨by rfl, ?yT5⟩) hS ?_
        case yT5 =>
          intro W hSW
          (try dsimp only at hSW)
          go_simp
          first | done | with_reducible rfl
        simp only [Act.put, List.setIfInBounds_toArray, List.set_cons_zero, List.set_cons_succ]
        refine wpAnyH_ready (rs := [4]) (by kernel_rfl) (by simp) ?_
        refine AllReadyH.cons rfl (fun K hK => ?_) AllReadyH.nil
        go_simp
        refine (len_any (HW8D.out.later hS)).mono ?_
        rintro e _ ⟨rfl, rfl⟩
        try go_simp
        refine hK.out _ _ hS (fun hS => ?_)
        clear hK K
        try simp only [Act.put, List.setIfInBounds_toArray, List.set_cons_zero, List.set_cons_succ]
        refine take_at 6 47 (v := ?vT6) (by simp only [List.getElem?_toArray, List.getElem?_cons_succ, List.getElem?_cons_zero]; rfl) rfl (by kernel_rfl) (by kernel_rfl) (by kernel_rfl) (fun _ _ _ h => h) (Or.inl ⟨by rfl, ?yT6⟩) hS ?_
        case yT6 =>
          intro W hSW
          (try dsimp only at hSW)
          go_simp
          first | done | with_reducible rfl
        simp only [Act.put, List.setIfInBounds_toArray, List.set_cons_zero, List.set_cons_succ]
        refine take_at 7 48 (v := ?vT7) (by simp only [List.getElem?_toArray, List.getElem?_cons_succ, List.getElem?_cons_zero]; rfl) rfl (by kernel_rfl) (by kernel_rfl) (by kernel_rfl) (fun _ _ _ h => h) (Or.inl ⟨by rfl, ?yT7⟩) hS ?_
        case yT7 =>
          intro W hSW
          (try dsimp only at hSW)
          go_simp
          first | done | with_reducible rfl
        simp only [Act.put, List.setIfInBounds_toArray, List.set_cons_zero, List.set_cons_succ]
        refine take_at 8 49 (v := ?vT8) (by simp only [List.getElem?_toArray, List.getElem?_cons_succ, List.getElem?_cons_zero]; rfl) rfl (by kernel_rfl) (by kernel_rfl) (by kernel_rfl) (fun _ _ _ h => h) (Or.inl ⟨by rfl, ?yT8⟩) hS ?_
        case yT8 =>
          intro W hSW
          (try dsimp only at hSW)
          go_simp
          first | done | with_reducible rfl
        simp only [Act.put, List.setIfInBounds_toArray, List.set_cons_zero, List.set_cons_succ]
        refine take_at 11 52 (v := ?vT11) (by simp only [List.getElem?_toArray, List.getElem?_cons_succ, List.getElem?_cons_zero]; rfl) rfl (by kernel_rfl) (by kernel_rfl) (by kernel_rfl) (fun _ _ _ h => h) (Or.inl ⟨by rfl, ?yT11⟩) hS ?_
        case yT11 =>
          intro W hSW
          (try dsimp only at hSW)
          go_simp
          first | done | with_reducible rfl
        simp only [Act.put, List.setIfInBounds_toArray, List.set_cons_zero, List.set_cons_succ]
        refine wpAnyH_ready (rs := [9]) (by kernel_rfl) (by simp) ?_
        refine AllReadyH.cons rfl (fun K hK => ?_) AllReadyH.nil
        go_simp
        refine (HBY.out _ _ sv (HW8D.out.later hS)).mono ?_
        rintro e w10 ⟨g10, rfl, hrow10, hb10⟩
        try go_simp
        refine hK.out _ _ (bl_step hS hb10) (fun hS => ?_)
        clear hK K
        try simp only [Act.put, List.setIfInBounds_toArray, List.set_cons_zero, List.set_cons_succ]
        have hBw10 : Below w8.drew.heap.size w8.drew w10 := hS
        refine wpAnyH_more (S' := fun W => Below w10.heap.size w10 W) ?_ (fun _ h => bl_step hBw10 h)
        clear hS
        have hS : (fun W => Below w10.heap.size w10 W) w10 := Below.refl _ _
        refine take_at 10 51 (v := ?vT10) (by simp only [List.getElem?_toArray, List.getElem?_cons_succ, List.getElem?_cons_zero]; rfl) rfl (by kernel_rfl) (by kernel_rfl) (by kernel_rfl) (fun _ _ _ h => h) (Or.inl ⟨by rfl, ?yT10⟩) hS ?_
        case yT10 =>
          intro W hSW
          (try dsimp only at hSW)
          have hq := HCV.out W g10 (hrow10.later hSW)
          go_simp
          first | done | with_reducible rfl
        simp only [Act.put, List.setIfInBounds_toArray, List.set_cons_zero, List.set_cons_succ]
        refine take_at 12 53 (v := ?vT12) (by simp only [List.getElem?_toArray, List.getElem?_cons_succ, List.getElem?_cons_zero]; rfl) rfl (by kernel_rfl) (by kernel_rfl) (by kernel_rfl) (fun _ _ _ h => h) (Or.inl ⟨by rfl, ?yT12⟩) hS ?_
        case yT12 =>
          intro W hSW
          (try dsimp only at hSW)
          go_simp
          first | done | with_reducible rfl
        simp only [Act.put, List.setIfInBounds_toArray, List.set_cons_zero, List.set_cons_succ]
        refine take_at 13 54 (v := ?vT13) (by simp only [List.getElem?_toArray, List.getElem?_cons_succ, List.getElem?_cons_zero]; rfl) rfl (by kernel_rfl) (by kernel_rfl) (by kernel_rfl) (fun _ _ _ h => h) (Or.inl ⟨by rfl, ?yT13⟩) hS ?_
        case yT13 =>
          intro W hSW
          (try dsimp only at hSW)
          go_simp
          first | done | with_reducible rfl
        simp only [Act.put, List.setIfInBounds_toArray, List.set_cons_zero, List.set_cons_succ]
        refine take_at 14 55 (v := ?vT14) (by simp only [List.getElem?_toArray, List.getElem?_cons_succ, List.getElem?_cons_zero]; rfl) rfl (by kernel_rfl) (by kernel_rfl) (by kernel_rfl) (fun _ _ _ h => h) (Or.inl ⟨by rfl, ?yT14⟩) hS ?_
        case yT14 =>
          intro W hSW
          (try dsimp only at hSW)
          go_simp
          first | done | with_reducible rfl
        simp only [Act.put, List.setIfInBounds_toArray, List.set_cons_zero, List.set_cons_succ]
        refine take_at 15 56 (v := ?vT15) (by simp only [List.getElem?_toArray, List.getElem?_cons_succ, List.getElem?_cons_zero]; rfl) rfl (by kernel_rfl) (by kernel_rfl) (by kernel_rfl) (fun _ _ _ h => h) (Or.inl ⟨by rfl, ?yT15⟩) hS ?_
        case yT15 =>
          intro W hSW
          (try dsimp only at hSW)
          go_simp
          first | done | with_reducible rfl
        simp only [Act.put, List.setIfInBounds_toArray, List.set_cons_zero, List.set_cons_succ]
        refine take_at 16 57 (v := ?vT16) (by simp only [List.getElem?_toArray, List.getElem?_cons_succ, List.getElem?_cons_zero]; rfl) rfl (by kernel_rfl) (by kernel_rfl) (by kernel_rfl) (fun _ _ _ h => h) (Or.inl ⟨by rfl, ?yT16⟩) hS ?_
        case yT16 =>
          intro W hSW
          (try dsimp only at hSW)
          go_simp
          first | done | with_reducible rfl
        simp only [Act.put, List.setIfInBounds_toArray, List.set_cons_zero, List.set_cons_succ]
        refine take_at 17 58 (v := ?vT17) (by simp only [List.getElem?_toArray, List.getElem?_cons_succ, List.getElem?_cons_zero]; rfl) rfl (by kernel_rfl) (by kernel_rfl) (by kernel_rfl) (fun _ _ _ h => h) (Or.inl ⟨by rfl, ?yT17⟩) hS ?_
        case yT17 =>
          intro W hSW
          (try dsimp only at hSW)
          go_simp
          first | done | with_reducible rfl
        simp only [Act.put, List.setIfInBounds_toArray, List.set_cons_zero, List.set_cons_succ]
        refine take_at 18 59 (v := ?vT18) (by simp only [List.getElem?_toArray, List.getElem?_cons_succ, List.getElem?_cons_zero]; rfl) rfl (by kernel_rfl) (by kernel_rfl) (by kernel_rfl) (fun _ _ _ h => h) (Or.inl ⟨by rfl, ?yT18⟩) hS ?_
        case yT18 =>
          intro W hSW
          (try dsimp only at hSW)
          go_simp
          first | done | with_reducible rfl
        simp only [Act.put, List.setIfInBounds_toArray, List.set_cons_zero, List.set_cons_succ]
        refine take_at 19 60 (v := undef) (by simp only [List.getElem?_toArray, List.getElem?_cons_succ, List.getElem?_cons_zero]; rfl) rfl (by kernel_rfl) (by kernel_rfl) (by kernel_rfl) (fun _ _ _ h => h) (Or.inr ⟨by rfl, rfl⟩) hS ?_
        simp only [Act.put, List.setIfInBounds_toArray, List.set_cons_zero, List.set_cons_succ]
        refine take_at 20 61 (v := undef) (by simp only [List.getElem?_toArray, List.getElem?_cons_succ, List.getElem?_cons_zero]; rfl) rfl (by kernel_rfl) (by kernel_rfl) (by kernel_rfl) (fun _ _ _ h => h) (Or.inr ⟨by rfl, rfl⟩) hS ?_
        simp only [Act.put, List.setIfInBounds_toArray, List.set_cons_zero, List.set_cons_succ]
        refine take_at 21 62 (v := undef) (by simp only [List.getElem?_toArray, List.getElem?_cons_succ, List.getElem?_cons_zero]; rfl) rfl (by kernel_rfl) (by kernel_rfl) (by kernel_rfl) (fun _ _ _ h => h) (Or.inr ⟨by rfl, rfl⟩) hS ?_
        simp only [Act.put, List.setIfInBounds_toArray, List.set_cons_zero, List.set_cons_succ]
        refine take_at 22 63 (v := undef) (by simp only [List.getElem?_toArray, List.getElem?_cons_succ, List.getElem?_cons_zero]; rfl) rfl (by kernel_rfl) (by kernel_rfl) (by kernel_rfl) (fun _ _ _ h => h) (Or.inr ⟨by rfl, rfl⟩) hS ?_
        simp only [Act.put, List.setIfInBounds_toArray, List.set_cons_zero, List.set_cons_succ]
        refine take_at 23 64 (v := undef) (by simp only [List.getElem?_toArray, List.getElem?_cons_succ, List.getElem?_cons_zero]; rfl) rfl (by kernel_rfl) (by kernel_rfl) (by kernel_rfl) (fun _ _ _ h => h) (Or.inr ⟨by rfl, rfl⟩) hS ?_
        simp only [Act.put, List.setIfInBounds_toArray, List.set_cons_zero, List.set_cons_succ]
        refine take_at 24 65 (v := undef) (by simp only [List.getElem?_toArray, List.getElem?_cons_succ, List.getElem?_cons_zero]; rfl) rfl (by kernel_rfl) (by kernel_rfl) (by kernel_rfl) (fun _ _ _ h => h) (Or.inr ⟨by rfl, rfl⟩) hS ?_
        simp only [Act.put, List.setIfInBounds_toArray, List.set_cons_zero, List.set_cons_succ]
        refine take_at 25 66 (v := undef) (by simp only [List.getElem?_toArray, List.getElem?_cons_succ, List.getElem?_cons_zero]; rfl) rfl (by kernel_rfl) (by kernel_rfl) (by kernel_rfl) (fun _ _ _ h => h) (Or.inr ⟨by rfl, rfl⟩) hS ?_
        simp only [Act.put, List.setIfInBounds_toArray, List.set_cons_zero, List.set_cons_succ]
        refine take_at 26 67 (v := undef) (by simp only [List.getElem?_toArray, List.getElem?_cons_succ, List.getElem?_cons_zero]; rfl) rfl (by kernel_rfl) (by kernel_rfl) (by kernel_rfl) (fun _ _ _ h => h) (Or.inr ⟨by rfl, rfl⟩) hS ?_
        simp only [Act.put, List.setIfInBounds_toArray, List.set_cons_zero, List.set_cons_succ]
        refine take_at 27 68 (v := undef) (by simp only [List.getElem?_toArray, List.getElem?_cons_succ, List.getElem?_cons_zero]; rfl) rfl (by kernel_rfl) (by kernel_rfl) (by kernel_rfl) (fun _ _ _ h => h) (Or.inr ⟨by rfl, rfl⟩) hS ?_
        simp only [Act.put, List.setIfInBounds_toArray, List.set_cons_zero, List.set_cons_succ]
        refine take_at 28 69 (v := undef) (by simp only [List.getElem?_toArray, List.getElem?_cons_succ, List.getElem?_cons_zero]; rfl) rfl (by kernel_rfl) (by kernel_rfl) (by kernel_rfl) (fun _ _ _ h => h) (Or.inr ⟨by rfl, rfl⟩) hS ?_
        simp only [Act.put, List.setIfInBounds_toArray, List.set_cons_zero, List.set_cons_succ]
        refine take_at 29 70 (v := ?vT29) (by simp only [List.getElem?_toArray, List.getElem?_cons_succ, List.getElem?_cons_zero]; rfl) rfl (by kernel_rfl) (by kernel_rfl) (by kernel_rfl) (fun _ _ _ h => h) (Or.inl ⟨by rfl, ?yT29⟩) hS ?_
        case yT29 =>
          intro W hSW
          (try dsimp only at hSW)
          go_simp
          first | done | with_reducible rfl
        simp only [Act.put, List.setIfInBounds_toArray, List.set_cons_zero, List.set_cons_succ]
        refine take_at 30 71 (v := ?vT30) (by simp only [List.getElem?_toArray, List.getElem?_cons_succ, List.getElem?_cons_zero]; rfl) rfl (by kernel_rfl) (by kernel_rfl) (by kernel_rfl) (fun _ _ _ h => h) (Or.inl ⟨by rfl, ?yT30⟩) hS ?_
        case yT30 =>
          intro W hSW
          (try dsimp only at hSW)
          go_simp
          first | done | with_reducible rfl
        simp only [Act.put, List.setIfInBounds_toArray, List.set_cons_zero, List.set_cons_succ]
        refine take_at 31 72 (v := ?vT31) (by simp only [List.getElem?_toArray, List.getElem?_cons_succ, List.getElem?_cons_zero]; rfl) rfl (by kernel_rfl) (by kernel_rfl) (by kernel_rfl) (fun _ _ _ h => h) (Or.inl ⟨by rfl, ?yT31⟩) hS ?_
        case yT31 =>
          intro W hSW
          (try dsimp only at hSW)
          go_simp
          first | done | with_reducible rfl
        simp only [Act.put, List.setIfInBounds_toArray, List.set_cons_zero, List.set_cons_succ]
        refine take_at 32 73 (v := ?vT32) (by simp only [List.getElem?_toArray, List.getElem?_cons_succ, List.getElem?_cons_zero]; rfl) rfl (by kernel_rfl) (by kernel_rfl) (by kernel_rfl) (fun _ _ _ h => h) (Or.inl ⟨by rfl, ?yT32⟩) hS ?_
        case yT32 =>
          intro W hSW
          (try dsimp only at hSW)
          go_simp
          first | done | with_reducible rfl
        simp only [Act.put, List.setIfInBounds_toArray, List.set_cons_zero, List.set_cons_succ]
        refine take_at 35 76 (v := ?vT35) (by simp only [List.getElem?_toArray, List.getElem?_cons_succ, List.getElem?_cons_zero]; rfl) rfl (by kernel_rfl) (by kernel_rfl) (by kernel_rfl) (fun _ _ _ h => h) (Or.inl ⟨by rfl, ?yT35⟩) hS ?_
        case yT35 =>
          intro W hSW
          (try dsimp only at hSW)
          go_simp
          first | done | with_reducible rfl
        simp only [Act.put, List.setIfInBounds_toArray, List.set_cons_zero, List.set_cons_succ]
        refine wpAnyH_ready (rs := [33]) (by kernel_rfl) (by simp) ?_
        refine AllReadyH.cons rfl (fun K hK => ?_) AllReadyH.nil
        go_simp
        refine (HBY.out _ _ sv ((HW8D.out.later hBw10).later hS)).mono ?_
        rintro e w11 ⟨g11, rfl, hrow11, hb11⟩
        try go_simp
        refine hK.out _ _ (bl_step hS hb11) (fun hS => ?_)
        clear hK K
        try simp only [Act.put, List.setIfInBounds_toArray, List.set_cons_zero, List.set_cons_succ]
        have hBw11 : Below w10.heap.size w10 w11 := hS
        refine wpAnyH_more (S' := fun W => Below w11.heap.size w11 W) ?_ (fun _ h => bl_step hBw11 h)
        clear hS
        have hS : (fun W => Below w11.heap.size w11 W) w11 := Below.refl _ _
        refine take_at 34 75 (v := ?vT34) (by simp only [List.getElem?_toArray, List.getElem?_cons_succ, List.getElem?_cons_zero]; rfl) rfl (by kernel_rfl) (by kernel_rfl) (by kernel_rfl) (fun _ _ _ h => h) (Or.inl ⟨by rfl, ?yT34⟩) hS ?_
        case yT34 =>
          intro W hSW
          (try dsimp only at hSW)
          go_simp
          first | done | with_reducible rfl
        simp only [Act.put, List.setIfInBounds_toArray, List.set_cons_zero, List.set_cons_succ]
        refine wpAnyH_ready (rs := [36]) (by kernel_rfl) (by simp) ?_
        refine AllReadyH.cons rfl (fun K hK => ?_) AllReadyH.nil
        go_simp
        refine (len_any (((HW8D.out.later hBw10).later hBw11).later hS)).mono ?_
        rintro e _ ⟨rfl, rfl⟩
        try go_simp
        refine hK.out _ _ hS (fun hS => ?_)
        clear hK K
        try simp only [Act.put, List.setIfInBounds_toArray, List.set_cons_zero, List.set_cons_succ]
        refine take_at 37 78 (v := ?vT37) (by simp only [List.getElem?_toArray, List.getElem?_cons_succ, List.getElem?_cons_zero]; rfl) rfl (by kernel_rfl) (by kernel_rfl) (by kernel_rfl) (fun _ _ _ h => h) (Or.inl ⟨by rfl, ?yT37⟩) hS ?_
        case yT37 =>
          intro W hSW
          (try dsimp only at hSW)
          go_simp
          first | done | with_reducible rfl
        simp only [Act.put, List.setIfInBounds_toArray, List.set_cons_zero, List.set_cons_succ]
        refine take_at 38 79 (v := ?vT38) (by simp only [List.getElem?_toArray, List.getElem?_cons_succ, List.getElem?_cons_zero]; rfl) rfl (by kernel_rfl) (by kernel_rfl) (by kernel_rfl) (fun _ _ _ h => h) (Or.inl ⟨by rfl, ?yT38⟩) hS ?_
        case yT38 =>
          intro W hSW
          (try dsimp only at hSW)
          go_simp
          first | done | with_reducible rfl
        simp only [Act.put, List.setIfInBounds_toArray, List.set_cons_zero, List.set_cons_succ]
        refine take_at 39 80 (v := ?vT39) (by simp only [List.getElem?_toArray, List.getElem?_cons_succ, List.getElem?_cons_zero]; rfl) rfl (by kernel_rfl) (by kernel_rfl) (by kernel_rfl) (fun _ _ _ h => h) (Or.inl ⟨by rfl, ?yT39⟩) hS ?_
        case yT39 =>
          intro W hSW
          (try dsimp only at hSW)
          go_simp
          first | done | with_reducible rfl
        simp only [Act.put, List.setIfInBounds_toArray, List.set_cons_zero, List.set_cons_succ]
        refine take_at 40 81 (v := ?vT40) (by simp only [List.getElem?_toArray, List.getElem?_cons_succ, List.getElem?_cons_zero]; rfl) rfl (by kernel_rfl) (by kernel_rfl) (by kernel_rfl) (fun _ _ _ h => h) (Or.inl ⟨by rfl, ?yT40⟩) hS ?_
        case yT40 =>
          intro W hSW
          (try dsimp only at hSW)
          go_simp
          first | done | with_reducible rfl
        simp only [Act.put, List.setIfInBounds_toArray, List.set_cons_zero, List.set_cons_succ]
        refine wpAnyH_done (by kernel_rfl) ?_ _
        refine NoPanic.normal ?_
        go_wp2
        go_roundw
        case rel => exact ⟨k + 1, by omega, by omega, by go_num, ⟨bl, sv, ((HW8D.out.later hBw10).later hBw11).later hS, by omega⟩, bl_step (bl_step HBR8.out.drew hBw10) hBw11⟩
        case measure => simp [intOf]; omega
    · obtain ⟨bl, sv, hw, hbl⟩ := HINV.out
      clear hw HINV HS HV
      have hlt' : l.length ≤ k ∨ 200 ≤ k := by omega
      clear hlt
      rcases Nat.lt_or_ge k l.length with hkl | hkl
      · have h200 : 200 ≤ k := by omega
        clear hlt'
        by_cases h5 : 500 < l2.length
        · go_wp2_with (go_at_call 17; refine (alive1_any _).mono ?_; rintro e w2 ⟨rfl, hb2⟩)
          go_ret
          exact ⟨rfl, bl_step HBR.out hb2⟩
        · go_wp2_with fail
          refine (read_any A2 cap2 l2 _ (by omega) hcap2 (Src.later HS2.out HBR.out) HB2.out).mono ?_
          rintro e w2 ⟨p2, g2, rfl, hp2, hg2, hrr, hb2⟩
          have HR2 := Lib.hid hrr
          have HBR2 := Lib.hid (bl_step HBR.out hb2)
          have hbs := HBR.out.size
          clear hrr hb2
          go_wp2_with fail
          refine (get_0 _ HR2.out).mono ?_
          rintro e w3 ⟨rfl, hr3, hy3⟩
          have HR3 := Lib.hid hr3
          have HBR3 := Lib.hid (HBR2.out.trans (get_below hy3 (by omega) (by have := HBR2.out.size; omega)))
          clear hr3 hy3
          go_wp2_with (first
            | (go_at_call 17; refine (alive1_any _).mono ?_; rintro e w4 ⟨rfl, hb4⟩; have HR4 := Lib.hid (HR3.out.later hb4))
            | (go_at_call 24; refine (left_0 HR4.out).mono ?_; rintro e w5 ⟨rfl, hb5⟩))
          go_ret
          exact ⟨rfl, bl_step (bl_step HBR3.out hb4) hb5⟩
      · clear hlt'
        have hkl' : k = l.length := by omega
        by_cases h5 : 500 < l2.length
        · go_wp2_with (go_at_call 17; refine (alive1_any _).mono ?_; rintro e w2 ⟨rfl, hb2⟩)
          go_ret
          exact ⟨rfl, bl_step HBR.out hb2⟩
        · go_wp2_with fail
          refine (read_any A2 cap2 l2 _ (by omega) hcap2 (Src.later HS2.out HBR.out) HB2.out).mono ?_
          rintro e w2 ⟨p2, g2, rfl, hp2, hg2, hrr, hb2⟩
          have HR2 := Lib.hid hrr
          have HBR2 := Lib.hid (bl_step HBR.out hb2)
          have hbs := HBR.out.size
          clear hrr hb2
          go_wp2_with fail
          refine (get_0 _ HR2.out).mono ?_
          rintro e w3 ⟨rfl, hr3, hy3⟩
          have HR3 := Lib.hid hr3
          have HBR3 := Lib.hid (HBR2.out.trans (get_below hy3 (by omega) (by have := HBR2.out.size; omega)))
          clear hr3 hy3
          go_wp2_with (first
            | (go_at_call 17; refine (alive1_any _).mono ?_; rintro e w4 ⟨rfl, hb4⟩; have HR4 := Lib.hid (HR3.out.later hb4))
            | (go_at_call 24; refine (left_0 HR4.out).mono ?_; rintro e w5 ⟨rfl, hb5⟩))
          go_ret
          exact ⟨rfl, bl_step (bl_step HBR3.out hb4) hb5⟩
end Go.Proofs.Ytjilmgbjbkidnaa
