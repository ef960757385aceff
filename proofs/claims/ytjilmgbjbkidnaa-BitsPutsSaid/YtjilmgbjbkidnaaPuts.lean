/-
  BitsPuts: whatever is put, a writer has the bits that the document says, or refuses; one that is nil says so.
-/
import Derived.Test.YtjilmgbjbkidnaaParts
import Derived.Test.YtjilmgbjbkidnaaBitsBack
import Derived.Test.YtjilmgbjbkidnaaRefBytes
import Derived.Deep.Onto
namespace Go.Proofs.Ytjilmgbjbkidnaa
open Go.RowKit
attribute [local go_sem ↓] Go.wp_at_zero Go.wp_at_succ

/-- the loop: the writer's bits are the list's -/
def PutsInv (B p k : Nat) (x : Value) (w : World) : Prop := ∃ (bl : List Bool) (sv : Value), WRep B w p sv bl ∧ OwnB B w x bl ∧ bl.length ≤ 64 * k

theorem OwnB.mono {B B' : Nat} {w : World} {x : Value} {bl : List Bool} (h : OwnB B w x bl) (hb : B' ≤ B) : OwnB B' w x bl := ⟨h.1.mono hb, h.2⟩
/-- a writer's call leaves the list alone -/
theorem OwnB.put {B B' : Nat} {w w' : World} {p : Nat} {sv x : Value} {bl bl' : List Bool} (h : OwnB B' w x bl') (hw : WRep B w p sv bl) (ho : Only (fun k => k = p ∨ sv.ownBlock = some k) w w') : OwnB B' w' x bl' :=
  ⟨own_only h.1 ho fun k hk hS => by
    rcases hS with rfl | hS
    · exact own_apart h.1 hw.2.1 (by decide) hk
    · exact own_own h.1 hw.2.2 (by decide) k hk hS, h.2⟩
theorem own_later {B : Nat} {e : TypeId} {size n : Nat} {w v : World} {x : Value} {xs : List Value} (h : w.ownsRow B e size x n xs) (hb : Below w.heap.size w v) : v.ownsRow B e size x n xs :=
  own_only h (S := fun _ => False) (.of_below hb) (fun _ _ h => h)

/-- a writer's bytes and the document's: one text -/
theorem both_text {B : Nat} (bl : List Bool) (hn : bl.length ≤ 65536) : ∃ (k : Nat) (pk : List Nat) (S : ByteArray),
    (∀ (W : World) (p : Nat) (sv : Value), WRep B W p sv bl → Calls Try.prog 18 #[.pointer (some ⟨p, 0, none⟩)] W fun e w' => ∃ g, e = .returned (.slice (some ⟨g, 0, none⟩) k k) ∧ Row w' g 5 (bts pk).toArray ∧ Below W.heap.size W w') ∧
    (∀ (W : World) (g : Nat), Row W g 5 (bts pk).toArray → (convert 35 9 (.slice (some ⟨g, 0, none⟩) k k)).run Try.prog W = .ok (.string S) W) ∧
    (∀ (W : World) (A : Option Addr) (c : Nat), SrcB W A (bls bl) → Calls Try.prog 19 #[.slice A bl.length c] W fun e w' => ∃ x', e = .returned x' ∧ w'.ownsRow W.heap.size 5 1 x' k (bts pk) ∧ Below W.heap.size W w') ∧
    (∀ (W : World) (b : Nat) (x' : Value), W.ownsRow b 5 1 x' k (bts pk) → (convert 35 9 x').run Try.prog W = .ok (.string S) W) := by
  refine ⟨packLen bl.length, pack bl, strOf (pack bl), fun W p sv h => ?_, fun W g h => ?_, fun W A c h => ?_, fun W b x' h => ?_⟩
  · refine (bytes_any h hn).mono ?_
    rintro e w' ⟨g, rfl, _, h1, h2⟩
    exact ⟨g, rfl, h1, h2⟩
  · have h1 := conv_str (c := packLen bl.length) h (pack_small bl)
    rw [length_pack] at h1
    exact h1
  · exact refbytes_any c h hn
  · exact conv_own h (pack_small bl)

set_option maxRecDepth 100000 in
set_option maxHeartbeats 6400000 in
theorem puts_walk (A : Option Addr) (l : List (Nat × Int)) (cap : Nat) (w : World) (hs : PSrc w A l) (hv : ∀ x ∈ l, x.1 < 18446744073709551616) :
    Calls Try.prog 3 #[.slice A l.length cap] w fun e w' => e = .returned (.bool true) ∧ Below w.heap.size w w' := by
  have HS := Lib.hid hs
  have HV := Lib.hid hv
  clear hs hv
  go_enter Try.func3, Try.ntmps3
  go_wp2_with fail
  refine (new_any w.heap.size _ (Nat.le_refl _)).mono ?_
  rintro e w1 ⟨rfl, hr1, hb1⟩
  have HI := Lib.hid (show PutsInv w.heap.size w.heap.size 0 (.slice none 0 0) w1 from ⟨[], _, hr1, OwnB.nil _ _, by simp⟩)
  have HB1 := Lib.hid hb1
  clear hr1 hb1
  go_wp2_with fail
  go_loopw [4, 5] (fun x i wr => ∃ k : Nat, k ≤ l.length ∧ k ≤ 200 ∧ i = .int .i64 k ∧ PutsInv w.heap.size w.heap.size k x wr ∧ Below w.heap.size w wr) (fun _ i _ => l.length - (intOf i).toNat)
  case atStart => exact ⟨0, by omega, by omega, rfl, HI.out, HB1.out⟩
  case round =>
    obtain ⟨k, hk, hk2, rfl, hinv, hbr⟩ := hrel
    have HINV := Lib.hid hinv
    have HBR := Lib.hid hbr
    clear hinv hbr HI HB1
    by_cases hlt : k < l.length ∧ k < 200
    · obtain ⟨hlt, hlt2⟩ := hlt
      obtain ⟨b, off, rfl, hc⟩ := HS.out (by omega)
      have hx : l[k]? = some l[k] := List.getElem?_eq_getElem hlt
      obtain ⟨c0, c1⟩ := hc k l[k] hx
      have d0 := cell_below c0 rfl HBR.out
      have d1 := cell_below c1 rfl HBR.out
      have hvk := HV.out l[k] (List.getElem_mem hlt)
      generalize l[k].1 = V at *
      generalize l[k].2 = N at *
      have hbb : b < w.heap.size := by
        rcases Nat.lt_or_ge b w.heap.size with h | h
        · exact h
        · exfalso
          simp [World.cell?, Array.getElem?_eq_none h] at c0
      clear hc hx c0 c1
      have hi0 : (0 : Int) ≤ (k : Int) := by omega
      have hi1 : (k : Int) < (l.length : Int) := by omega
      obtain ⟨bl, sv, hw, hown, hbl⟩ := HINV.out
      have HW := Lib.hid hw
      have HO := Lib.hid hown
      have HVK := Lib.hid hvk
      clear hw hown HINV hvk
      by_cases hok : 0 ≤ N ∧ N ≤ 64 ∧ V < 2 ^ N.toNat
      · obtain ⟨hn1, hn2, hvk⟩ := hok
        obtain ⟨n, rfl⟩ : ∃ n : Nat, N = n := ⟨N.toNat, by omega⟩
        rw [Int.toNat_natCast] at hvk
        have HN2 := Lib.hid (show n ≤ 64 by omega)
        have HVN := Lib.hid hvk
        clear hn1 hn2 hvk
        go_wp2
        go_region_held3 (fun w' => w'.cell? ⟨b, off + k * 2, none⟩ = some (.int .u64 V) ∧ w'.cell? ⟨b, off + k * 2 + 1, none⟩ = some (.int .i64 n)) (go_keep) (first
          | (go_at_call 14; refine (put_any V n _ (show WRep w.heap.size wr.drew w.heap.size sv bl from HW.out) HN2.out HVN.out (by have := HN2.out; omega) HVK.out).mono ?_; rintro e w9 ⟨rfl, hw9⟩; have HX := Lib.hid hw9; have q0 := put_keeps HW.out hw9 hbb d0; have q1 := put_keeps HW.out hw9 hbb d1; clear hw9))
        obtain ⟨sv9, hw9, _, hy9⟩ := HX.out
        have hbw := wrote_below (show WRep w.heap.size wr.drew w.heap.size sv bl from HW.out) hy9
        have HBR9 := Lib.hid (HBR.out.trans (show Below w.heap.size wr w9 from (Below.refl _ _).drew.trans hbw))
        have HO9 := Lib.hid (OwnB.put (w := wr.drew) (show OwnB w.heap.size wr.drew u4 bl from HO.out) (show WRep w.heap.size wr.drew w.heap.size sv bl from HW.out) hy9)
        have HW9 := Lib.hid hw9
        have HRP := Lib.hid (fun (W : World) h => refput_ok (w := W) (x := u4) (bl := bl) (B := w.heap.size) V n h HN2.out HVN.out (by have := HN2.out; omega) HVK.out)
        clear hw9 hy9 hbw HX d0 d1 HW HO HBR
        go_wp2
        go_region_held3 (fun w' => w'.cell? ⟨b, off + k * 2, none⟩ = some (.int .u64 V) ∧ w'.cell? ⟨b, off + k * 2 + 1, none⟩ = some (.int .i64 n)) (go_keep) (first
          | (go_at_call 15; refine (HRP.out _ (show OwnB w.heap.size w9.drew u4 bl from HO9.out)).mono ?_; rintro e w10 ⟨x10, rfl, ho10, hb10⟩; have r0 := kept_box hb10 (show w9.drew.cell? _ = _ from q0); have r1 := kept_box hb10 (show w9.drew.cell? _ = _ from q1)))
        have hb910 : Below w9.heap.size w9 w10 := (Below.refl _ _).drew.trans hb10
        have HW10 := Lib.hid (HW9.out.later hb910)
        have HO10 := Lib.hid (ho10.mono (B' := w.heap.size) HBR9.out.size)
        have HBR10 := Lib.hid (bl_step HBR9.out hb910)
        have hlen : (bl ++ unval V n).length ≤ 64 * (k + 1) := by
          have := HN2.out
          rw [List.length_append, length_unval]
          omega
        clear hb910 hb10 ho10 HW9 HO9 HBR9 HRP q0 q1 r0 r1
        generalize bl ++ unval V n = bl9 at *
        obtain ⟨A10, c10, rfl⟩ := HO10.out.form
        go_wp2_with (go_at_call 16; refine (len_any HW10.out).mono ?_; rintro e _ ⟨rfl, rfl⟩)
        go_roundw
        case rel => exact ⟨k + 1, by omega, by omega, by go_num, ⟨bl9, sv9, HW10.out, HO10.out, hlen⟩, HBR10.out⟩
        case measure => simp [intOf]; omega
      · have HBAD := Lib.hid hok
        clear hok
        obtain ⟨A4, c4, rfl⟩ := HO.out.form
        go_wp2
        go_region_held3 (fun w' => w'.cell? ⟨b, off + k * 2, none⟩ = some (.int .u64 V) ∧ w'.cell? ⟨b, off + k * 2 + 1, none⟩ = some (.int .i64 N)) (go_keep) (first
          | (go_at_call 14; refine (put_bad _ V N _ HBAD.out).mono ?_; rintro e _ ⟨rfl, rfl⟩))
        go_wp2
        go_region_held3 (fun w' => w'.cell? ⟨b, off + k * 2, none⟩ = some (.int .u64 V) ∧ w'.cell? ⟨b, off + k * 2 + 1, none⟩ = some (.int .i64 N)) (go_keep) (first
          | (go_at_call 15; refine (refput_bad _ _ HBAD.out HVK.out).mono ?_; rintro e _ ⟨rfl, rfl⟩))
        have HW2 := Lib.hid (show WRep w.heap.size wr.drew.drew w.heap.size sv bl from HW.out)
        have HO2 := Lib.hid (show OwnB w.heap.size wr.drew.drew (.slice A4 bl.length c4) bl from HO.out)
        have HB2 := Lib.hid (show Below w.heap.size w wr.drew.drew from HBR.out.drew.drew)
        go_wp2_with (go_at_call 16; refine (len_any HW2.out).mono ?_; rintro e _ ⟨rfl, rfl⟩)
        go_roundw
        case rel => exact ⟨k + 1, by omega, by omega, by go_num, ⟨bl, sv, HW2.out, HO2.out, by omega⟩, HB2.out⟩
        case measure => simp [intOf]; omega
    · obtain ⟨bl, sv, hw, hown, hbl⟩ := HINV.out
      obtain ⟨A4, c4, rfl⟩ := hown.form
      obtain ⟨kk, pk, S, hby, hcv, hrb, hco⟩ := both_text (B := w.heap.size) bl (by omega)
      have HW := Lib.hid hw
      have HSR := Lib.hid hown.src
      have HBY := Lib.hid hby
      have HCV := Lib.hid hcv
      have HRB := Lib.hid hrb
      have HCO := Lib.hid hco
      clear hw hown HINV HS HV hby hcv hrb hco
      have hlt' : l.length ≤ k ∨ 200 ≤ k := by omega
      clear hlt
      rcases Nat.lt_or_ge k l.length with hkl | hkl
      · have h200 : 200 ≤ k := by omega
        clear hlt'
        go_wp2_with fail
        refine wp_of_frame [none, none, none, some (.pointer (some ⟨w.heap.size, 0, none⟩)), some (.slice A4 bl.length c4), none, none, none, none, some (.pointer none), none, none, none, none, none, none, none, none, none, none, none, none, none, none, none, none, none, none, none, none, none, none, none, none, none, none, none, none, none, none, none, none, none, none, none, none, none, none, none, none, none, none, none, none, none, none, none, none, none, none, none, none, none, none, none, none, none, none, none, none, none, none, none, none, none, none, none, none, none, none, none, none, none, none, none] (by
          simp only [Fr, Holes]
          repeat apply Exists.intro
          rfl) ?_
        intro a' hfr
        simp only [Fr, Holes] at hfr
        repeat (obtain ⟨_, hfr⟩ := hfr)
        refine wp_region_noPanic ?_
        refine wp_region_held_drew (S := fun W => Below wr.heap.size wr W) (by kernel_rfl) (bl_drew (Below.refl _ _)) (fun hS => ?_)
        refine wpAnyH_ready (rs := [0]) (by kernel_rfl) (by simp) ?_
        refine AllReadyH.cons rfl (fun K hK => ?_) AllReadyH.nil
        go_simp
        refine (alive1_any _).mono ?_
        rintro e w11 ⟨rfl, hb11⟩
        try go_simp
        refine hK.out _ _ (bl_step hS hb11) (fun hS => ?_)
        clear hK K
        try simp only [Act.put, List.setIfInBounds_toArray, List.set_cons_zero, List.set_cons_succ]
        have hBw11 : Below wr.heap.size wr w11 := hS
        refine wpAnyH_more (S' := fun W => Below w11.heap.size w11 W) ?_ (fun _ h => bl_step hBw11 h)
        clear hS
        have hS : (fun W => Below w11.heap.size w11 W) w11 := Below.refl _ _
        refine take_at 1 60 (v := ?vH1) (by simp only [List.getElem?_toArray, List.getElem?_cons_succ, List.getElem?_cons_zero]; rfl) rfl (by kernel_rfl) (by kernel_rfl) (by kernel_rfl) (fun _ _ _ h => h) (Or.inl ⟨by rfl, ?yH1⟩) hS ?_
        case yH1 =>
          intro W hSW
          (try dsimp only at hSW)
          go_simp
          first | done | with_reducible rfl
        simp only [Act.put, List.setIfInBounds_toArray, List.set_cons_zero, List.set_cons_succ]
        refine take_at 2 61 (v := ?vH2) (by simp only [List.getElem?_toArray, List.getElem?_cons_succ, List.getElem?_cons_zero]; rfl) rfl (by kernel_rfl) (by kernel_rfl) (by kernel_rfl) (fun _ _ _ h => h) (Or.inl ⟨by rfl, ?yH2⟩) hS ?_
        case yH2 =>
          intro W hSW
          (try dsimp only at hSW)
          go_simp
          first | done | with_reducible rfl
        simp only [Act.put, List.setIfInBounds_toArray, List.set_cons_zero, List.set_cons_succ]
        refine take_at 5 64 (v := ?vH5) (by simp only [List.getElem?_toArray, List.getElem?_cons_succ, List.getElem?_cons_zero]; rfl) rfl (by kernel_rfl) (by kernel_rfl) (by kernel_rfl) (fun _ _ _ h => h) (Or.inl ⟨by rfl, ?yH5⟩) hS ?_
        case yH5 =>
          intro W hSW
          (try dsimp only at hSW)
          go_simp
          first | done | with_reducible rfl
        simp only [Act.put, List.setIfInBounds_toArray, List.set_cons_zero, List.set_cons_succ]
        refine wpAnyH_ready (rs := [3]) (by kernel_rfl) (by simp) ?_
        refine AllReadyH.cons rfl (fun K hK => ?_) AllReadyH.nil
        go_simp
        refine (HBY.out _ _ sv ((HW.out.later hBw11).later hS)).mono ?_
        rintro e w12 ⟨g12, rfl, hrow12, hb12⟩
        try go_simp
        refine hK.out _ _ (bl_step hS hb12) (fun hS => ?_)
        clear hK K
        try simp only [Act.put, List.setIfInBounds_toArray, List.set_cons_zero, List.set_cons_succ]
        have hBw12 : Below w11.heap.size w11 w12 := hS
        refine wpAnyH_more (S' := fun W => Below w12.heap.size w12 W) ?_ (fun _ h => bl_step hBw12 h)
        clear hS
        have hS : (fun W => Below w12.heap.size w12 W) w12 := Below.refl _ _
        refine take_at 4 63 (v := ?vH4) (by simp only [List.getElem?_toArray, List.getElem?_cons_succ, List.getElem?_cons_zero]; rfl) rfl (by kernel_rfl) (by kernel_rfl) (by kernel_rfl) (fun _ _ _ h => h) (Or.inl ⟨by rfl, ?yH4⟩) hS ?_
        case yH4 =>
          intro W hSW
          (try dsimp only at hSW)
          have hq := HCV.out W g12 (hrow12.later hSW)
          go_simp
          first | done | with_reducible rfl
        simp only [Act.put, List.setIfInBounds_toArray, List.set_cons_zero, List.set_cons_succ]
        refine wpAnyH_ready (rs := [6]) (by kernel_rfl) (by simp) ?_
        refine AllReadyH.cons rfl (fun K hK => ?_) AllReadyH.nil
        go_simp
        refine (HRB.out _ A4 c4 (((HSR.out.later hBw11).later hBw12).later hS)).mono ?_
        rintro e w13 ⟨x13, rfl, hown13, hb13⟩
        try go_simp
        refine hK.out _ _ (bl_step hS hb13) (fun hS => ?_)
        clear hK K
        try simp only [Act.put, List.setIfInBounds_toArray, List.set_cons_zero, List.set_cons_succ]
        have hBw13 : Below w12.heap.size w12 w13 := hS
        refine wpAnyH_more (S' := fun W => Below w13.heap.size w13 W) ?_ (fun _ h => bl_step hBw13 h)
        clear hS
        have hS : (fun W => Below w13.heap.size w13 W) w13 := Below.refl _ _
        refine take_at 7 66 (v := ?vH7) (by simp only [List.getElem?_toArray, List.getElem?_cons_succ, List.getElem?_cons_zero]; rfl) rfl (by kernel_rfl) (by kernel_rfl) (by kernel_rfl) (fun _ _ _ h => h) (Or.inl ⟨by rfl, ?yH7⟩) hS ?_
        case yH7 =>
          intro W hSW
          (try dsimp only at hSW)
          have hq := HCO.out W _ x13 (own_later hown13 hSW)
          go_simp
          first | done | with_reducible rfl
        simp only [Act.put, List.setIfInBounds_toArray, List.set_cons_zero, List.set_cons_succ]
        refine take_at 8 67 (v := ?vH8) (by simp only [List.getElem?_toArray, List.getElem?_cons_succ, List.getElem?_cons_zero]; rfl) rfl (by kernel_rfl) (by kernel_rfl) (by kernel_rfl) (fun _ _ _ h => h) (Or.inl ⟨by rfl, ?yH8⟩) hS ?_
        case yH8 =>
          intro W hSW
          (try dsimp only at hSW)
          go_simp
          first | done | with_reducible rfl
        simp only [Act.put, List.setIfInBounds_toArray, List.set_cons_zero, List.set_cons_succ]
        refine take_at 9 68 (v := ?vH9) (by simp only [List.getElem?_toArray, List.getElem?_cons_succ, List.getElem?_cons_zero]; rfl) rfl (by kernel_rfl) (by kernel_rfl) (by kernel_rfl) (fun _ _ _ h => h) (Or.inl ⟨by rfl, ?yH9⟩) hS ?_
        case yH9 =>
          intro W hSW
          (try dsimp only at hSW)
          go_simp
          first | done | with_reducible rfl
        simp only [Act.put, List.setIfInBounds_toArray, List.set_cons_zero, List.set_cons_succ]
        refine take_at 10 69 (v := ?vH10) (by simp only [List.getElem?_toArray, List.getElem?_cons_succ, List.getElem?_cons_zero]; rfl) rfl (by kernel_rfl) (by kernel_rfl) (by kernel_rfl) (fun _ _ _ h => h) (Or.inl ⟨by rfl, ?yH10⟩) hS ?_
        case yH10 =>
          intro W hSW
          (try dsimp only at hSW)
          go_simp
          first | done | with_reducible rfl
        simp only [Act.put, List.setIfInBounds_toArray, List.set_cons_zero, List.set_cons_succ]
        refine take_at 11 70 (v := ?vH11) (by simp only [List.getElem?_toArray, List.getElem?_cons_succ, List.getElem?_cons_zero]; rfl) rfl (by kernel_rfl) (by kernel_rfl) (by kernel_rfl) (fun _ _ _ h => h) (Or.inl ⟨by rfl, ?yH11⟩) hS ?_
        case yH11 =>
          intro W hSW
          (try dsimp only at hSW)
          go_simp
          first | done | with_reducible rfl
        simp only [Act.put, List.setIfInBounds_toArray, List.set_cons_zero, List.set_cons_succ]
        refine wpAnyH_ready (rs := [12]) (by kernel_rfl) (by simp) ?_
        refine AllReadyH.cons rfl (fun K hK => ?_) AllReadyH.nil
        go_simp
        refine (put_nil 0 1 _).mono ?_
        rintro e _ ⟨rfl, rfl⟩
        try go_simp
        refine hK.out _ _ hS (fun hS => ?_)
        clear hK K
        try simp only [Act.put, List.setIfInBounds_toArray, List.set_cons_zero, List.set_cons_succ]
        refine take_at 13 72 (v := ?vH13) (by simp only [List.getElem?_toArray, List.getElem?_cons_succ, List.getElem?_cons_zero]; rfl) rfl (by kernel_rfl) (by kernel_rfl) (by kernel_rfl) (fun _ _ _ h => h) (Or.inl ⟨by rfl, ?yH13⟩) hS ?_
        case yH13 =>
          intro W hSW
          (try dsimp only at hSW)
          go_simp
          first | done | with_reducible rfl
        simp only [Act.put, List.setIfInBounds_toArray, List.set_cons_zero, List.set_cons_succ]
        refine take_at 14 73 (v := ?vH14) (by simp only [List.getElem?_toArray, List.getElem?_cons_succ, List.getElem?_cons_zero]; rfl) rfl (by kernel_rfl) (by kernel_rfl) (by kernel_rfl) (fun _ _ _ h => h) (Or.inl ⟨by rfl, ?yH14⟩) hS ?_
        case yH14 =>
          intro W hSW
          (try dsimp only at hSW)
          go_simp
          first | done | with_reducible rfl
        simp only [Act.put, List.setIfInBounds_toArray, List.set_cons_zero, List.set_cons_succ]
        refine take_at 15 74 (v := ?vH15) (by simp only [List.getElem?_toArray, List.getElem?_cons_succ, List.getElem?_cons_zero]; rfl) rfl (by kernel_rfl) (by kernel_rfl) (by kernel_rfl) (fun _ _ _ h => h) (Or.inl ⟨by rfl, ?yH15⟩) hS ?_
        case yH15 =>
          intro W hSW
          (try dsimp only at hSW)
          go_simp
          first | done | with_reducible rfl
        simp only [Act.put, List.setIfInBounds_toArray, List.set_cons_zero, List.set_cons_succ]
        refine take_at 16 75 (v := ?vH16) (by simp only [List.getElem?_toArray, List.getElem?_cons_succ, List.getElem?_cons_zero]; rfl) rfl (by kernel_rfl) (by kernel_rfl) (by kernel_rfl) (fun _ _ _ h => h) (Or.inl ⟨by rfl, ?yH16⟩) hS ?_
        case yH16 =>
          intro W hSW
          (try dsimp only at hSW)
          go_simp
          first | done | with_reducible rfl
        simp only [Act.put, List.setIfInBounds_toArray, List.set_cons_zero, List.set_cons_succ]
        refine wpAnyH_ready (rs := [17]) (by kernel_rfl) (by simp) ?_
        refine AllReadyH.cons rfl (fun K hK => ?_) AllReadyH.nil
        go_simp
        refine (len_nil _).mono ?_
        rintro e _ ⟨rfl, rfl⟩
        try go_simp
        refine hK.out _ _ hS (fun hS => ?_)
        clear hK K
        try simp only [Act.put, List.setIfInBounds_toArray, List.set_cons_zero, List.set_cons_succ]
        refine take_at 18 77 (v := ?vH18) (by simp only [List.getElem?_toArray, List.getElem?_cons_succ, List.getElem?_cons_zero]; rfl) rfl (by kernel_rfl) (by kernel_rfl) (by kernel_rfl) (fun _ _ _ h => h) (Or.inl ⟨by rfl, ?yH18⟩) hS ?_
        case yH18 =>
          intro W hSW
          (try dsimp only at hSW)
          go_simp
          first | done | with_reducible rfl
        simp only [Act.put, List.setIfInBounds_toArray, List.set_cons_zero, List.set_cons_succ]
        refine take_at 19 78 (v := ?vH19) (by simp only [List.getElem?_toArray, List.getElem?_cons_succ, List.getElem?_cons_zero]; rfl) rfl (by kernel_rfl) (by kernel_rfl) (by kernel_rfl) (fun _ _ _ h => h) (Or.inl ⟨by rfl, ?yH19⟩) hS ?_
        case yH19 =>
          intro W hSW
          (try dsimp only at hSW)
          go_simp
          first | done | with_reducible rfl
        simp only [Act.put, List.setIfInBounds_toArray, List.set_cons_zero, List.set_cons_succ]
        refine take_at 20 79 (v := ?vH20) (by simp only [List.getElem?_toArray, List.getElem?_cons_succ, List.getElem?_cons_zero]; rfl) rfl (by kernel_rfl) (by kernel_rfl) (by kernel_rfl) (fun _ _ _ h => h) (Or.inl ⟨by rfl, ?yH20⟩) hS ?_
        case yH20 =>
          intro W hSW
          (try dsimp only at hSW)
          go_simp
          first | done | with_reducible rfl
        simp only [Act.put, List.setIfInBounds_toArray, List.set_cons_zero, List.set_cons_succ]
        refine take_at 21 80 (v := ?vH21) (by simp only [List.getElem?_toArray, List.getElem?_cons_succ, List.getElem?_cons_zero]; rfl) rfl (by kernel_rfl) (by kernel_rfl) (by kernel_rfl) (fun _ _ _ h => h) (Or.inl ⟨by rfl, ?yH21⟩) hS ?_
        case yH21 =>
          intro W hSW
          (try dsimp only at hSW)
          go_simp
          first | done | with_reducible rfl
        simp only [Act.put, List.setIfInBounds_toArray, List.set_cons_zero, List.set_cons_succ]
        refine wpAnyH_ready (rs := [22]) (by kernel_rfl) (by simp) ?_
        refine AllReadyH.cons rfl (fun K hK => ?_) AllReadyH.nil
        go_simp
        refine (bytes_nil _).mono ?_
        rintro e _ ⟨rfl, rfl⟩
        try go_simp
        refine hK.out _ _ hS (fun hS => ?_)
        clear hK K
        try simp only [Act.put, List.setIfInBounds_toArray, List.set_cons_zero, List.set_cons_succ]
        refine take_at 23 82 (v := ?vH23) (by simp only [List.getElem?_toArray, List.getElem?_cons_succ, List.getElem?_cons_zero]; rfl) rfl (by kernel_rfl) (by kernel_rfl) (by kernel_rfl) (fun _ _ _ h => h) (Or.inl ⟨by rfl, ?yH23⟩) hS ?_
        case yH23 =>
          intro W hSW
          (try dsimp only at hSW)
          go_simp
          first | done | with_reducible rfl
        simp only [Act.put, List.setIfInBounds_toArray, List.set_cons_zero, List.set_cons_succ]
        refine take_at 24 83 (v := ?vH24) (by simp only [List.getElem?_toArray, List.getElem?_cons_succ, List.getElem?_cons_zero]; rfl) rfl (by kernel_rfl) (by kernel_rfl) (by kernel_rfl) (fun _ _ _ h => h) (Or.inl ⟨by rfl, ?yH24⟩) hS ?_
        case yH24 =>
          intro W hSW
          (try dsimp only at hSW)
          go_simp
          first | done | with_reducible rfl
        simp only [Act.put, List.setIfInBounds_toArray, List.set_cons_zero, List.set_cons_succ]
        refine take_at 25 84 (v := ?vH25) (by simp only [List.getElem?_toArray, List.getElem?_cons_succ, List.getElem?_cons_zero]; rfl) rfl (by kernel_rfl) (by kernel_rfl) (by kernel_rfl) (fun _ _ _ h => h) (Or.inl ⟨by rfl, ?yH25⟩) hS ?_
        case yH25 =>
          intro W hSW
          (try dsimp only at hSW)
          go_simp
          first | done | with_reducible rfl
        simp only [Act.put, List.setIfInBounds_toArray, List.set_cons_zero, List.set_cons_succ]
        refine take_at 26 2 (v := ?vH26) (by simp only [List.getElem?_toArray, List.getElem?_cons_succ, List.getElem?_cons_zero]; rfl) rfl (by kernel_rfl) (by kernel_rfl) (by kernel_rfl) (fun _ _ _ h => h) (Or.inl ⟨by rfl, ?yH26⟩) hS ?_
        case yH26 =>
          intro W hSW
          (try dsimp only at hSW)
          go_simp
          first | done | with_reducible rfl
        simp only [Act.put, List.setIfInBounds_toArray, List.set_cons_zero, List.set_cons_succ]
        refine wpAnyH_done (by kernel_rfl) ?_ _
        refine NoPanic.normal ?_
        go_wp2
        go_ret
        exact ⟨rfl, bl_step (bl_step (bl_step HBR.out hBw11) hBw12) hBw13⟩
      · clear hlt'
        have hkl' : k = l.length := by omega
        go_wp2_with fail
        refine wp_of_frame [none, none, none, some (.pointer (some ⟨w.heap.size, 0, none⟩)), some (.slice A4 bl.length c4), none, none, none, none, some (.pointer none), none, none, none, none, none, none, none, none, none, none, none, none, none, none, none, none, none, none, none, none, none, none, none, none, none, none, none, none, none, none, none, none, none, none, none, none, none, none, none, none, none, none, none, none, none, none, none, none, none, none, none, none, none, none, none, none, none, none, none, none, none, none, none, none, none, none, none, none, none, none, none, none, none, none, none] (by
          simp only [Fr, Holes]
          repeat apply Exists.intro
          rfl) ?_
        intro a' hfr
        simp only [Fr, Holes] at hfr
        repeat (obtain ⟨_, hfr⟩ := hfr)
        refine wp_region_noPanic ?_
        refine wp_region_held_drew (S := fun W => Below wr.heap.size wr W) (by kernel_rfl) (bl_drew (Below.refl _ _)) (fun hS => ?_)
        refine wpAnyH_ready (rs := [0]) (by kernel_rfl) (by simp) ?_
        refine AllReadyH.cons rfl (fun K hK => ?_) AllReadyH.nil
        go_simp
        refine (alive1_any _).mono ?_
        rintro e w11 ⟨rfl, hb11⟩
        try go_simp
        refine hK.out _ _ (bl_step hS hb11) (fun hS => ?_)
        clear hK K
        try simp only [Act.put, List.setIfInBounds_toArray, List.set_cons_zero, List.set_cons_succ]
        have hBw11 : Below wr.heap.size wr w11 := hS
        refine wpAnyH_more (S' := fun W => Below w11.heap.size w11 W) ?_ (fun _ h => bl_step hBw11 h)
        clear hS
        have hS : (fun W => Below w11.heap.size w11 W) w11 := Below.refl _ _
        refine take_at 1 60 (v := ?vG1) (by simp only [List.getElem?_toArray, List.getElem?_cons_succ, List.getElem?_cons_zero]; rfl) rfl (by kernel_rfl) (by kernel_rfl) (by kernel_rfl) (fun _ _ _ h => h) (Or.inl ⟨by rfl, ?yG1⟩) hS ?_
        case yG1 =>
          intro W hSW
          (try dsimp only at hSW)
          go_simp
          first | done | with_reducible rfl
        simp only [Act.put, List.setIfInBounds_toArray, List.set_cons_zero, List.set_cons_succ]
        refine take_at 2 61 (v := ?vG2) (by simp only [List.getElem?_toArray, List.getElem?_cons_succ, List.getElem?_cons_zero]; rfl) rfl (by kernel_rfl) (by kernel_rfl) (by kernel_rfl) (fun _ _ _ h => h) (Or.inl ⟨by rfl, ?yG2⟩) hS ?_
        case yG2 =>
          intro W hSW
          (try dsimp only at hSW)
          go_simp
          first | done | with_reducible rfl
        simp only [Act.put, List.setIfInBounds_toArray, List.set_cons_zero, List.set_cons_succ]
        refine take_at 5 64 (v := ?vG5) (by simp only [List.getElem?_toArray, List.getElem?_cons_succ, List.getElem?_cons_zero]; rfl) rfl (by kernel_rfl) (by kernel_rfl) (by kernel_rfl) (fun _ _ _ h => h) (Or.inl ⟨by rfl, ?yG5⟩) hS ?_
        case yG5 =>
          intro W hSW
          (try dsimp only at hSW)
          go_simp
          first | done | with_reducible rfl
        simp only [Act.put, List.setIfInBounds_toArray, List.set_cons_zero, List.set_cons_succ]
        refine wpAnyH_ready (rs := [3]) (by kernel_rfl) (by simp) ?_
        refine AllReadyH.cons rfl (fun K hK => ?_) AllReadyH.nil
        go_simp
        refine (HBY.out _ _ sv ((HW.out.later hBw11).later hS)).mono ?_
        rintro e w12 ⟨g12, rfl, hrow12, hb12⟩
        try go_simp
        refine hK.out _ _ (bl_step hS hb12) (fun hS => ?_)
        clear hK K
        try simp only [Act.put, List.setIfInBounds_toArray, List.set_cons_zero, List.set_cons_succ]
        have hBw12 : Below w11.heap.size w11 w12 := hS
        refine wpAnyH_more (S' := fun W => Below w12.heap.size w12 W) ?_ (fun _ h => bl_step hBw12 h)
        clear hS
        have hS : (fun W => Below w12.heap.size w12 W) w12 := Below.refl _ _
        refine take_at 4 63 (v := ?vG4) (by simp only [List.getElem?_toArray, List.getElem?_cons_succ, List.getElem?_cons_zero]; rfl) rfl (by kernel_rfl) (by kernel_rfl) (by kernel_rfl) (fun _ _ _ h => h) (Or.inl ⟨by rfl, ?yG4⟩) hS ?_
        case yG4 =>
          intro W hSW
          (try dsimp only at hSW)
          have hq := HCV.out W g12 (hrow12.later hSW)
          go_simp
          first | done | with_reducible rfl
        simp only [Act.put, List.setIfInBounds_toArray, List.set_cons_zero, List.set_cons_succ]
        refine wpAnyH_ready (rs := [6]) (by kernel_rfl) (by simp) ?_
        refine AllReadyH.cons rfl (fun K hK => ?_) AllReadyH.nil
        go_simp
        refine (HRB.out _ A4 c4 (((HSR.out.later hBw11).later hBw12).later hS)).mono ?_
        rintro e w13 ⟨x13, rfl, hown13, hb13⟩
        try go_simp
        refine hK.out _ _ (bl_step hS hb13) (fun hS => ?_)
        clear hK K
        try simp only [Act.put, List.setIfInBounds_toArray, List.set_cons_zero, List.set_cons_succ]
        have hBw13 : Below w12.heap.size w12 w13 := hS
        refine wpAnyH_more (S' := fun W => Below w13.heap.size w13 W) ?_ (fun _ h => bl_step hBw13 h)
        clear hS
        have hS : (fun W => Below w13.heap.size w13 W) w13 := Below.refl _ _
        refine take_at 7 66 (v := ?vG7) (by simp only [List.getElem?_toArray, List.getElem?_cons_succ, List.getElem?_cons_zero]; rfl) rfl (by kernel_rfl) (by kernel_rfl) (by kernel_rfl) (fun _ _ _ h => h) (Or.inl ⟨by rfl, ?yG7⟩) hS ?_
        case yG7 =>
          intro W hSW
          (try dsimp only at hSW)
          have hq := HCO.out W _ x13 (own_later hown13 hSW)
          go_simp
          first | done | with_reducible rfl
        simp only [Act.put, List.setIfInBounds_toArray, List.set_cons_zero, List.set_cons_succ]
        refine take_at 8 67 (v := ?vG8) (by simp only [List.getElem?_toArray, List.getElem?_cons_succ, List.getElem?_cons_zero]; rfl) rfl (by kernel_rfl) (by kernel_rfl) (by kernel_rfl) (fun _ _ _ h => h) (Or.inl ⟨by rfl, ?yG8⟩) hS ?_
        case yG8 =>
          intro W hSW
          (try dsimp only at hSW)
          go_simp
          first | done | with_reducible rfl
        simp only [Act.put, List.setIfInBounds_toArray, List.set_cons_zero, List.set_cons_succ]
        refine take_at 9 68 (v := ?vG9) (by simp only [List.getElem?_toArray, List.getElem?_cons_succ, List.getElem?_cons_zero]; rfl) rfl (by kernel_rfl) (by kernel_rfl) (by kernel_rfl) (fun _ _ _ h => h) (Or.inl ⟨by rfl, ?yG9⟩) hS ?_
        case yG9 =>
          intro W hSW
          (try dsimp only at hSW)
          go_simp
          first | done | with_reducible rfl
        simp only [Act.put, List.setIfInBounds_toArray, List.set_cons_zero, List.set_cons_succ]
        refine take_at 10 69 (v := ?vG10) (by simp only [List.getElem?_toArray, List.getElem?_cons_succ, List.getElem?_cons_zero]; rfl) rfl (by kernel_rfl) (by kernel_rfl) (by kernel_rfl) (fun _ _ _ h => h) (Or.inl ⟨by rfl, ?yG10⟩) hS ?_
        case yG10 =>
          intro W hSW
          (try dsimp only at hSW)
          go_simp
          first | done | with_reducible rfl
        simp only [Act.put, List.setIfInBounds_toArray, List.set_cons_zero, List.set_cons_succ]
        refine take_at 11 70 (v := ?vG11) (by simp only [List.getElem?_toArray, List.getElem?_cons_succ, List.getElem?_cons_zero]; rfl) rfl (by kernel_rfl) (by kernel_rfl) (by kernel_rfl) (fun _ _ _ h => h) (Or.inl ⟨by rfl, ?yG11⟩) hS ?_
        case yG11 =>
          intro W hSW
          (try dsimp only at hSW)
          go_simp
          first | done | with_reducible rfl
        simp only [Act.put, List.setIfInBounds_toArray, List.set_cons_zero, List.set_cons_succ]
        refine wpAnyH_ready (rs := [12]) (by kernel_rfl) (by simp) ?_
        refine AllReadyH.cons rfl (fun K hK => ?_) AllReadyH.nil
        go_simp
        refine (put_nil 0 1 _).mono ?_
        rintro e _ ⟨rfl, rfl⟩
        try go_simp
        refine hK.out _ _ hS (fun hS => ?_)
        clear hK K
        try simp only [Act.put, List.setIfInBounds_toArray, List.set_cons_zero, List.set_cons_succ]
        refine take_at 13 72 (v := ?vG13) (by simp only [List.getElem?_toArray, List.getElem?_cons_succ, List.getElem?_cons_zero]; rfl) rfl (by kernel_rfl) (by kernel_rfl) (by kernel_rfl) (fun _ _ _ h => h) (Or.inl ⟨by rfl, ?yG13⟩) hS ?_
        case yG13 =>
          intro W hSW
          (try dsimp only at hSW)
          go_simp
          first | done | with_reducible rfl
        simp only [Act.put, List.setIfInBounds_toArray, List.set_cons_zero, List.set_cons_succ]
        refine take_at 14 73 (v := ?vG14) (by simp only [List.getElem?_toArray, List.getElem?_cons_succ, List.getElem?_cons_zero]; rfl) rfl (by kernel_rfl) (by kernel_rfl) (by kernel_rfl) (fun _ _ _ h => h) (Or.inl ⟨by rfl, ?yG14⟩) hS ?_
        case yG14 =>
          intro W hSW
          (try dsimp only at hSW)
          go_simp
          first | done | with_reducible rfl
        simp only [Act.put, List.setIfInBounds_toArray, List.set_cons_zero, List.set_cons_succ]
        refine take_at 15 74 (v := ?vG15) (by simp only [List.getElem?_toArray, List.getElem?_cons_succ, List.getElem?_cons_zero]; rfl) rfl (by kernel_rfl) (by kernel_rfl) (by kernel_rfl) (fun _ _ _ h => h) (Or.inl ⟨by rfl, ?yG15⟩) hS ?_
        case yG15 =>
          intro W hSW
          (try dsimp only at hSW)
          go_simp
          first | done | with_reducible rfl
        simp only [Act.put, List.setIfInBounds_toArray, List.set_cons_zero, List.set_cons_succ]
        refine take_at 16 75 (v := ?vG16) (by simp only [List.getElem?_toArray, List.getElem?_cons_succ, List.getElem?_cons_zero]; rfl) rfl (by kernel_rfl) (by kernel_rfl) (by kernel_rfl) (fun _ _ _ h => h) (Or.inl ⟨by rfl, ?yG16⟩) hS ?_
        case yG16 =>
          intro W hSW
          (try dsimp only at hSW)
          go_simp
          first | done | with_reducible rfl
        simp only [Act.put, List.setIfInBounds_toArray, List.set_cons_zero, List.set_cons_succ]
        refine wpAnyH_ready (rs := [17]) (by kernel_rfl) (by simp) ?_
        refine AllReadyH.cons rfl (fun K hK => ?_) AllReadyH.nil
        go_simp
        refine (len_nil _).mono ?_
        rintro e _ ⟨rfl, rfl⟩
        try go_simp
        refine hK.out _ _ hS (fun hS => ?_)
        clear hK K
        try simp only [Act.put, List.setIfInBounds_toArray, List.set_cons_zero, List.set_cons_succ]
        refine take_at 18 77 (v := ?vG18) (by simp only [List.getElem?_toArray, List.getElem?_cons_succ, List.getElem?_cons_zero]; rfl) rfl (by kernel_rfl) (by kernel_rfl) (by kernel_rfl) (fun _ _ _ h => h) (Or.inl ⟨by rfl, ?yG18⟩) hS ?_
        case yG18 =>
          intro W hSW
          (try dsimp only at hSW)
          go_simp
          first | done | with_reducible rfl
        simp only [Act.put, List.setIfInBounds_toArray, List.set_cons_zero, List.set_cons_succ]
        refine take_at 19 78 (v := ?vG19) (by simp only [List.getElem?_toArray, List.getElem?_cons_succ, List.getElem?_cons_zero]; rfl) rfl (by kernel_rfl) (by kernel_rfl) (by kernel_rfl) (fun _ _ _ h => h) (Or.inl ⟨by rfl, ?yG19⟩) hS ?_
        case yG19 =>
          intro W hSW
          (try dsimp only at hSW)
          go_simp
          first | done | with_reducible rfl
        simp only [Act.put, List.setIfInBounds_toArray, List.set_cons_zero, List.set_cons_succ]
        refine take_at 20 79 (v := ?vG20) (by simp only [List.getElem?_toArray, List.getElem?_cons_succ, List.getElem?_cons_zero]; rfl) rfl (by kernel_rfl) (by kernel_rfl) (by kernel_rfl) (fun _ _ _ h => h) (Or.inl ⟨by rfl, ?yG20⟩) hS ?_
        case yG20 =>
          intro W hSW
          (try dsimp only at hSW)
          go_simp
          first | done | with_reducible rfl
        simp only [Act.put, List.setIfInBounds_toArray, List.set_cons_zero, List.set_cons_succ]
        refine take_at 21 80 (v := ?vG21) (by simp only [List.getElem?_toArray, List.getElem?_cons_succ, List.getElem?_cons_zero]; rfl) rfl (by kernel_rfl) (by kernel_rfl) (by kernel_rfl) (fun _ _ _ h => h) (Or.inl ⟨by rfl, ?yG21⟩) hS ?_
        case yG21 =>
          intro W hSW
          (try dsimp only at hSW)
          go_simp
          first | done | with_reducible rfl
        simp only [Act.put, List.setIfInBounds_toArray, List.set_cons_zero, List.set_cons_succ]
        refine wpAnyH_ready (rs := [22]) (by kernel_rfl) (by simp) ?_
        refine AllReadyH.cons rfl (fun K hK => ?_) AllReadyH.nil
        go_simp
        refine (bytes_nil _).mono ?_
        rintro e _ ⟨rfl, rfl⟩
        try go_simp
        refine hK.out _ _ hS (fun hS => ?_)
        clear hK K
        try simp only [Act.put, List.setIfInBounds_toArray, List.set_cons_zero, List.set_cons_succ]
        refine take_at 23 82 (v := ?vG23) (by simp only [List.getElem?_toArray, List.getElem?_cons_succ, List.getElem?_cons_zero]; rfl) rfl (by kernel_rfl) (by kernel_rfl) (by kernel_rfl) (fun _ _ _ h => h) (Or.inl ⟨by rfl, ?yG23⟩) hS ?_
        case yG23 =>
          intro W hSW
          (try dsimp only at hSW)
          go_simp
          first | done | with_reducible rfl
        simp only [Act.put, List.setIfInBounds_toArray, List.set_cons_zero, List.set_cons_succ]
        refine take_at 24 83 (v := ?vG24) (by simp only [List.getElem?_toArray, List.getElem?_cons_succ, List.getElem?_cons_zero]; rfl) rfl (by kernel_rfl) (by kernel_rfl) (by kernel_rfl) (fun _ _ _ h => h) (Or.inl ⟨by rfl, ?yG24⟩) hS ?_
        case yG24 =>
          intro W hSW
          (try dsimp only at hSW)
          go_simp
          first | done | with_reducible rfl
        simp only [Act.put, List.setIfInBounds_toArray, List.set_cons_zero, List.set_cons_succ]
        refine take_at 25 84 (v := ?vG25) (by simp only [List.getElem?_toArray, List.getElem?_cons_succ, List.getElem?_cons_zero]; rfl) rfl (by kernel_rfl) (by kernel_rfl) (by kernel_rfl) (fun _ _ _ h => h) (Or.inl ⟨by rfl, ?yG25⟩) hS ?_
        case yG25 =>
          intro W hSW
          (try dsimp only at hSW)
          go_simp
          first | done | with_reducible rfl
        simp only [Act.put, List.setIfInBounds_toArray, List.set_cons_zero, List.set_cons_succ]
        refine take_at 26 2 (v := ?vG26) (by simp only [List.getElem?_toArray, List.getElem?_cons_succ, List.getElem?_cons_zero]; rfl) rfl (by kernel_rfl) (by kernel_rfl) (by kernel_rfl) (fun _ _ _ h => h) (Or.inl ⟨by rfl, ?yG26⟩) hS ?_
        case yG26 =>
          intro W hSW
          (try dsimp only at hSW)
          go_simp
          first | done | with_reducible rfl
        simp only [Act.put, List.setIfInBounds_toArray, List.set_cons_zero, List.set_cons_succ]
        refine wpAnyH_done (by kernel_rfl) ?_ _
        refine NoPanic.normal ?_
        go_wp2
        go_ret
        exact ⟨rfl, bl_step (bl_step (bl_step HBR.out hBw11) hBw12) hBw13⟩
end Go.Proofs.Ytjilmgbjbkidnaa
