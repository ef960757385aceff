/-
  BitsGets: whatever is got of any bytes, a reader tells what the document says; at last the bytes that are left; one that is nil says so.
-/
import Derived.Test.YtjilmgbjbkidnaaGetsA
import Derived.Deep.Onto
namespace Go.Proofs.Ytjilmgbjbkidnaa
open Go.RowKit
attribute [local go_sem ↓] Go.wp_at_zero Go.wp_at_succ

set_option maxHeartbeats 400000 in
theorem gets_guard (A : Option Addr) (N c : Nat) (x : Value) (w : World) (h : 3000 < N) (hN : N ≤ 9223372036854775807) :
    Calls Try.prog 4 #[.slice A N c, x] w fun e w' => e = .returned (.bool true) ∧ Below w.heap.size w w' := by
  go_enter Try.func4, Try.ntmps4
  go_wp2_with (go_at_call 17; refine (alive1_any _).mono ?_; rintro e w1 ⟨rfl, hb⟩)
  go_ret
  exact ⟨rfl, hb⟩

/-- what stays: the reader at block p stands at a, the list x has all bits -/
def GetsInv (B p g : Nat) (x : Value) (bs : List Nat) (a : Nat) (w : World) : Prop := B ≤ p ∧ RRep w p g bs a ∧ OwnB B w x (bitsOf bs)

theorem OwnB.down {B B' : Nat} {w : World} {x : Value} {bl : List Bool} (h : OwnB B w x bl) (hb : B' ≤ B) : OwnB B' w x bl := ⟨h.1.mono hb, h.2⟩
theorem GetsInv.step {B p g a a' : Nat} {x : Value} {bs : List Nat} {w v : World} (h : GetsInv B p g x bs a w) (ho : Only (fun k => k = p) w v) (hr : RRep v p g bs a') : GetsInv B p g x bs a' v := by
  refine ⟨h.1, hr, own_only h.2.2.1 ho fun k hk hS => ?_, h.2.2.2⟩
  subst hS
  exact own_apart h.2.2.1 h.2.1.1 (by decide) hk
theorem src_b {w : World} {A : Option Addr} {xs : List Value} (h : Src w A xs) : SrcB w A xs := by
  intro h0
  obtain ⟨a, rfl, hc⟩ := h h0
  obtain ⟨b, off, spot⟩ := a
  have hspot : spot = none := by
    have h1 := hc 0 xs[0] (List.getElem?_eq_getElem h0)
    simpa [Addr.add] using World.cell?_spot h1
  subst hspot
  refine ⟨b, off, rfl, fun j u hu => ?_⟩
  have h1 := hc j u hu
  rw [plain_add] at h1
  exact h1

set_option maxRecDepth 100000 in
set_option maxHeartbeats 6400000 in
theorem gets_walk (A : Option Addr) (bs : List Nat) (cap : Nat) (A2 : Option Addr) (l : List Int) (cap2 : Nat) (w : World) (hn : bs.length ≤ 3000) (hcap : bs.length ≤ cap) (hs : Src w A (bts bs)) (hb : ∀ b ∈ bs, b < 256) (hs2 : ISrc w A2 l) :
    Calls Try.prog 4 #[.slice A bs.length cap, .slice A2 l.length cap2] w fun e w' => e = .returned (.bool true) ∧ Below w.heap.size w w' := by
  have HS := Lib.hid hs
  have HV := Lib.hid hb
  have HS2 := Lib.hid hs2
  have HN := Lib.hid hn
  clear hs hs2 hb
  go_enter Try.func4, Try.ntmps4
  go_wp2_with fail
  refine (read_any A cap bs _ (by have := HN.out; omega) hcap HS.out HV.out).mono ?_
  rintro e w1 ⟨p, g, rfl, hp, hg, hr1, hb1⟩
  have HR1 := Lib.hid hr1
  have HB1 := Lib.hid hb1
  clear hr1 hb1
  go_wp2_with fail
  refine (refbits_any (w := w1) (A := A) (bs := bs) cap ((src_b HS.out).later HB1.out) HN.out HV.out).mono ?_
  rintro e w2 ⟨x6, rfl, ho2, hb2⟩
  have HI := Lib.hid (show GetsInv w.heap.size p g x6 bs 0 w2 from ⟨hp, HR1.out.later hb2, ho2.down HB1.out.size⟩)
  have HB2 := Lib.hid (bl_step HB1.out hb2)
  clear ho2 hb2 HB1 HR1
  obtain ⟨A6, c6, rfl, hc6⟩ := HI.out.2.2.form'
  rw [length_bitsOf] at hc6
  rw [length_bitsOf]
  have HC6 := Lib.hid hc6
  clear hc6
  go_wp2_with fail
  go_loopw [7, 8] (fun y i wr => ∃ k a : Nat, k ≤ l.length ∧ k ≤ 200 ∧ i = .int .i64 k ∧ y = .int .i64 a ∧ a ≤ 8 * bs.length ∧ GetsInv w.heap.size p g (.slice A6 (bitsOf bs).length c6) bs a wr ∧ Below w.heap.size w wr) (fun _ i _ => l.length - (intOf i).toNat)
  case atStart => exact ⟨0, 0, by omega, by omega, rfl, rfl, by omega, HI.out, HB2.out⟩
  case round =>
    obtain ⟨k, a, hk, hk2, rfl, rfl, ha, hinv, hbr⟩ := hrel
    have HINV := Lib.hid hinv
    have HBR := Lib.hid hbr
    clear hinv hbr HI HB2
    by_cases hlt : k < l.length ∧ k < 200
    · obtain ⟨hlt, hlt2⟩ := hlt
      obtain ⟨b, off, rfl, hc⟩ := HS2.out (by omega)
      have hx : l[k]? = some l[k] := List.getElem?_eq_getElem hlt
      have c0 := hc k l[k] hx
      have d0 := cell_below c0 rfl HBR.out
      generalize l[k] = N at *
      have hbb : b < w.heap.size := by
        rcases Nat.lt_or_ge b w.heap.size with h | h
        · exact h
        · exfalso
          simp [World.cell?, Array.getElem?_eq_none h] at c0
      clear hc hx c0
      have hi0 : (0 : Int) ≤ (k : Int) := by omega
      have hi1 : (k : Int) < (l.length : Int) := by omega
      obtain ⟨V, er, nx, lf, hnx, hsub, hget, hleft, hrg⟩ := both_get (bs := bs) p g a N ha HN.out
      have HG := Lib.hid hget
      have HL := Lib.hid hleft
      have HRG := Lib.hid hrg
      have hcmp : ((lf : Int) != 8 * (bs.length : Int) - (nx : Int)) = false := by simp; omega
      clear hget hleft hrg hsub
      have hpb : b ≠ p := by have := HINV.out.1; omega
      rw [length_bitsOf] at HINV
      go_wp2_with (first
        | (go_at_call 22; refine (HG.out _ HINV.out.2.1).mono ?_; rintro e w4 ⟨rfl, ho4, hr4⟩; have d4 := cell_only d0 ho4 hpb; have H4 := Lib.hid (And.intro ho4 hr4); clear ho4 hr4)
        | (go_at_call 23; refine (HRG.out _ A6 c6 (by have h9 := HINV.out.step H4.out.1 H4.out.2; have h10 := h9.2.2.src; exact h10)).mono ?_; rintro e _ ⟨rfl, rfl⟩)
        | (go_at_call 24; refine (HL.out _ H4.out.2).mono ?_; rintro e w5 ⟨rfl, hb5⟩))
      have HI5 := Lib.hid ((HINV.out.step H4.out.1 H4.out.2).step (.of_below hb5) (H4.out.2.later hb5))
      have HB5 := Lib.hid ((HBR.out.trans (get_below H4.out.1 HINV.out.1 HBR.out.size)).trans (hb5.mono (by have := HBR.out.size; have := H4.out.1.size; omega)))
      rw [← length_bitsOf bs] at HI5
      clear hb5 HINV HBR d4 d0 H4 hcmp
      go_roundw
      case rel => exact ⟨k + 1, nx, by omega, by omega, by go_num, rfl, hnx, HI5.out, HB5.out⟩
      case measure => simp [intOf]; omega
    · obtain ⟨S, er, nx, lf, hsub, hrest, hrr⟩ := both_rest (bs := bs) p g a ha HN.out HV.out
      have HRE := Lib.hid hrest
      have HRR := Lib.hid hrr
      have hcmp : ((lf : Int) == 8 * (bs.length : Int) - (nx : Int)) = true := by simp; omega
      have HC := Lib.hid hcmp
      have hnx : nx ≤ 8 * bs.length := by omega
      have hlt' : l.length ≤ k ∨ 200 ≤ k := by omega
      clear hlt hrest hrr hsub hcmp
      rw [length_bitsOf] at HINV
      have HC8 := Lib.hid HC6.out
      clear HC6
      rcases Nat.lt_or_ge k l.length with hkl | hkl
      all_goals
        first
          | have h200 : 200 ≤ k := by omega
          | have h200 : k = l.length := by omega
        clear hlt'
        go_wp2_with fail
        refine (HRE.out _ HINV.out.2.1).mono ?_
        rintro e w4 ⟨x14, rfl, ho4, hcv4, hl4⟩
        have HO4 := Lib.hid ho4
        have HCV4 := Lib.hid hcv4
        have HL4 := Lib.hid hl4
        clear ho4 hcv4 hl4
        have HSR := Lib.hid (show SrcB w4 A6 (bls (bitsOf bs)) from (show OwnB w.heap.size w4 (.slice A6 (8 * bs.length) c6) (bitsOf bs) from ⟨own_only HINV.out.2.2.1 HO4.out fun k hk hS => by subst hS; exact own_apart HINV.out.2.2.1 HINV.out.2.1.1 (by decide) hk, HINV.out.2.2.2⟩).src)
        have HB4 := Lib.hid (HBR.out.trans (get_below HO4.out HINV.out.1 HBR.out.size))
        clear HO4
        go_wp2_with fail
        refine (HRR.out _ A6 c6 HSR.out HC8.out).mono ?_
        rintro e w5 ⟨x16, rfl, hb5, hcv5⟩
        have HCV5 := Lib.hid hcv5
        have HBB5 := Lib.hid hb5
        clear hb5 hcv5 HINV HBR HS HS2 HSR
        go_wp2_with (first
          | (go_at_call 22; refine (get_nil _ _).mono ?_; rintro e _ ⟨rfl, rfl⟩)
          | (go_at_call 25; refine (rest_nil _).mono ?_; rintro e _ ⟨rfl, rfl⟩)
          | (go_at_call 17; refine (alive1_any _).mono ?_; rintro e w6 ⟨rfl, hb6⟩; have q14 := HCV4.out w6 (bl_step HBB5.out hb6); have q16 := HCV5.out w6 hb6; have HBB6 := Lib.hid (bl_step HBB5.out hb6); have hcmp := HC.out; clear hb6)
          | (go_at_call 24; ((with_reducible refine (left_nil _).mono ?_); rintro e _ ⟨rfl, rfl⟩))
          | (go_at_call 24; ((with_reducible refine (HL4.out _ HBB6.out).mono ?_); rintro e w7 ⟨rfl, hb7⟩)))
        go_ret
        exact ⟨rfl, bl_step HB4.out (bl_step HBB6.out hb7)⟩
end Go.Proofs.Ytjilmgbjbkidnaa
