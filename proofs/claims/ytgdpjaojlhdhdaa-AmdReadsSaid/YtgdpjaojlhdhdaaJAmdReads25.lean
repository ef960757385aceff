/-
  What Read of amd answers: of the code and of the document. AmdReads: the packet that any bytes are is told, or why they are none; nothing is shared: the law walked. A law's row follows from its walk: the call returns true, and below the heap's old size the world is as it was; then every argument reads as it did.
-/
import Derived.Test.YtgdpjaojlhdhdaaJAmdReads22
import Derived.Test.YtgdpjaojlhdhdaaJAmdReads24
import Derived.Laws.BitsAllLaws
import Derived.Deep.RegionHeld3
import Derived.Test.YtgdpjaojlhdhdaaRows
import Derived.WalkKit
import Derived.ProofKit
import Derived.OpenShut
namespace Go.Proofs.Ytgdpjaojlhdhdaa
open Go.RowKit

theorem own_nilA (B : Nat) (w : World) : OwnR B w (.slice none 0 0) [] := ⟨World.ownsRow_nil _ _ _ _, fun _ h => by cases h⟩
/-- the code's and the document's Read: one error, one packet -/
def BothRdA (bs : List Nat) (n : Nat) (wd : Int) : Prop :=
  ∃ (er : Int) (poll part last : Bool) (fi sn off : Int) (T : List (List Nat)),
    (∀ W A cap, n ≤ cap → cap ≤ 9223372036854775807 → Src W A (bts bs) → Calls Try.prog 34 #[.slice A n cap, .int .i64 wd] W fun e w' => ∃ (L : List RowB) (Av : Option Addr) (c : Nat), T = texts L ∧ e = .returned (.tuple #[.agg #[.bool poll, .int .i64 fi, .int .i64 sn, .bool part, .bool last, .int .i64 off, .slice Av L.length c], .int .i64 er]) ∧ OwnR W.heap.size w' (.slice Av L.length c) L ∧ L.length ≤ c ∧ c ≤ 9223372036854775807 ∧ Below W.heap.size W w') ∧
    (∀ W A cap, n ≤ cap → cap ≤ 9223372036854775807 → Src W A (bts bs) → Calls Try.prog 35 #[.slice A n cap, .int .i64 wd] W fun e w' => ∃ (L : List RowB) (Av : Option Addr) (c : Nat), T = texts L ∧ e = .returned (.tuple #[.agg #[.bool poll, .int .i64 fi, .int .i64 sn, .bool part, .bool last, .int .i64 off, .slice Av L.length c], .int .i64 er]) ∧ RSrc w' Av L ∧ L.length ≤ c ∧ c ≤ 9223372036854775807 ∧ Below W.heap.size W w')
theorem both_aread {bs : List Nat} (wd : Int) (n : Nat) (hn : bs.length = n) (hm : n ≤ 8000) (hb : ∀ b ∈ bs, b < 256) : BothRdA bs n wd := by
  by_cases hw : wd = 10 ∨ wd = 16
  · obtain ⟨d, rfl⟩ : ∃ d : Nat, wd = d := ⟨wd.toNat, by omega⟩
    have hwd : d = 10 ∨ d = 16 := by omega
    have h1 := fun (W : World) (A : Option Addr) (cap : Nat) (g1 : n ≤ cap) (g2 : cap ≤ 9223372036854775807) (g3 : Src W A (bts bs)) => aread_yes d n cap W hwd hn (by omega) g1 g2 g3 hb
    have h2 := fun (W : World) (A : Option Addr) (cap : Nat) (g1 : n ≤ cap) (g2 : cap ≤ 9223372036854775807) (g3 : Src W A (bts bs)) => rr10_yes d n cap W hwd hn hm g1 g2 g3 hb
    by_cases h0 : (amdRd bs d).1 = 0
    · refine ⟨0, (amdRd bs d).2.1.poll, (amdRd bs d).2.1.part, (amdRd bs d).2.1.last, (amdRd bs d).2.1.fi, (amdRd bs d).2.1.sn, (amdRd bs d).2.1.off, (amdRd bs d).2.2, fun W A cap g1 g2 g3 => (h1 W A cap g1 g2 g3).mono ?_, fun W A cap g1 g2 g3 => (h2 W A cap g1 g2 g3).mono ?_⟩
      · rintro e w' ⟨h | h, hbl⟩
        · obtain ⟨_, v, L, h3, rfl, ho⟩ := h
          obtain ⟨Av, cv, rfl, k1, k2⟩ := ho.form
          exact ⟨L, Av, cv, h3, rfl, ho, k1, k2, hbl⟩
        · exact absurd h0 h.1
      · rintro e w' ⟨h | h, hbl⟩
        · obtain ⟨_, A', c, L, h3, rfl, ho, k1, k2⟩ := h
          exact ⟨L, A', c, h3, rfl, ho, k1, k2, hbl⟩
        · exact absurd h0 h.1
    · refine ⟨(amdRd bs d).1, false, false, false, 0, 0, 0, [], fun W A cap g1 g2 g3 => (h1 W A cap g1 g2 g3).mono ?_, fun W A cap g1 g2 g3 => (h2 W A cap g1 g2 g3).mono ?_⟩
      · rintro e w' ⟨h | h, hbl⟩
        · exact absurd h.1 h0
        · obtain ⟨_, rfl⟩ := h
          exact ⟨[], none, 0, rfl, rfl, own_nilA _ _, Nat.le_refl _, by omega, hbl⟩
      · rintro e w' ⟨h | h, hbl⟩
        · exact absurd h.1 h0
        · obtain ⟨_, rfl⟩ := h
          exact ⟨[], none, 0, rfl, rfl, fun h => absurd h (by simp), Nat.le_refl _, by omega, hbl⟩
  · have hx : (headA false wd == 0) = true := by
      have : headA false wd = 0 := by unfold headA; rw [if_neg (fun h => hw (.inl h)), if_neg (fun h => hw (.inr h))]
      rw [this]; rfl
    refine ⟨9, false, false, false, 0, 0, 0, [], fun W A cap g1 g2 g3 => (aread_kind n cap wd W hw).mono ?_, fun W A cap g1 g2 g3 => (rr10_kind _ wd n cap W (fun W => rahead_any false wd W) hx).mono ?_⟩
    · rintro e w' ⟨rfl, hbl⟩
      exact ⟨[], none, 0, rfl, rfl, own_nilA _ _, Nat.le_refl _, by omega, hbl⟩
    · rintro e w' ⟨rfl, hbl⟩
      exact ⟨[], none, 0, rfl, rfl, fun h => absurd h (by simp), Nat.le_refl _, by omega, hbl⟩
end Go.Proofs.Ytgdpjaojlhdhdaa
namespace Go.Proofs.Ytgdpjaojlhdhdaa
open Go.RowKit


/-- bytes of the call's own, whatever they are -/
def AnyY (B : Nat) (w : World) (v : Value) (n : Nat) : Prop := ∃ l : List Nat, l.length = n ∧ (∀ b ∈ l, b < 256) ∧ w.ownsRow B 5 1 v n (bts l)
theorem keep14b {W V : World} {g h : Nat} {a0 a1 a2 a3 a4 a5 a6 b0 b1 b2 b3 b4 b5 b6 : Value} (h1 : Row W g 57 #[a0, a1, a2, a3, a4, a5, a6]) (h2 : Row W h 60 #[b0, b1, b2, b3, b4, b5, b6]) (hb : Below W.heap.size W V) :
    V.cell? ⟨g, 0, none⟩ = some a0 ∧ V.cell? ⟨g, 1, none⟩ = some a1 ∧ V.cell? ⟨g, 2, none⟩ = some a2 ∧ V.cell? ⟨g, 3, none⟩ = some a3 ∧ V.cell? ⟨g, 4, none⟩ = some a4 ∧ V.cell? ⟨g, 5, none⟩ = some a5 ∧ V.cell? ⟨g, 6, none⟩ = some a6 ∧ V.cell? ⟨h, 0, none⟩ = some b0 ∧ V.cell? ⟨h, 1, none⟩ = some b1 ∧ V.cell? ⟨h, 2, none⟩ = some b2 ∧ V.cell? ⟨h, 3, none⟩ = some b3 ∧ V.cell? ⟨h, 4, none⟩ = some b4 ∧ V.cell? ⟨h, 5, none⟩ = some b5 ∧ V.cell? ⟨h, 6, none⟩ = some b6 :=
  ⟨(h1.later hb).read rfl, (h1.later hb).read rfl, (h1.later hb).read rfl, (h1.later hb).read rfl, (h1.later hb).read rfl, (h1.later hb).read rfl, (h1.later hb).read rfl, (h2.later hb).read rfl, (h2.later hb).read rfl, (h2.later hb).read rfl, (h2.later hb).read rfl, (h2.later hb).read rfl, (h2.later hb).read rfl, (h2.later hb).read rfl⟩
theorem own_e0 (w : World) : OwnY w.heap.size (w.alloc (.cells #[] 5)) (.slice (some ⟨w.heap.size, 0, none⟩) 0 0) [] :=
  ⟨by simp [bts], .inr ⟨w.heap.size, 0, #[], rfl, Nat.le_refl _, heap_alloc_new _ _, Nat.le_refl _, by simp [maxLen], rfl, by simp [bts]⟩⟩
set_option maxRecDepth 100000 in
set_option maxHeartbeats 6400000 in
theorem areads_walk {A : Option Addr} {bs : List Nat} (wd : Int) (n cap : Nat) (w : World) (hn : bs.length = n) (hm : n ≤ 4100) (hc : n ≤ cap) (hcm : cap ≤ 9223372036854775807) (hs : Src w A (bts bs)) (hb : ∀ b ∈ bs, b < 256) :
    Calls Try.prog 5 #[.slice A n cap, .int .i64 wd] w fun e w' => e = .returned (.bool true) ∧ Below w.heap.size w w' := by
  obtain ⟨er, poll, part, last, fi, sn, off, T, hR, hS⟩ := both_aread wd n hn (by omega) hb
  have h41 : ¬ (4100 : Int) < n := by omega
  obtain ⟨A1, c1, w1, hr1, ho1, hb1, _, _⟩ := app_bytes (B := w.heap.size) (l := []) n cap (own_e0 w) (by simp) (src_later hs (bl_alloc (Below.refl _ _) _)) hn (by simp; omega)
  simp only [List.length_nil, Nat.zero_add, List.nil_append] at hr1 ho1
  have hb01 : Below w.heap.size w w1 := ((bl_alloc (Below.refl w.heap.size w) _)).trans hb1
  obtain ⟨A1', c1', e1, g1, g2⟩ := ho1.form
  rw [hn] at e1 g1
  injection e1 with e1 e2 e3
  subst e1 e3
  unfold maxLen at g2
  have HR1 := Lib.hid (hR w1 A1 c1 g1 (by omega) ho1.src)
  have HR2 := Lib.hid (fun W (hbw : Below w.heap.size w W) => hS W A cap hc hcm (src_later hs hbw))
  have HANY := Lib.hid (show AnyY w.heap.size w1 (.slice A1 n c1) n from ⟨bs, hn, hb, by have h9 := ho1; unfold OwnY at h9; rw [hn] at h9; exact h9⟩)
  have HB01 := Lib.hid hb01
  have hEE : (er == er) = true := by simp
  clear hR hS hs hb hn ho1 hb1 hb01 g1 g2 e2
  go_enter Try.func5, Try.ntmps5
  go_wp2_with (first
    | (at_builtin; refine wpList_run rfl (.tmp 15) (.tmp 16) 30 rfl (.slice (some ⟨w.heap.size, 0, none⟩) 0 0) (.slice A n cap) (by rfl) (by rfl) hr1 ?_)
    | (go_at_call 34; (with_reducible refine HR1.out.mono ?_); rintro e w2 ⟨L2, A2, c2, ht2, rfl, ho2, hl2, hc2, hb2⟩; (have HT2 := Lib.hid ht2; have HO2 := Lib.hid ho2; have HB2 := Lib.hid hb2; clear ht2 ho2 hb2)))
  have HSI := Lib.hid (show w1.heap.size ≤ w2.heap.size from HB2.out.size)
  have HOWN0 : ∀ k, (Value.slice A1 n c1).ownBlock = some k → w.heap.size ≤ k ∧ k < w1.heap.size := fun k hk => by
    obtain ⟨l, _, _, h9⟩ := HANY.out
    exact h9.lt k hk
  have HOWN := Lib.hid HOWN0
  clear HOWN0
  have HY2 := Lib.hid (show AnyY w.heap.size (w2.alloc (.cells #[.bool poll, .int .i64 fi, .int .i64 sn, .bool part, .bool last, .int .i64 off, .slice A2 L2.length c2] 57)) (.slice A1 n c1) n from by
    obtain ⟨l, h7, h8, h9⟩ := HANY.out
    exact ⟨l, h7, h8, own_later2 h9 (bl_alloc HB2.out _)⟩)
  have ROW2 := Lib.hid (Row.made w2 57 #[.bool poll, .int .i64 fi, .int .i64 sn, .bool part, .bool last, .int .i64 off, .slice A2 L2.length c2])
  have HOR2 := Lib.hid (HO2.out.later (bl_alloc (Below.refl _ _) (.cells #[.bool poll, .int .i64 fi, .int .i64 sn, .bool part, .bool last, .int .i64 off, .slice A2 L2.length c2] 57)))
  have HBW2 := Lib.hid (bl_alloc (HB01.out.trans (HB2.out.mono HB01.out.size)) (.cells #[.bool poll, .int .i64 fi, .int .i64 sn, .bool part, .bool last, .int .i64 off, .slice A2 L2.length c2] 57))
  have hsz2 : w2.heap.size < (w2.alloc (.cells #[.bool poll, .int .i64 fi, .int .i64 sn, .bool part, .bool last, .int .i64 off, .slice A2 L2.length c2] 57)).heap.size := by simp
  generalize hwq : w2.alloc (.cells #[.bool poll, .int .i64 fi, .int .i64 sn, .bool part, .bool last, .int .i64 off, .slice A2 L2.length c2] 57) = wq at *
  clear hwq
  go_loopw [8] (fun iv wr => ∃ k : Nat, k ≤ n ∧ iv = .int .i64 k ∧ Hid (AnyY w.heap.size wr (.slice A1 n c1) n) ∧ Hid (Only (fun k => (Value.slice A1 n c1).ownBlock = some k) wq wr)) (fun iv _ => n - (intOf iv).toNat)
  case atStart => exact ⟨0, by omega, rfl, HY2, Lib.hid (Only.refl _ _)⟩
  case round =>
    obtain ⟨k, hk, rfl, HY, HON⟩ := hrel
    by_cases hlt : k < n
    · obtain ⟨l, hl1, hl2', hl3⟩ := HY.out
      obtain ⟨g, cap', hv, hgB, hgl⟩ := hl3.form (by omega)
      injection hv with hA _ hcc
      subst hA
      obtain ⟨b, hbk⟩ : ∃ b, l[k]? = some b := ⟨_, List.getElem?_eq_getElem (by omega)⟩
      have hb256 := hl2' b (List.mem_of_getElem? hbk)
      have hcell : wr.cell? ⟨g, k, none⟩ = some (.int .u8 b) := by
        have h9 := hl3.cells (g := g) rfl k _ (bts_at hbk)
        rw [add_zero_addr] at h9
        exact h9
      have hfr := hl3.frozenAt k
      have hx := u8_xor_nat b 255 hb256 (by omega)
      have hxl : b ^^^ 255 < 256 := Nat.xor_lt_two_pow (n := 8) (by omega) (by omega)
      have hx255 : bits .xor .u8 (b : Int) 255 = ((b ^^^ 255 : Nat) : Int) := hx
      have HY3 := Lib.hid (show AnyY w.heap.size (wr.setCell ⟨g, k, none⟩ (.int .u8 ((b ^^^ 255 : Nat) : Int))) (.slice (some ⟨g, 0, none⟩) n c1) n from
        ⟨l.set k (b ^^^ 255), by rw [List.length_set, hl1], fun x hx => by
          rcases List.mem_or_eq_of_mem_set hx with h9 | h9
          · exact hl2' x h9
          · rw [h9]; exact hxl, by
          have h9 := (hl3.stored k (.int .u8 ((b ^^^ 255 : Nat) : Int))).1
          rw [bts_set]
          exact h9⟩)
      have HON3 := Lib.hid (HON.out.set (p := ⟨g, k, none⟩) (.inl rfl) (.int .u8 ((b ^^^ 255 : Nat) : Int)))
      clear hl1 hl2' hl3 hbk hx hxl
      generalize ((b ^^^ 255 : Nat) : Int) = z at *
      go_wp2
      go_roundw
      case rel => exact ⟨k + 1, by omega, by go_num, HY3, HON3⟩
      case measure => simp [intOf]; omega
    · have hbr := HBW2.out.trans (HON.out.below HBW2.out.size (fun k h9 hS => by have := (HOWN.out k hS).1; omega))
      have HBR := Lib.hid hbr
      have HCR := Lib.hid (HR2.out wr hbr)
      have ROWR := Lib.hid (ROW2.out.only HON.out (fun hS => by have := (HOWN.out _ hS).2; have := HSI.out; omega))
      have HOR := Lib.hid (HOR2.out.only HON.out (fun k h8 hS => by have := (HOWN.out _ hS).2; have := (HOR2.out.own.lt k h8).1; omega) (fun k cs _ h8 hS => by have := (HOWN.out _ hS).2; omega))
      clear hbr
      go_wp2_with (go_at_call 35; (with_reducible refine HCR.out.mono ?_); rintro e w5 ⟨L5, A5, c5, ht5, rfl, ho5, hl5, hc5, hb5⟩; (have HT5 := Lib.hid ht5; have HO5 := Lib.hid ho5; have HB5 := Lib.hid hb5; clear ht5 ho5 hb5))
      have ROW5 := Lib.hid ((ROWR.out.later HB5.out).more (.cells #[.bool poll, .int .i64 fi, .int .i64 sn, .bool part, .bool last, .int .i64 off, .slice A5 L5.length c5] 60))
      have ROWQ := Lib.hid (Row.made w5 60 #[.bool poll, .int .i64 fi, .int .i64 sn, .bool part, .bool last, .int .i64 off, .slice A5 L5.length c5])
      have HOP := Lib.hid (((HOR.out.later HB5.out).later (bl_alloc (Below.refl _ _) (.cells #[.bool poll, .int .i64 fi, .int .i64 sn, .bool part, .bool last, .int .i64 off, .slice A5 L5.length c5] 60))).src)
      have HOQ := Lib.hid (HO5.out.later (bl_alloc (Below.refl _ _) (.cells #[.bool poll, .int .i64 fi, .int .i64 sn, .bool part, .bool last, .int .i64 off, .slice A5 L5.length c5] 60)))
      have HBT := Lib.hid (bl_alloc (HBR.out.trans (HB5.out.mono HBR.out.size)) (.cells #[.bool poll, .int .i64 fi, .int .i64 sn, .bool part, .bool last, .int .i64 off, .slice A5 L5.length c5] 60))
      generalize hwt : w5.alloc (.cells #[.bool poll, .int .i64 fi, .int .i64 sn, .bool part, .bool last, .int .i64 off, .slice A5 L5.length c5] 60) = wt at *
      clear hwt
      have kq := keep14b ROW5.out ROWQ.out (bl_drew (Below.refl wt.heap.size wt))
      have HASP := Lib.hid (fun W => aas_any poll part last fi sn off A2 L2.length c2 W)
      have HSM := Lib.hid (fun W (hb : Below wt.heap.size wt W) => (show Calls Try.prog 36 #[.agg #[.bool poll, .int .i64 fi, .int .i64 sn, .bool part, .bool last, .int .i64 off, .slice A2 L2.length c2], .agg #[.bool poll, .int .i64 fi, .int .i64 sn, .bool part, .bool last, .int .i64 off, .slice A5 L5.length c5]] W fun e w' => e = .returned (.bool true) ∧ Below W.heap.size W w' from by
        have h1 := rasame_any (A := A2) (B := A5) poll part last fi sn off poll part last fi sn off L2.length L5.length c2 c5 W rfl rfl (by omega) (HOP.out.later hb) (HOQ.out.later hb)
        rw [← HT2.out, ← HT5.out, eqA_self] at h1
        exact h1))
      go_wp2_with fail
      go_region_held3 (fun w' => w'.cell? ⟨w2.heap.size, 0, none⟩ = some (.bool poll) ∧ w'.cell? ⟨w2.heap.size, 1, none⟩ = some (.int .i64 fi) ∧ w'.cell? ⟨w2.heap.size, 2, none⟩ = some (.int .i64 sn) ∧ w'.cell? ⟨w2.heap.size, 3, none⟩ = some (.bool part) ∧ w'.cell? ⟨w2.heap.size, 4, none⟩ = some (.bool last) ∧ w'.cell? ⟨w2.heap.size, 5, none⟩ = some (.int .i64 off) ∧ w'.cell? ⟨w2.heap.size, 6, none⟩ = some (.slice A2 L2.length c2) ∧ w'.cell? ⟨w5.heap.size, 0, none⟩ = some (.bool poll) ∧ w'.cell? ⟨w5.heap.size, 1, none⟩ = some (.int .i64 fi) ∧ w'.cell? ⟨w5.heap.size, 2, none⟩ = some (.int .i64 sn) ∧ w'.cell? ⟨w5.heap.size, 3, none⟩ = some (.bool part) ∧ w'.cell? ⟨w5.heap.size, 4, none⟩ = some (.bool last) ∧ w'.cell? ⟨w5.heap.size, 5, none⟩ = some (.int .i64 off) ∧ w'.cell? ⟨w5.heap.size, 6, none⟩ = some (.slice A5 L5.length c5)) (first | assumption | go_keep) (first
        | (go_at_call 33; (with_reducible refine (aalive_any _).mono ?_); rintro e v1 ⟨rfl, hv1⟩; have h01 := bl_step (bl_drew (Below.refl wt.heap.size wt)) hv1; have k1 := keep14b ROW5.out ROWQ.out h01; have H01 := Lib.hid h01)
        | (go_at_call 37; (with_reducible refine (HASP.out _).mono ?_); rintro e v2 ⟨rfl, hv2⟩; have h02 := bl_step H01.out hv2; have k2 := keep14b ROW5.out ROWQ.out h02; have H02 := Lib.hid h02)
        | (go_at_call 36; (with_reducible refine (HSM.out _ H02.out).mono ?_); rintro e v3 ⟨rfl, hv3⟩; have h03 := bl_step H02.out hv3; have k3 := keep14b ROW5.out ROWQ.out h03; have HV3 := Lib.hid (HBT.out.trans (h03.mono HBT.out.size))))
      go_wp2
      go_ret
      exact ⟨rfl, HV3.out⟩
theorem areads_all {A : Option Addr} (wd : Int) (bs : List Nat) (cap : Nat) (w : World) (hc : bs.length ≤ cap) (hcm : cap ≤ 9223372036854775807) (hs : Src w A (bts bs)) (hb : ∀ b ∈ bs, b < 256) :
    Calls Try.prog 5 #[.slice A bs.length cap, .int .i64 wd] w fun e w' => e = .returned (.bool true) ∧ Below w.heap.size w w' := by
  rcases Nat.lt_or_ge 4100 bs.length with h | h
  · have h41 : (4100 : Int) < bs.length := by omega
    generalize bs.length = n at *
    clear hs hb
    go_enter Try.func5, Try.ntmps5
    go_wp2_with (go_at_call 33; refine (aalive_any _).mono ?_; rintro e w2 ⟨rfl, hb2⟩)
    go_ret
    exact ⟨rfl, hb2⟩
  · exact areads_walk wd bs.length cap w rfl h hc hcm hs hb
end Go.Proofs.Ytgdpjaojlhdhdaa
namespace Go.Proofs.Ytgdpjaojlhdhdaa
open Go.ChangeShapes Go.WideShapes Go.ChangeAt Go.RowKit

theorem lawOwn : ownKnob Try.prog.godebug = none := by kernel_rfl
theorem lawLaid : laidOutB Try.prog = true := by kernel_rfl

section
variable {H : Type} {enc : TypeId × Value → H} {P : Program}
/-- what was read in the old world is read in the new one -/
theorem args_stay (hl : laidOutB P = true) {W W' : World} (hb : Below W.heap.size W W') : ∀ (ts : List TypeId) (vs : List Value) (ds : List (DataW H)) (ps : List MemPlace),
    (∀ t ∈ ts, P.readableRec t = true ∧ t < P.types.size) → DataW.TrodAll enc P W 0 (fun _ => true) true ts vs ds ps → (∀ x ∈ ps, x.block < W.heap.size) →
    DataW.TrodAll enc P W' 0 (fun b => decide (b < W.heap.size)) true ts vs ds ps := by
  intro ts
  induction ts with
  | nil =>
    intro vs ds ps _ h _
    obtain ⟨rfl, rfl, rfl⟩ := trodAll_nil h
    exact trodAll_mk0
  | cons t ts ih =>
    intro vs ds ps hr h hlt
    obtain ⟨v, vs', d, ds', p, q, rfl, rfl, rfl, h1, h2⟩ := trodAll_cons h
    have ht := hr t (List.mem_cons_self ..)
    exact trodAll_cons_mk (Below.trod hl ht.1 ht.2 h1 hb fun x hx => hlt x (List.mem_append_left _ hx))
      (ih vs' ds' q (fun u hu => hr u (List.mem_cons_of_mem _ hu)) h2 fun x hx => hlt x (List.mem_append_right _ hx))

theorem law_post {f : Func} {s : ChangeSpec} {W W' : World} {args : Array Value} {ds gs : List (DataW H)} {before : List MemPlace} {B : TypeId}
    (hl : laidOutB P = true) (hr : f.params.toList.all (fun t => P.readableRec t && decide (t < P.types.size)) = true) (hv : s.vars = [])
    (hW : DataW.Whole enc P f.params.toList s.vars false W args.toList ds gs before)
    (hs : s.fn H (ds ++ gs) = { results := [.lit (.bool true)], args := ds }) (ht : f.resultTypes = #[B]) (hB : P.underlying B = some .bool)
    (hb : Below W.heap.size W W') : s.post enc P f false true false false W args (.bool true) W' := by
  have hW' := hW
  obtain ⟨p, q, hA, hV, rfl, _, _⟩ := hW
  rw [hv] at hV
  obtain ⟨rfl, rfl⟩ := trodVars_none hV
  refine ⟨ds, [], p ++ [], [], p, [], hW', ?_, ?_, ?_, hb.frame _, fun h => by cases h⟩
  · rw [hs, ht]
    exact trodAll_mk1 (shut_bool hB true)
  · rw [hs]
    exact args_stay hl hb _ _ _ _ (fun t h => by have := List.all_eq_true.1 hr t h; simpa using this) hA fun x hx => hW'.lt x (List.mem_append_left _ hx)
  · rw [hs, hv]
    exact rfl
end
end Go.Proofs.Ytgdpjaojlhdhdaa
