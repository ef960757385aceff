/-
  UmdReads: the packet that any bytes are is told, or why they are none; nothing is shared: the law walked.
-/
import Derived.Test.YtdklddpkklodnaaUReadsK
import Derived.Laws.BitsAllLaws
import Derived.Deep.RegionHeld3
namespace Go.Proofs.Ytdklddpkklodnaa
open Go.RowKit


/-- bytes of the call's own, whatever they are -/
def AnyY (B : Nat) (w : World) (v : Value) (n : Nat) : Prop := ∃ l : List Nat, l.length = n ∧ (∀ b ∈ l, b < 256) ∧ w.ownsRow B 5 1 v n (bts l)
theorem keep6b {W V : World} {g h : Nat} {a b c d e f : Value} (h1 : Row W g 24 #[a, b, c]) (h2 : Row W h 28 #[d, e, f]) (hb : Below W.heap.size W V) :
    V.cell? ⟨g, 0, none⟩ = some a ∧ V.cell? ⟨g, 1, none⟩ = some b ∧ V.cell? ⟨g, 2, none⟩ = some c ∧ V.cell? ⟨h, 0, none⟩ = some d ∧ V.cell? ⟨h, 1, none⟩ = some e ∧ V.cell? ⟨h, 2, none⟩ = some f :=
  ⟨(h1.later hb).read rfl, (h1.later hb).read rfl, (h1.later hb).read rfl, (h2.later hb).read rfl, (h2.later hb).read rfl, (h2.later hb).read rfl⟩
theorem own_e0 (w : World) : OwnY w.heap.size (w.alloc (.cells #[] 5)) (.slice (some ⟨w.heap.size, 0, none⟩) 0 0) [] :=
  ⟨by simp [bts], .inr ⟨w.heap.size, 0, #[], rfl, Nat.le_refl _, heap_alloc_new _ _, Nat.le_refl _, by simp [maxLen], rfl, by simp [bts]⟩⟩
set_option maxRecDepth 100000 in
set_option maxHeartbeats 6400000 in
theorem ureads_walk {A : Option Addr} {bs : List Nat} (wd : Int) (n cap : Nat) (w : World) (hn : bs.length = n) (hm : n ≤ 4100) (hc : n ≤ cap) (hcm : cap ≤ 9223372036854775807) (hs : Src w A (bts bs)) (hb : ∀ b ∈ bs, b < 256) :
    Calls Try.prog 4 #[.slice A n cap, .int .i64 wd] w fun e w' => e = .returned (.bool true) ∧ Below w.heap.size w w' := by
  obtain ⟨er, fi, sn, T, hR, hS⟩ := both_uread wd n hn (by omega) hb
  have h41 : ¬ (4100 : Int) < n := by omega
  obtain ⟨A1, c1, w1, hr1, ho1, hb1, _, _⟩ := app_bytes (B := w.heap.size) (l := []) n cap (own_e0 w) (by simp) (src_later hs (bl_alloc (Below.refl _ _) _)) hn (by simp; omega)
  simp only [List.length_nil, Nat.zero_add, List.nil_append] at hr1 ho1
  have hb01 : Below w.heap.size w w1 := ((bl_alloc (Below.refl w.heap.size w) _)).trans hb1
  obtain ⟨A1', c1', e1, g1, g2⟩ := ho1.form
  rw [hn] at e1 g1
  injection e1 with e1 e2 e3
  subst e1 e3
  unfold maxLen at g2
  have HR1 := Lib.hid (hR w1 A1 c1 g1 (by omega) ho1.src)
  have HR2 := Lib.hid (fun W (hbw : Below w.heap.size w W) => hS W A cap hc hcm (src_later hs hbw))
  have HANY := Lib.hid (show AnyY w.heap.size w1 (.slice A1 n c1) n from ⟨bs, hn, hb, by have h9 := ho1; unfold OwnY at h9; rw [hn] at h9; exact h9⟩)
  have HB01 := Lib.hid hb01
  have hEE : (er == er) = true := by simp
  clear hR hS hs hb hn ho1 hb1 hb01 g1 g2 e2
  go_enter Try.func4, Try.ntmps4
  go_wp2_with (first
    | (at_builtin; refine wpList_run rfl (.tmp 15) (.tmp 16) 30 rfl (.slice (some ⟨w.heap.size, 0, none⟩) 0 0) (.slice A n cap) (by rfl) (by rfl) hr1 ?_)
    | (go_at_call 21; (with_reducible refine HR1.out.mono ?_); rintro e w2 ⟨L2, A2, c2, ht2, rfl, ho2, hl2, hc2, hb2⟩; (have HT2 := Lib.hid ht2; have HO2 := Lib.hid ho2; have HB2 := Lib.hid hb2; clear ht2 ho2 hb2)))
  have HSI := Lib.hid (show w1.heap.size ≤ w2.heap.size from HB2.out.size)
  have HOWN0 : ∀ k, (Value.slice A1 n c1).ownBlock = some k → w.heap.size ≤ k ∧ k < w1.heap.size := fun k hk => by
    obtain ⟨l, _, _, h9⟩ := HANY.out
    exact h9.lt k hk
  have HOWN := Lib.hid HOWN0
  clear HOWN0
  have HY2 := Lib.hid (show AnyY w.heap.size (w2.alloc (.cells #[.int .i64 fi, .int .i64 sn, .slice A2 L2.length c2] 24)) (.slice A1 n c1) n from by
    obtain ⟨l, h7, h8, h9⟩ := HANY.out
    exact ⟨l, h7, h8, own_later2 h9 (bl_alloc HB2.out _)⟩)
  have ROW2 := Lib.hid (Row.made w2 24 #[.int .i64 fi, .int .i64 sn, .slice A2 L2.length c2])
  have HOR2 := Lib.hid (HO2.out.later (bl_alloc (Below.refl _ _) (.cells #[.int .i64 fi, .int .i64 sn, .slice A2 L2.length c2] 24)))
  have HBW2 := Lib.hid (bl_alloc (HB01.out.trans (HB2.out.mono HB01.out.size)) (.cells #[.int .i64 fi, .int .i64 sn, .slice A2 L2.length c2] 24))
  have hsz2 : w2.heap.size < (w2.alloc (.cells #[.int .i64 fi, .int .i64 sn, .slice A2 L2.length c2] 24)).heap.size := by simp
  generalize hwq : w2.alloc (.cells #[.int .i64 fi, .int .i64 sn, .slice A2 L2.length c2] 24) = wq at *
  clear hwq
  go_loopw [8] (fun iv wr => ∃ k : Nat, k ≤ n ∧ iv = .int .i64 k ∧ Hid (AnyY w.heap.size wr (.slice A1 n c1) n) ∧ Hid (Only (fun k => (Value.slice A1 n c1).ownBlock = some k) wq wr)) (fun iv _ => n - (intOf iv).toNat)
  case atStart => exact ⟨0, by omega, rfl, HY2, Lib.hid (Only.refl _ _)⟩
  case round =>
    obtain ⟨k, hk, rfl, HY, HON⟩ := hrel
    by_cases hlt : k < n
    · obtain ⟨l, hl1, hl2', hl3⟩ := HY.out
      obtain ⟨g, cap', hv, hgB, hgl⟩ := hl3.form (by omega)
      injection hv with hA _ hcc
      subst hA
      obtain ⟨b, hbk⟩ : ∃ b, l[k]? = some b := ⟨_, List.getElem?_eq_getElem (by omega)⟩
      have hb256 := hl2' b (List.mem_of_getElem? hbk)
      have hcell : wr.cell? ⟨g, k, none⟩ = some (.int .u8 b) := by
        have h9 := hl3.cells (g := g) rfl k _ (bts_at hbk)
        rw [add_zero_addr] at h9
        exact h9
      have hfr := hl3.frozenAt k
      have hx := u8_xor_nat b 255 hb256 (by omega)
      have hxl : b ^^^ 255 < 256 := Nat.xor_lt_two_pow (n := 8) (by omega) (by omega)
      have hx255 : bits .xor .u8 (b : Int) 255 = ((b ^^^ 255 : Nat) : Int) := hx
      have HY3 := Lib.hid (show AnyY w.heap.size (wr.setCell ⟨g, k, none⟩ (.int .u8 ((b ^^^ 255 : Nat) : Int))) (.slice (some ⟨g, 0, none⟩) n c1) n from
        ⟨l.set k (b ^^^ 255), by rw [List.length_set, hl1], fun x hx => by
          rcases List.mem_or_eq_of_mem_set hx with h9 | h9
          · exact hl2' x h9
          · rw [h9]; exact hxl, by
          have h9 := (hl3.stored k (.int .u8 ((b ^^^ 255 : Nat) : Int))).1
          rw [bts_set]
          exact h9⟩)
      have HON3 := Lib.hid (HON.out.set (p := ⟨g, k, none⟩) (.inl rfl) (.int .u8 ((b ^^^ 255 : Nat) : Int)))
      clear hl1 hl2' hl3 hbk hx hxl
      generalize ((b ^^^ 255 : Nat) : Int) = z at *
      go_wp2
      go_roundw
      case rel => exact ⟨k + 1, by omega, by go_num, HY3, HON3⟩
      case measure => simp [intOf]; omega
    · have hbr := HBW2.out.trans (HON.out.below HBW2.out.size (fun k h9 hS => by have := (HOWN.out k hS).1; omega))
      have HBR := Lib.hid hbr
      have HCR := Lib.hid (HR2.out wr hbr)
      have ROWR := Lib.hid (ROW2.out.only HON.out (fun hS => by have := (HOWN.out _ hS).2; have := HSI.out; omega))
      have HOR := Lib.hid (HOR2.out.only HON.out (fun k h8 hS => by have := (HOWN.out _ hS).2; have := (HOR2.out.own.lt k h8).1; omega) (fun k cs _ h8 hS => by have := (HOWN.out _ hS).2; omega))
      clear hbr
      go_wp2_with (go_at_call 22; (with_reducible refine HCR.out.mono ?_); rintro e w5 ⟨L5, A5, c5, ht5, rfl, ho5, hl5, hc5, hb5⟩; (have HT5 := Lib.hid ht5; have HO5 := Lib.hid ho5; have HB5 := Lib.hid hb5; clear ht5 ho5 hb5))
      have ROW5 := Lib.hid ((ROWR.out.later HB5.out).more (.cells #[.int .i64 fi, .int .i64 sn, .slice A5 L5.length c5] 28))
      have ROWQ := Lib.hid (Row.made w5 28 #[.int .i64 fi, .int .i64 sn, .slice A5 L5.length c5])
      have HOP := Lib.hid (((HOR.out.later HB5.out).later (bl_alloc (Below.refl _ _) (.cells #[.int .i64 fi, .int .i64 sn, .slice A5 L5.length c5] 28))).src)
      have HOQ := Lib.hid (HO5.out.later (bl_alloc (Below.refl _ _) (.cells #[.int .i64 fi, .int .i64 sn, .slice A5 L5.length c5] 28)))
      have HBT := Lib.hid (bl_alloc (HBR.out.trans (HB5.out.mono HBR.out.size)) (.cells #[.int .i64 fi, .int .i64 sn, .slice A5 L5.length c5] 28))
      generalize hwt : w5.alloc (.cells #[.int .i64 fi, .int .i64 sn, .slice A5 L5.length c5] 28) = wt at *
      clear hwt
      have kq := keep6b ROW5.out ROWQ.out (bl_drew (Below.refl wt.heap.size wt))
      have HASP := Lib.hid (fun W => as_any (.int .i64 fi) (.int .i64 sn) A2 L2.length c2 fi sn W rfl rfl)
      have HSM := Lib.hid (fun W (hb : Below wt.heap.size wt W) => (show Calls Try.prog 19 #[.agg #[.int .i64 fi, .int .i64 sn, .slice A2 L2.length c2], .agg #[.int .i64 fi, .int .i64 sn, .slice A5 L5.length c5]] W fun e w' => e = .returned (.bool true) ∧ Below W.heap.size W w' from by
        have h1 := rsame_any (A := A2) (B := A5) fi sn fi sn L2.length L5.length c2 c5 W rfl rfl (by omega) (HOP.out.later hb) (HOQ.out.later hb)
        rw [← HT2.out, ← HT5.out, eqP_self] at h1
        exact h1))
      go_wp2_with fail
      go_region_held3 (fun w' => w'.cell? ⟨w2.heap.size, 0, none⟩ = some (.int .i64 fi) ∧ w'.cell? ⟨w2.heap.size, 1, none⟩ = some (.int .i64 sn) ∧ w'.cell? ⟨w2.heap.size, 2, none⟩ = some (.slice A2 L2.length c2) ∧ w'.cell? ⟨w5.heap.size, 0, none⟩ = some (.int .i64 fi) ∧ w'.cell? ⟨w5.heap.size, 1, none⟩ = some (.int .i64 sn) ∧ w'.cell? ⟨w5.heap.size, 2, none⟩ = some (.slice A5 L5.length c5)) (first | assumption | go_keep) (first
        | (go_at_call 12; (with_reducible refine (ualive_any _).mono ?_); rintro e v1 ⟨rfl, hv1⟩; have h01 := bl_step (bl_drew (Below.refl wt.heap.size wt)) hv1; have k1 := keep6b ROW5.out ROWQ.out h01; have H01 := Lib.hid h01)
        | (go_at_call 14; (with_reducible refine (HASP.out _).mono ?_); rintro e v2 ⟨rfl, hv2⟩; have h02 := bl_step H01.out hv2; have k2 := keep6b ROW5.out ROWQ.out h02; have H02 := Lib.hid h02)
        | (go_at_call 19; (with_reducible refine (HSM.out _ H02.out).mono ?_); rintro e v3 ⟨rfl, hv3⟩; have h03 := bl_step H02.out hv3; have k3 := keep6b ROW5.out ROWQ.out h03; have HV3 := Lib.hid (HBT.out.trans (h03.mono HBT.out.size))))
      go_wp2
      go_ret
      exact ⟨rfl, HV3.out⟩
theorem ureads_all {A : Option Addr} (wd : Int) (bs : List Nat) (cap : Nat) (w : World) (hc : bs.length ≤ cap) (hcm : cap ≤ 9223372036854775807) (hs : Src w A (bts bs)) (hb : ∀ b ∈ bs, b < 256) :
    Calls Try.prog 4 #[.slice A bs.length cap, .int .i64 wd] w fun e w' => e = .returned (.bool true) ∧ Below w.heap.size w w' := by
  rcases Nat.lt_or_ge 4100 bs.length with h | h
  · have h41 : (4100 : Int) < bs.length := by omega
    generalize bs.length = n at *
    clear hs hb
    go_enter Try.func4, Try.ntmps4
    go_wp2_with (go_at_call 12; refine (ualive_any _).mono ?_; rintro e w2 ⟨rfl, hb2⟩)
    go_ret
    exact ⟨rfl, hb2⟩
  · exact ureads_walk wd bs.length cap w rfl h hc hcm hs hb
end Go.Proofs.Ytdklddpkklodnaa
