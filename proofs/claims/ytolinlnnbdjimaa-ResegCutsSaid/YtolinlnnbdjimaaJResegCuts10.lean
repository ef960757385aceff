/-
  reseg, the document's: Cut: a part goes, or nothing.
-/
import Derived.Test.YtolinlnnbdjimaaJResegCuts09
import Derived.Deep.DeepCutAuto
import Derived.Deep.CutBlock
namespace Go.Proofs.Ytolinlnnbdjimaa
open Go.RowKit

theorem data_at {B n c j x : Nat} {w : World} {ad : Addr} {d : List Nat} (h : OwnY B w (.slice (some ad) n c) d) (hx : d[j]? = some x) : w.cell? (ad.add j) = some (.int .u8 x) := by
  have hj := (List.getElem?_eq_some_iff.1 hx).1
  obtain ⟨ad2, e, hc⟩ := h.src (by rw [length_bts]; omega)
  injection e with e
  subst e
  exact hc j _ (bts_at hx)
theorem RcT.later {B : Nat} {w0 w w' : World} {pk zk : Array Value} {sn : Int} {ls d : List Nat} {a : Nat} {pb po : Nat} {ad : Addr} {dc g k c : Nat} {M : List RowB} {r : RowB} (h : RcT B w0 pk zk sn ls d a pb po ad dc g k c M r w) (hb : Below w.heap.size w w') (hB : B ≤ w.heap.size) : RcT B w0 pk zk sn ls d a pb po ad dc g k c M r w' :=
  ⟨own_later2 h.own hb, h.count, fun r hr => (h.mine r hr).only (S := fun _ => False) (.of_below hb) (fun _ _ _ _ h => h), src_later h.last hb, h.data.later hb, h.len, h.rp.later hb, h.rr.later hb, h.rz.later hb, h.ro.later hb, h.apart, h.below.trans (hb.mono hB)⟩
/-- behind the loop -/
structure RcF (B : Nat) (w0 : World) (pk zk : Array Value) (sn : Int) (a pb po : Nat) (f : Int) (v : Value) (M : List RowB) (w : World) : Prop where
  own : OwnR B w v M
  rp : Row w pb 35 pk
  rr : Row w (pb + 1) 35 zk
  ro : Row w po 35 #[.bool false, .int .i64 f, .int .i64 sn, .bool true, .bool false, .int .i64 a, v]
  apart : pb ≠ po ∧ pb + 1 ≠ po ∧ pb + 2 ≠ po ∧ B ≤ po
  below : Below B w0 w
theorem RcF.later {B : Nat} {w0 w w' : World} {pk zk : Array Value} {sn f : Int} {a pb po : Nat} {v : Value} {M : List RowB} (h : RcF B w0 pk zk sn a pb po f v M w) (hb : Below w.heap.size w w') (hB : B ≤ w.heap.size) : RcF B w0 pk zk sn a pb po f v M w' :=
  ⟨h.own.later hb, h.rp.later hb, h.rr.later hb, h.ro.later hb, h.apart, h.below.trans (hb.mono hB)⟩
theorem RcF.setFI {B : Nat} {w0 w : World} {pk zk : Array Value} {sn f : Int} {a pb po : Nat} {v : Value} {M : List RowB} (h : RcF B w0 pk zk sn a pb po f v M w) (f' : Int) : RcF B w0 pk zk sn a pb po f' v M (w.setCell ⟨po, 1, none⟩ (.int .i64 f')) := by
  have hS := (Only.refl (fun j => j = po) w).set (p := ⟨po, 1, none⟩) (.inl rfl) (.int .i64 f')
  exact ⟨h.own.only hS (fun j hj e => own_apart h.own.own h.ro (by decide) (by rw [hj, e])) (fun j cs hj _ e => hj.apart h.ro (by decide) e), h.rp.only hS h.apart.1, h.rr.only hS h.apart.2.1, h.ro.written 1 _, h.apart, h.below.setCell h.apart.2.2.2 _⟩
/-- what a part that goes is, as the document says -/
def RPartAns (fi sn : Int) (ls d : List Nat) (a b : Nat) (grant wd : Int) (w : World) (e : Ending) (w' : World) : Prop :=
  (min grant 4000 - headA true wd < 1 ∧ e = .returned (.tuple #[.agg #[.bool false, .int .i64 0, .int .i64 0, .bool false, .bool false, .int .i64 0, .slice none 0 0], .int .i64 0, .int .i64 16]) ∧ Below w.heap.size w w') ∨
  (∃ N g c M, 0 < N ∧ CutN ls a b (min grant 4000 - headA true wd) (lwA wd) N ∧ e = .returned (.tuple #[.agg #[.bool false, .int .i64 (fiC ls fi a (a + N)), .int .i64 sn, .bool true, .bool (decide (a + N = ls.sum)), .int .i64 a, .slice (some ⟨g, 0, none⟩) M.length c], .int .i64 ((a + N : Nat) : Int), .int .i64 0]) ∧ texts M = slic (d.drop a) (pcs ls a N) ∧ OwnR w.heap.size w' (.slice (some ⟨g, 0, none⟩) M.length c) M ∧ Below w.heap.size w w')
set_option maxRecDepth 100000 in
set_option maxHeartbeats 25600000 in
theorem rrc_part {A : Option Addr} {L : List RowB} (poll last : Bool) (fi sn off : Int) (n cap a b : Nat) (grant wd : Int) (w : World) (hL : L.length = n) (hn : n ≤ 40) (hs : RSrc w A L) (hsum : (lens L).sum ≤ 9000) (h0 : faultR false last fi sn off (lens L) a b grant wd = 0) (hno : a ≠ 0 ∨ b ≠ (lens L).sum ∨ grant < amdF false last fi sn off (lens L) wd) :
    Calls Try.prog 40 #[.agg #[.bool poll, .int .i64 fi, .int .i64 sn, .bool false, .bool last, .int .i64 off, .slice A n cap], .int .i64 a, .int .i64 b, .int .i64 grant, .int .i64 wd] w (RPartAns fi sn (lens L) (flat L) a b grant wd w) := by
  obtain ⟨_, hne, hg0, hg1, _, hlt, hle⟩ := faultR_ok h0
  obtain ⟨hwd, hf0, hf3, _, _, hl1, hl24, hok, -⟩ := amdF_pos hne
  have hm : ∀ m ∈ lens L, 0 < m := by
    intro m hm
    obtain ⟨k, hk⟩ := List.getElem?_of_mem hm
    have := okTo_small hok hk
    omega
  have HP := Lib.hid hm
  have HL24 := Lib.hid hl24
  have HS := Lib.hid (fun W (hb : Below w.heap.size w W) => rasize_any (A := A) poll false last fi sn off wd n cap W hL hn hsum (hs.later hb))
  have HD := Lib.hid (fun W (hb : Below w.heap.size w W) => radata_len (A := A) (L := L) poll false last fi sn off n cap W hL hn (hs.later hb) hsum)
  have HE := Lib.hid (fun (x : Nat) W (hb : Below w.heap.size w W) => redge_any (A := A) (L := L) poll false last fi sn off n cap x W hL (by omega) (hs.later hb) (by omega))
  have HH := Lib.hid (fun W => rahead_any true wd W)
  have HZ := Lib.hid (fun (k lw : Int) W => refsize_any k lw W)
  have hhd := headA_nonneg true wd
  have hby : ∀ x ∈ flat L, x < 256 := by
    intro x hx
    unfold flat texts at hx
    rw [List.mem_flatten] at hx
    obtain ⟨l, hl, hx⟩ := hx
    obtain ⟨r, hr, rfl⟩ := List.mem_map.1 hl
    obtain ⟨k, hk⟩ := List.getElem?_of_mem hr
    obtain ⟨ad, _, hc⟩ := hs (by have := (List.getElem?_eq_some_iff.1 hk).1; omega)
    exact (hc k r hk).2.2.2.2 x hx
  have HBY := Lib.hid hby
  have HDL := Lib.hid (length_flat L)
  have hz : (amdF false last fi sn off (lens L) wd == 0) = false := by simpa using hne
  have hab : a < b := by omega
  have hbd : b ≤ (lens L).sum := by omega
  have hfiC : ∀ e, fiC (lens L) fi a e = (if edgeF (lens L) a = false ∨ a = 0 ∧ 2 ≤ fi then 2 else 0) + (if edgeF (lens L) e = false ∨ e = (lens L).sum ∧ fi % 2 = 1 then 1 else 0) := fun e => rfl
  have HFI := Lib.hid hfiC
  generalize hhe : headA true wd = hd at *
  have HHE := Lib.hid hhe
  generalize hlw : lwA wd = lw at *
  have HLW := Lib.hid hlw
  generalize amdF false last fi sn off (lens L) wd = z at *
  generalize flat L = dd at *
  generalize lens L = ls at *
  have hcase : ((a : Int) == 0) = false ∨ (((a : Int) == 0) = true ∧ ((b : Int) == (ls.sum : Int)) = false) ∨ (((a : Int) == 0) = true ∧ ((b : Int) == (ls.sum : Int)) = true ∧ ¬ z ≤ grant) := by
    cases h1 : ((a : Int) == 0)
    · exact .inl rfl
    · cases h2 : ((b : Int) == (ls.sum : Int))
      · exact .inr (.inl ⟨rfl, rfl⟩)
      · refine .inr (.inr ⟨rfl, rfl, ?_⟩)
        simp only [beq_iff_eq] at h1 h2
        omega
  have hwide : ((wd == 10) = true ∧ lw = 11) ∨ ((wd == 10) = false ∧ lw = 15) := by
    rw [← HLW.out]
    rcases hwd with rfl | rfl
    · exact .inl ⟨rfl, rfl⟩
    · exact .inr ⟨rfl, rfl⟩
  obtain ⟨r0, r1, r2⟩ := rows3 w 35 #[.bool poll, .int .i64 fi, .int .i64 sn, .bool false, .bool last, .int .i64 off, .slice A n cap] #[.bool false, .int .i64 0, .int .i64 0, .bool false, .bool false, .int .i64 0, .slice none 0 0] #[.bool false, .int .i64 0, .int .i64 0, .bool false, .bool false, .int .i64 0, .slice none 0 0]
  have HB0 := Lib.hid (bl_alloc (bl_alloc (bl_alloc (Below.refl w.heap.size w) (.cells #[.bool poll, .int .i64 fi, .int .i64 sn, .bool false, .bool last, .int .i64 off, .slice A n cap] 35)) (.cells #[.bool false, .int .i64 0, .int .i64 0, .bool false, .bool false, .int .i64 0, .slice none 0 0] 35)) (.cells #[.bool false, .int .i64 0, .int .i64 0, .bool false, .bool false, .int .i64 0, .slice none 0 0] 35))
  have R0 := Lib.hid r0
  have R1 := Lib.hid r1
  have R2 := Lib.hid r2
  obtain ⟨k_0, k_1, k_2, k_3, k_4, k_5, k_6⟩ := cells_pk R0.out
  clear r0 r1 r2 hs hL h0 hne hle hlt hno hok hl1 hl24 hm hby hwd hfiC hhe hlw
  obtain ⟨dq, hdq⟩ := underref10_parts
  go_enter Try.func40, Try.ntmps40
  go_upto_region 8 with (first
    | (go_at_call 21; (with_reducible refine (HS.out _ HB0.out).mono ?_); rintro e w1 ⟨rfl, hbl⟩; (have HB1 := Lib.hid (HB0.out.trans (hbl.mono HB0.out.size))); (have S0 := Lib.hid (R0.out.later hbl)); (have S1 := Lib.hid (R1.out.later hbl)); (have S2 := Lib.hid (R2.out.later hbl)); obtain ⟨l_0, l_1, l_2, l_3, l_4, l_5, l_6⟩ := cells_pk S0.out; clear hbl)
    | (go_at_call 31; (with_reducible refine (HD.out _ HB1.out).mono ?_); rintro e w2 ⟨A2, c2, rfl, ho2, hbl⟩; obtain ⟨ad, rfl, _⟩ := ho2.src (by rw [length_bts, HDL.out]; omega); (have HO2 := Lib.hid (ho2.down HB1.out.size)); (have HB2 := Lib.hid (HB1.out.trans (hbl.mono HB1.out.size))); (have T0 := Lib.hid (S0.out.later hbl)); (have T1 := Lib.hid (S1.out.later hbl)); (have T2 := Lib.hid (S2.out.later hbl)); obtain ⟨m_0, m_1, m_2, m_3, m_4, m_5, m_6⟩ := cells_pk T0.out; obtain ⟨z_0, z_1, z_2, z_3, z_4, z_5, z_6⟩ := cells_pk T2.out; clear hbl ho2))
  go_cut [71] (fun s71 wx => s71 = .bool false ∧ w2 = wx)
  case first =>
    rcases hcase with h1 | ⟨h1, h2⟩ | ⟨h1, h2, h3⟩
    · go_wp2
      go_meet
      exact ⟨rfl, rfl⟩
    · go_wp2
      go_meet
      exact ⟨rfl, rfl⟩
    · go_wp2
      go_meet
      exact ⟨by first | rfl | (simp; omega), rfl⟩
  case rest =>
    obtain ⟨rfl, rfl⟩ := hcut
    clear hcase
    go_upto_if 76 with fail
    go_cut [3] (fun s3 wx => s3 = .int .i64 (min grant 4000) ∧ w2 = wx)
    case first =>
      rcases Int.lt_or_le 4000 grant with h1 | h1
      · have hmn : min grant 4000 = 4000 := by omega
        go_wp2
        go_meet
        exact ⟨by rw [hmn], rfl⟩
      · have hmn : min grant 4000 = grant := by omega
        have h2 : ¬ 4000 < grant := by omega
        go_wp2
        go_meet
        exact ⟨by rw [hmn], rfl⟩
    case rest =>
      obtain ⟨rfl, rfl⟩ := hcut
      have hgm0 : 0 ≤ min grant 4000 := by omega
      have hgm1 : min grant 4000 ≤ 4000 := by omega
      generalize hgm : min grant 4000 = gm at *
      have HGM := Lib.hid hgm
      clear hgm
      go_upto_if 78 with fail
      go_cut [16] (fun s16 wx => s16 = .int .i64 lw ∧ w2 = wx)
      case first =>
        rcases hwide with ⟨h1, h2⟩ | ⟨h1, h2⟩
        · go_wp2
          go_meet
          exact ⟨by rw [h2], rfl⟩
        · go_wp2
          go_meet
          exact ⟨by rw [h2], rfl⟩
      case rest =>
        obtain ⟨rfl, rfl⟩ := hcut
        have hin : w.heap.size + 2 < w2.heap.size := T2.out.inside
        have HI0 := Lib.hid (show RcI w.heap.size w #[.bool poll, .int .i64 fi, .int .i64 sn, .bool false, .bool last, .int .i64 off, .slice A n cap] #[.bool false, .int .i64 0, .int .i64 0, .bool false, .bool false, .int .i64 0, .slice none 0 0] sn ls dd a b (gm - hd) lw w.heap.size w2.heap.size ad c2 0 (.slice none 0 0) [] (w2.alloc (.cells #[.bool false, .int .i64 0, .int .i64 sn, .bool true, .bool false, .int .i64 a, .slice none 0 0] 35)) from
          ⟨by omega, .inl rfl, ⟨World.ownsRow_nil _ _ _ _, fun r hr => by cases hr⟩, rfl, HO2.out.later (bl_alloc (Below.refl _ _) _), HDL.out, T0.out.more _, T1.out.more _, T2.out.more _, Row.made w2 35 _, ⟨by omega, by omega, by omega, by omega⟩, bl_alloc HB2.out _⟩)
        go_upto_block 0 with fail
        go_cut [18] (fun s18 wx => ∃ (N q : Nat) (v : Value) (M : List RowB), s18 = .int .i64 q ∧ q ≤ b ∧ Hid (q = a + N) ∧ Hid (CutN ls a b (gm - hd) lw N) ∧ Hid (RcI w.heap.size w #[.bool poll, .int .i64 fi, .int .i64 sn, .bool false, .bool last, .int .i64 off, .slice A n cap] #[.bool false, .int .i64 0, .int .i64 0, .bool false, .bool false, .int .i64 0, .slice none 0 0] sn ls dd a b (gm - hd) lw w.heap.size w2.heap.size ad c2 N v M wx))
        case first =>
          go_wp2_with fail
          go_loopw [18] (fun s18 wr => ∃ (N q : Nat) (v : Value) (M : List RowB), s18 = .int .i64 q ∧ q ≤ b ∧ Hid (q = a + N) ∧ Hid (RcI w.heap.size w #[.bool poll, .int .i64 fi, .int .i64 sn, .bool false, .bool last, .int .i64 off, .slice A n cap] #[.bool false, .int .i64 0, .int .i64 0, .bool false, .bool false, .int .i64 0, .slice none 0 0] sn ls dd a b (gm - hd) lw w.heap.size w2.heap.size ad c2 N v M wr)) (fun s18 _ => b - (intOf s18).toNat)
          case atStart => exact ⟨0, a, _, _, rfl, by omega, Lib.hid rfl, HI0⟩
          case round =>
            obtain ⟨N, q, v, M, rfl, hqb, HQ, HI⟩ := hrel
            clear HI0
            obtain ⟨Av, cv, rfl, hv1, hv2⟩ := HI.out.own.form
            have hcnt := HI.out.count
            have hk24 : M.length ≤ 24 := by
              have h1 := pcs_len (a := a) (N := N) HP.out (by have := HQ.out; omega)
              have h2 := HL24.out
              omega
            have HK := Lib.hid hcnt
            have ro := HI.out.ro
            have r6 := ro.read (i := 6) (x := .slice Av M.length cv) rfl
            have rp := HI.out.rp
            obtain ⟨p_0, p_1, p_2, p_3, p_4, p_5, p_6⟩ := cells_pk rp
            clear ro rp
            generalize hkk : M.length = k at *
            have HKK := Lib.hid hkk
            clear hkk hcnt
            by_cases hb1 : q < b
            · have hbI : (q : Int) < b := by omega
              obtain ⟨x, hx⟩ : ∃ x, dd[a + N]? = some x := ⟨_, List.getElem?_eq_getElem (by have := HDL.out; have := HQ.out; omega)⟩
              have HX := Lib.hid hx
              have HXQ := Lib.hid (show dd[q]? = some x by rw [HQ.out]; exact hx)
              have hqs : (q : Int) < (ls.sum : Int) := by omega
              have HX8 := Lib.hid (HBY.out x (List.mem_of_getElem? hx))
              clear hx
              have HEQ := Lib.hid (HE.out q wr HI.out.below)
              generalize hed : edgeF ls q = ed at *
              have HED := Lib.hid hed
              clear hed
              go_upto_region 20 with fail
              go_cut [20] (fun s20 wx => ∃ (fr : Bool) (wy : World), wy = wx ∧ s20 = .bool fr ∧ Hid (fr = (decide (N = 0) || ed)) ∧ Hid (RcI w.heap.size w #[.bool poll, .int .i64 fi, .int .i64 sn, .bool false, .bool last, .int .i64 off, .slice A n cap] #[.bool false, .int .i64 0, .int .i64 0, .bool false, .bool false, .int .i64 0, .slice none 0 0] sn ls dd a b (gm - hd) lw w.heap.size w2.heap.size ad c2 N (.slice Av k cv) M wy))
              case first =>
                as_aux_lemma =>
                  rcases Nat.eq_zero_or_pos N with hN | hN
                  · have hk0 : k = 0 := by rw [HK.out, hN]; rfl
                    subst hk0
                    have HD0 := Lib.hid (show true = (decide (N = 0) || ed) by rw [hN]; rfl)
                    clear hN
                    go_wp2
                    go_meet
                    exact ⟨true, _, rfl, rfl, HD0, HI⟩
                  · have hk1 : ((k : Int) == 0) = false := by have := pcs_pos ls a hN; have := HK.out; simp; omega
                    have HD0 := Lib.hid (show ed = (decide (N = 0) || ed) by rw [decide_eq_false (by omega)]; rfl)
                    clear hN
                    go_wp2_with (go_at_call 106; (with_reducible refine HEQ.out.mono ?_); rintro e wy ⟨rfl, hby⟩; (have HIY := Lib.hid (HI.out.later hby HI.out.below.size)); clear hby)
                    go_meet
                    exact ⟨ed, _, rfl, rfl, HD0, HIY⟩
              case rest =>
                obtain ⟨fr, wy, hwy, rfl, HFR, HIY⟩ := hcut
                subst hwy
                clear HI r6 HEQ
                have HNK := Lib.hid (show fr = false → 0 < N ∧ ed = false ∧ 1 ≤ k from fun h => by
                  have h1 := HFR.out
                  rw [h] at h1
                  have h2 : decide (N = 0) = false ∧ ed = false := by
                    cases hd1 : decide (N = 0) <;> cases hd2 : ed <;> rw [hd1, hd2] at h1 <;> first | exact ⟨rfl, rfl⟩ | exact absurd h1 (by decide)
                  have h3 : 0 < N := by have := of_decide_eq_false h2.1; omega
                  have := pcs_pos ls a h3
                  have := HK.out
                  exact ⟨h3, h2.2, by omega⟩)
                have HFE := Lib.hid (show fr = true → N = 0 ∨ edgeF ls (a + N) = true from fun h => by
                  have h1 := HFR.out
                  rw [h] at h1
                  rw [← HQ.out, HED.out]
                  cases hd1 : decide (N = 0)
                  · rw [hd1] at h1; exact .inr (by simpa using h1.symm)
                  · exact .inl (of_decide_eq_true hd1))
                go_upto_if 98 with fail
                go_cut [19] (fun s19 wx => ∃ kk : Nat, s19 = .int .i64 kk ∧ kk ≤ 24 ∧ Hid (costP ls a lw (N + 1) = N + 1 + sizeF (kk : Int) lw) ∧ wy = wx)
                case first =>
                  as_aux_lemma =>
                    cases fr
                    · obtain ⟨h1, h2, h3⟩ := HNK.out rfl
                      obtain ⟨k0, rfl⟩ : ∃ k0, k = k0 + 1 := ⟨k - 1, by omega⟩
                      have HCO := Lib.hid (show costP ls a lw (N + 1) = N + 1 + sizeF (k0 : Int) lw by rw [cost_more h1 (by rw [← HQ.out, HED.out]; exact h2), ← HK.out]; congr 2; omega)
                      clear h1 h2 h3
                      go_wp2
                      go_meet
                      exact ⟨k0, by first | rfl | go_num, by omega, HCO, rfl⟩
                    · have HCO := Lib.hid (show costP ls a lw (N + 1) = N + 1 + sizeF (k : Int) lw by rw [cost_next (HFE.out rfl), ← HK.out])
                      go_wp2
                      go_meet
                      exact ⟨k, rfl, hk24, HCO, rfl⟩
                case rest =>
                  obtain ⟨kk, rfl, hkk24, HCO, rfl⟩ := hcut
                  have HZ0 := Lib.hid (fun W => HZ.out (kk : Int) lw W)
                  have hsz := sizeF_nonneg (kk : Int) lw
                  generalize hzz : sizeF (kk : Int) lw = sz at *
                  clear hzz
                  by_cases hl : gm - hd - ((q : Int) - (a : Int)) - sz < 1
                  · go_wp2_with (first
                      | (go_at_call 29; (with_reducible refine (HH.out _).mono ?_); rintro e wz ⟨rfl, rfl⟩)
                      | (go_at_call 107; (with_reducible refine (HZ0.out _).mono ?_); rintro e wz ⟨rfl, rfl⟩))
                    go_meet
                    exact ⟨N, q, _, M, rfl, hqb, HQ, Lib.hid ⟨HIY.out.n1, HIY.out.n2, .inr (by rw [HCO.out]; have := HQ.out; omega)⟩, HIY⟩
                  · go_upto_if 115 with (first
                      | (go_at_call 29; (with_reducible refine (HH.out _).mono ?_); rintro e wz ⟨rfl, rfl⟩)
                      | (go_at_call 107; (with_reducible refine (HZ0.out _).mono ?_); rintro e wz ⟨rfl, rfl⟩))
                    go_cut [] (fun wx => ∃ (wz : World) (g cg k0 : Nat) (M0 : List RowB) (r : RowB), wz = wx ∧ k0 ≤ 24 ∧ Hid (RcT w.heap.size w #[.bool poll, .int .i64 fi, .int .i64 sn, .bool false, .bool last, .int .i64 off, .slice A n cap] #[.bool false, .int .i64 0, .int .i64 0, .bool false, .bool false, .int .i64 0, .slice none 0 0] sn ls dd a w.heap.size w2.heap.size ad c2 g k0 cg M0 r wz) ∧ Hid (r.bs.length ≤ 100000 ∧ ∀ b ∈ r.bs, b < 256) ∧ Hid (slic (dd.drop a) (pcs ls a (N + 1)) = texts M0 ++ [r.bs ++ [x]]))
                    case first =>
                      as_aux_lemma =>
                        cases fr
                        · obtain ⟨h1, h2, h3⟩ := HNK.out rfl
                          obtain ⟨g, cg, M0, r, hv, hM, hT⟩ := HIY.out.old (by intro h; have h4 := HKK.out; rw [h] at h4; simp at h4; omega)
                          have hrm := HIY.out.own.mine r (by rw [hM]; simp)
                          have hle : lens M = pcs ls a N := by rw [lens_texts, HIY.out.txt, slic_lens (by rw [pcs_sum, List.length_drop]; have := HDL.out; have := HQ.out; omega)]
                          have hrl : r.bs.length ≤ N := by
                            have h4 : r.bs.length ∈ lens M := by unfold lens; rw [List.mem_map]; exact ⟨r, by rw [hM]; simp, rfl⟩
                            rw [hle] at h4
                            have h5 := le_sum_mem h4
                            rw [pcs_sum] at h5
                            exact h5
                          have HT := Lib.hid hT
                          have HRL := Lib.hid (show r.bs.length ≤ 100000 ∧ ∀ b ∈ r.bs, b < 256 from ⟨by have := HQ.out; omega, hrm.2.2.2⟩)
                          have HSL := Lib.hid (slic_more (x := x) h1 (by rw [← HQ.out, HED.out]; exact h2) HX.out (show slic (dd.drop a) (pcs ls a N) = texts M0 ++ [r.bs] by rw [← HIY.out.txt, hM]; unfold texts; simp))
                          have hM0 : M0.length ≤ 24 := by have h4 := HKK.out; rw [hM] at h4; simp at h4; omega
                          clear h1 h2 h3 hv hM hT hrm hle hrl
                          go_wp2
                          go_meet
                          exact ⟨_, g, cg, _, M0, r, rfl, hM0, HT, HRL, HSL⟩
                        · obtain ⟨g, cg, w6, hrun, hro6, hT⟩ := HIY.out.fresh HIY.out.below.size (by rw [HKK.out]; omega)
                          rw [HKK.out] at hrun hT
                          have HT := Lib.hid hT
                          have HSL := Lib.hid (show slic (dd.drop a) (pcs ls a (N + 1)) = texts M ++ [([] : List Nat) ++ [x]] by rw [slic_fresh (HFE.out rfl) HX.out, ← HIY.out.txt]; rfl)
                          have r6 := HIY.out.ro.read (i := 6) (x := .slice Av k cv) rfl
                          have s6 := hro6.read (i := 6) (x := .slice Av k cv) rfl
                          have s6f := hro6.free 6
                          clear hT hro6
                          go_wp2_with (at_builtin; refine wpList_run rfl (.tmp 117) (.tmp 118) 30 rfl (.slice Av k cv) (.slice (some ⟨wy.heap.size, 0, none⟩) 1 1) (by rfl) (by rfl) hrun ?_)
                          go_meet
                          exact ⟨_, g, cg, k, M, ⟨none, 0, []⟩, rfl, hk24, HT, Lib.hid ⟨by simp, by simp⟩, HSL⟩
                    case rest =>
                      obtain ⟨wz, g, cg, k0, M0, r, hwz, hk0, HT, HRL, HSL⟩ := hcut
                      subst hwz
                      clear HIY HFR HNK HFE HZ0 hsz
                      have t6 := HT.out.ro.read (i := 6) (x := .slice (some ⟨g, 0, none⟩) (k0 + 1) cg) rfl
                      have tl := HT.out.own.cells (g := g) rfl k0 r.v (by rw [List.getElem?_append_right (by rw [List.length_map, HT.out.count]; omega), List.length_map, HT.out.count, Nat.sub_self]; rfl)
                      rw [addr_at] at tl
                      unfold RowB.v at tl
                      obtain ⟨A1, c1, w7, hr7, s7, hd7, hb7, A3, c3, w8, hr8, s8, ⟨y8, hy8⟩, hf8, hd8, s9, hd9, hNX⟩ := HT.out.grow x HX8.out HT.out.below.size HRL.out.1 HRL.out.2
                      have d7 := data_at hd7 HXQ.out
                      have hu7 : Below w7.heap.size w7 (w7.drew.alloc (.cells #[.int .u8 x] 5)) := bl_alloc (bl_drew (Below.refl _ _)) _
                      have s7u := cell_below hu7 s7
                      have d7u := cell_below hu7 d7
                      have d8 := data_at hd8 HXQ.out
                      have d9 := data_at hd9 HXQ.out
                      have HNX := Lib.hid hNX
                      clear hNX hd7 hd8 hd9 hb7
                      have hka : (0 : Int) ≤ ((k0 : Nat) : Int) := by omega
                      have hkb : ((k0 : Nat) : Int) < ((k0 : Nat) : Int) + 1 := by omega
                      have hkc : ((k0 : Nat) : Int) < ((k0 + 1 : Nat) : Int) := by omega
                      have hll := HRL.out.1
                      generalize hrl : r.bs.length = rl at *
                      clear hrl
                      go_wp2_with (at_builtin; refine wpList_run rfl (.tmp 125) (.tmp 130) 37 rfl (.slice none 0 0) (.slice r.A rl r.cap) (by rfl) (by rfl) hr7 ?_)
                      go_region_held3 (fun W => W.cell? ⟨w2.heap.size, 6, none⟩ = some (.slice (some ⟨g, 0, none⟩) (k0 + 1) cg) ∧ W.cell? (ad.add q) = some (.int .u8 x)) (first | with_reducible exact ⟨s7, d7⟩ | with_reducible exact ⟨s7u, d7u⟩ | with_reducible exact ⟨s8, d8⟩ | with_reducible exact ⟨s9, d9⟩ | go_keep) ((refine stepc_run rfl (.tmp 135) (.tmp 140) 37 rfl (.slice A1 rl c1) (.slice (some ⟨w7.drew.heap.size, 0, none⟩) 1 1) (by rfl) (by rfl) hr8 ?_))
                      go_wp2
                      go_roundw
                      case rel => exact ⟨N + 1, q + 1, _, _, by go_num, by omega, Lib.hid (by have := HQ.out; omega), Lib.hid (HNX.out b (N + 1) (gm - hd) lw (by have := HQ.out; omega) (.inr (by rw [HCO.out]; have := HQ.out; omega)) HSL.out)⟩
                      case measure => simp [intOf]; omega
            · have hbI : ¬ (q : Int) < b := by omega
              go_wp2
              go_meet
              exact ⟨N, q, _, M, rfl, hqb, HQ, Lib.hid ⟨HI.out.n1, HI.out.n2, .inl (by have := HQ.out; omega)⟩, HI⟩
        case rest =>
          obtain ⟨N, q, v, M, rfl, hqb, HQ, HC, HI⟩ := hcut
          obtain ⟨Av, cv, rfl, hv1, hv2⟩ := HI.out.own.form
          have hcnt := HI.out.count
          rcases Nat.eq_zero_or_pos N with hN | hN
          · have hm0 : M.length = 0 := by rw [hcnt, hN]; rfl
            have HEND := Lib.hid ((HC.out.zero_iff hab).1 hN)
            rw [hm0] at HI
            have r6 := HI.out.ro.read (i := 6) (x := .slice Av 0 cv) rfl
            have rz := HI.out.rz
            have rr := HI.out.rr
            obtain ⟨z0, z1, z2, z3, z4, z5, z6⟩ := cells_pk rz
            obtain ⟨o0, o1, o2, o3, o4, o5, o6⟩ := cells_pk rr
            have f0 := rr.free 0; have f1 := rr.free 1; have f2 := rr.free 2; have f3 := rr.free 3; have f4 := rr.free 4; have f5 := rr.free 5; have f6 := rr.free 6
            have HRR := Lib.hid rr
            have HBL := Lib.hid HI.out.below
            clear rz rr hN hm0 hcnt
            go_wp2
            refine bodyPost_ret (results_three rfl _ _ (w.heap.size + 1) 35 #[.bool false, .int .i64 0, .int .i64 0, .bool false, .bool false, .int .i64 0, .slice none 0 0] dq rfl (row_set7 HRR.out) hdq Try.inforf) rfl ?_
            exact .inl ⟨by rw [HHE.out]; first | exact HEND.out | (rw [HGM.out]; exact HEND.out), rfl, below_set7 HBL.out (by omega)⟩
          · have hmp : ((M.length : Int) == 0) = false := by
              have h8 := pcs_pos ls a hN
              have h9 : M.length ≠ 0 := by omega
              simpa using h9
            have HN := Lib.hid hN
            have HTX := Lib.hid HI.out.txt
            have HOW := Lib.hid HI.out.own
            have HEA := Lib.hid (fun W hb => HE.out a W hb)
            have HEE := Lib.hid (fun W hb => HE.out q W hb)
            have HFQ := Lib.hid (show fiC ls fi a (a + N) = (if edgeF ls a = false ∨ a = 0 ∧ 2 ≤ fi then 2 else 0) + (if edgeF ls q = false ∨ q = ls.sum ∧ fi % 2 = 1 then 1 else 0) by rw [← HQ.out]; rfl)
            have HJ := Lib.hid (show RcF w.heap.size w #[.bool poll, .int .i64 fi, .int .i64 sn, .bool false, .bool last, .int .i64 off, .slice A n cap] #[.bool false, .int .i64 0, .int .i64 0, .bool false, .bool false, .int .i64 0, .slice none 0 0] sn a w.heap.size w2.heap.size 0 (.slice Av M.length cv) M wc from ⟨HI.out.own, HI.out.rp, HI.out.rr, HI.out.ro, HI.out.apart, HI.out.below⟩)
            generalize hkk : M.length = kk at *
            have HKK := Lib.hid hkk
            generalize hea : edgeF ls a = ea at *
            generalize hee : edgeF ls q = ee at *
            generalize hf1 : (if ea = false ∨ a = 0 ∧ 2 ≤ fi then (2 : Int) else 0) = f1 at *
            generalize hf2 : (if ee = false ∨ q = ls.sum ∧ fi % 2 = 1 then (1 : Int) else 0) = f2 at *
            have HF1 := Lib.hid hf1
            have HF2 := Lib.hid hf2
            have hf1b : f1 = 0 ∨ f1 = 2 := by rw [← hf1]; split <;> simp
            have r6 := HJ.out.ro.read (i := 6) (x := .slice Av kk cv) rfl
            have hfi : fi = 0 ∨ fi = 1 ∨ fi = 2 ∨ fi = 3 := by omega
            clear hkk hea hee hf1 hf2 hN hcnt HI
            go_upto_region 34 with fail
            go_cut [162] (fun s162 wx => ∃ wy, wy = wx ∧ s162 = .bool (f1 == 2) ∧ Hid (RcF w.heap.size w #[.bool poll, .int .i64 fi, .int .i64 sn, .bool false, .bool last, .int .i64 off, .slice A n cap] #[.bool false, .int .i64 0, .int .i64 0, .bool false, .bool false, .int .i64 0, .slice none 0 0] sn a w.heap.size w2.heap.size 0 (.slice Av kk cv) M wy))
            case first =>
              as_aux_lemma =>
                have rp := HJ.out.rp
                obtain ⟨p0, p1, p2, p3, p4, p5, p6⟩ := cells_pk rp
                clear rp
                have key : ∀ z1 : Bool, ((a : Int) == 0) = z1 → True := fun _ _ => trivial
                cases ea
                · have HV := Lib.hid (show (f1 == 2) = true by rw [← HF1.out]; simp)
                  go_wp2_with (go_at_call 106; (with_reducible refine (HEA.out _ HJ.out.below).mono ?_); rintro e wy ⟨rfl, hby⟩; (have HJY := Lib.hid (HJ.out.later hby HJ.out.below.size)); clear hby)
                  go_meet
                  exact ⟨_, rfl, by rw [HV.out], HJY⟩
                · cases hz1 : ((a : Int) == 0)
                  · have HV := Lib.hid (show (f1 == 2) = false by rw [← HF1.out, if_neg (by simp at hz1; simp; intro h; omega)]; rfl)
                    go_wp2_with (go_at_call 106; (with_reducible refine (HEA.out _ HJ.out.below).mono ?_); rintro e wy ⟨rfl, hby⟩; (have HJY := Lib.hid (HJ.out.later hby HJ.out.below.size)); clear hby)
                    go_meet
                    exact ⟨_, rfl, by rw [HV.out], HJY⟩
                  · have ha0 : a = 0 := by simp at hz1; omega
                    have HV := Lib.hid (show (f1 == 2) = decide (2 ≤ fi) by rw [← HF1.out, ha0]; by_cases h : 2 ≤ fi <;> simp [h])
                    clear ha0
                    go_wp2_with (go_at_call 106; (with_reducible refine (HEA.out _ HJ.out.below).mono ?_); rintro e wy ⟨rfl, hby⟩; (have HJY := Lib.hid (HJ.out.later hby HJ.out.below.size)); obtain ⟨y0, y1, y2, y3, y4, y5, y6⟩ := cells_pk (HJ.out.rp.later hby); clear hby)
                    go_meet
                    exact ⟨_, rfl, by rw [HV.out], HJY⟩
            case rest =>
              obtain ⟨wy, hwy, rfl, HJ1⟩ := hcut
              subst hwy
              clear HJ r6
              have ro := HJ1.out.ro
              have q1 := ro.read (i := 1) (x := .int .i64 0) rfl
              have q1f := ro.free 1
              clear ro
              go_upto_if 162 with fail
              go_cut [] (fun wx => ∃ wy, wy = wx ∧ Hid (RcF w.heap.size w #[.bool poll, .int .i64 fi, .int .i64 sn, .bool false, .bool last, .int .i64 off, .slice A n cap] #[.bool false, .int .i64 0, .int .i64 0, .bool false, .bool false, .int .i64 0, .slice none 0 0] sn a w.heap.size w2.heap.size f1 (.slice Av kk cv) M wy))
              case first =>
                as_aux_lemma =>
                  rcases hf1b with rfl | rfl
                  · go_wp2
                    go_meet
                    exact ⟨_, rfl, HJ1⟩
                  · go_wp2
                    go_meet
                    exact ⟨_, rfl, Lib.hid (HJ1.out.setFI 2)⟩
              case rest =>
                obtain ⟨wz, hwz, HJ2⟩ := hcut
                subst hwz
                clear HJ1 q1 q1f
                go_upto_region 36 with fail
                go_cut [179] (fun s179 wx => ∃ wy, wy = wx ∧ s179 = .bool (f2 == 1) ∧ Hid (RcF w.heap.size w #[.bool poll, .int .i64 fi, .int .i64 sn, .bool false, .bool last, .int .i64 off, .slice A n cap] #[.bool false, .int .i64 0, .int .i64 0, .bool false, .bool false, .int .i64 0, .slice none 0 0] sn a w.heap.size w2.heap.size f1 (.slice Av kk cv) M wy))
                case first =>
                  as_aux_lemma =>
                    have rp := HJ2.out.rp
                    obtain ⟨p0, p1, p2, p3, p4, p5, p6⟩ := cells_pk rp
                    clear rp
                    cases ee
                    · have HV := Lib.hid (show (f2 == 1) = true by rw [← HF2.out]; simp)
                      go_wp2_with (go_at_call 106; (with_reducible refine (HEE.out _ HJ2.out.below).mono ?_); rintro e wy ⟨rfl, hby⟩; (have HJY := Lib.hid (HJ2.out.later hby HJ2.out.below.size)); clear hby)
                      go_meet
                      exact ⟨_, rfl, by rw [HV.out], HJY⟩
                    · cases hz1 : ((q : Int) == (ls.sum : Int))
                      · have HV := Lib.hid (show (f2 == 1) = false by rw [← HF2.out, if_neg (by simp at hz1; simp; intro h; omega)]; rfl)
                        go_wp2_with (go_at_call 106; (with_reducible refine (HEE.out _ HJ2.out.below).mono ?_); rintro e wy ⟨rfl, hby⟩; (have HJY := Lib.hid (HJ2.out.later hby HJ2.out.below.size)); clear hby)
                        go_meet
                        exact ⟨_, rfl, by rw [HV.out], HJY⟩
                      · have hq0 : q = ls.sum := by simp at hz1; omega
                        have HV := Lib.hid (show (f2 == 1) = decide (fi % 2 = 1) by rw [← HF2.out]; by_cases h : fi % 2 = 1 <;> simp [h, hq0])
                        clear hq0
                        go_wp2_with (go_at_call 106; (with_reducible refine (HEE.out _ HJ2.out.below).mono ?_); rintro e wy ⟨rfl, hby⟩; (have HJY := Lib.hid (HJ2.out.later hby HJ2.out.below.size)); obtain ⟨y0, y1, y2, y3, y4, y5, y6⟩ := cells_pk (HJ2.out.rp.later hby); clear hby)
                        go_meet
                        exact ⟨_, rfl, by rw [HV.out]; first | rfl | (simp; done) | (congr 1; simp; omega), HJY⟩
                case rest =>
                  obtain ⟨wy, hwy, rfl, HJ3⟩ := hcut
                  subst hwy
                  clear HJ2
                  have ro := HJ3.out.ro
                  have q1 := ro.read (i := 1) (x := .int .i64 f1) rfl
                  have q1f := ro.free 1
                  clear ro
                  have hf2b : f2 = 0 ∨ f2 = 1 := by rw [← HF2.out]; split <;> simp
                  have hf1c : 0 ≤ f1 ∧ f1 ≤ 2 := by omega
                  obtain ⟨hf1d, hf1e⟩ := hf1c
                  go_upto_if 179 with fail
                  go_cut [] (fun wx => ∃ wy, wy = wx ∧ Hid (RcF w.heap.size w #[.bool poll, .int .i64 fi, .int .i64 sn, .bool false, .bool last, .int .i64 off, .slice A n cap] #[.bool false, .int .i64 0, .int .i64 0, .bool false, .bool false, .int .i64 0, .slice none 0 0] sn a w.heap.size w2.heap.size (f1 + f2) (.slice Av kk cv) M wy))
                  case first =>
                    as_aux_lemma =>
                      rcases hf2b with rfl | rfl
                      · go_wp2
                        go_meet
                        exact ⟨_, rfl, by rw [Int.add_zero]; exact HJ3⟩
                      · go_wp2
                        go_meet
                        exact ⟨_, rfl, Lib.hid (HJ3.out.setFI (f1 + 1))⟩
                  case rest =>
                    obtain ⟨wv, hwv, HJ4⟩ := hcut
                    subst hwv
                    clear HJ3 q1 q1f
                    have HBQ := Lib.hid (show ((q : Int) == (ls.sum : Int)) = decide (a + N = ls.sum) by rw [← HQ.out, Bool.eq_iff_iff, beq_iff_eq, decide_eq_true_iff]; omega)
                    generalize hbq : decide (a + N = ls.sum) = bq at *
                    have HBE := Lib.hid hbq
                    clear hbq
                    have hbq1 := HBQ.out
                    have ro := HJ4.out.ro
                    have q4 := ro.read (i := 4) (x := .bool false) rfl
                    have q4f := ro.free 4
                    have HRO := Lib.hid (ro.written 4 (.bool bq))
                    have hS := (Only.refl (fun j => j = w2.heap.size) wv).set (p := ⟨w2.heap.size, 4, none⟩) (.inl rfl) (.bool bq)
                    have HRR := Lib.hid (HJ4.out.rr.only hS HJ4.out.apart.2.1)
                    have HOWN := Lib.hid (HJ4.out.own.only hS (fun j hj e => own_apart HJ4.out.own.own ro (by decide) (by rw [hj, e])) (fun j cs hj _ e => hj.apart ro (by decide) e))
                    have HBL := Lib.hid (HJ4.out.below.setCell (p := ⟨w2.heap.size, 4, none⟩) HJ4.out.apart.2.2.2 (.bool bq))
                    obtain ⟨x0, x1, x2, x3, x4, x5, x6⟩ := cells_pk HRO.out
                    obtain ⟨o0, o1, o2, o3, o4, o5, o6⟩ := cells_pk HRR.out
                    have fq0 := HRR.out.free 0; have fq1 := HRR.out.free 1; have fq2 := HRR.out.free 2; have fq3 := HRR.out.free 3; have fq4 := HRR.out.free 4; have fq5 := HRR.out.free 5; have fq6 := HRR.out.free 6
                    clear ro hS
                    go_wp2
                    obtain ⟨cg, eg⟩ : ∃ g9, Av = some ⟨g9, 0, none⟩ := by
                      rcases HOWN.out.own.2 with ⟨e9, _⟩ | ⟨g9, cap9, cur9, e9, _⟩
                      · exfalso
                        injection e9 with _ e9 _
                        have := hmp
                        rw [e9] at this
                        simp at this
                      · injection e9 with e9 _ _
                        exact ⟨g9, e9⟩
                    subst eg
                    refine bodyPost_ret (results_three rfl _ _ (w.heap.size + 1) 35 #[.bool false, .int .i64 (f1 + f2), .int .i64 sn, .bool true, .bool bq, .int .i64 a, .slice (some ⟨cg, 0, none⟩) kk cv] dq rfl (row_set7 HRR.out) hdq Try.inforf) rfl ?_
                    refine .inr ⟨N, cg, cv, M, HN.out, ?_, ?_, HTX.out, ?_, below_set7 HBL.out (by omega)⟩
                    · rw [HHE.out, HLW.out]; first | exact HC.out | (rw [HGM.out]; exact HC.out)
                    · rw [HFQ.out, HBE.out, HKK.out, ← HQ.out]; rfl
                    · rw [HKK.out]
                      exact HOWN.out.only (only_set7 (S := fun j => j = w.heap.size + 1) (Only.refl _ _) rfl) (fun j hj e => own_apart HOWN.out.own HRR.out (by decide) (by rw [hj, e])) (fun j cs hj _ e => hj.apart HRR.out (by decide) e)
end Go.Proofs.Ytolinlnnbdjimaa
