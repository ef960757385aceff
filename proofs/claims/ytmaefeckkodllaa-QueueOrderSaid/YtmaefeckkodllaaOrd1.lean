/-
  QueueOrder: what is taken, in whatever pieces, is the texts that were pushed, whole, in their order, each once.
-/
import Derived.Test.YtmaefeckkodllaaOrdF
import Derived.Test.YtmaefeckkodllaaHand
import Derived.Deep.Cut
import Derived.StillTailTactics
namespace Go.Proofs.Ytmaefeckkodllaa
open Go.RowKit

set_option maxRecDepth 100000 in
set_option maxHeartbeats 3200000 in
theorem order_walk (A A2 : Option Addr) (L : List RowB) (cap : Nat) (ps : List Nat) (cap2 : Nat) (w : World) (hs : RSrc w A L) (hp0 : 0 < ps.length) (hpl : ps.length ≤ 9223372036854775807) (hs2 : SrcB w A2 (u16s ps)) (hv : ∀ x ∈ ps, x < 65536) :
    Calls Try.prog 8 #[.slice A L.length cap, .slice A2 ps.length cap2] w fun e w' => e = .returned (.bool true) ∧ Below w.heap.size w w' := by
  have HS := Lib.hid hs
  have HS2 := Lib.hid hs2
  have HV := Lib.hid hv
  clear hs hs2 hv
  have hp1 : ((ps.length : Int) == 0) = false := by rw [beq_eq_false_iff_ne]; omega
  go_enter Try.func8, Try.ntmps8
  go_wp2_with fail
  refine (qnew_any w.heap.size 20000 w (Nat.le_refl _) (by omega) (by omega)).mono ?_
  rintro e w1 ⟨rfl, hq1, hb1⟩
  have HF1 : Hid (OrdA w.heap.size w 0 (.slice none 0 0) w1) := Lib.hid ⟨0, [], [], hq1, Nat.le_refl _, by simp [bytesF], by simp, (fun t ht => by cases ht), rfl, OwnX.nil, fun r hr => by cases hr⟩
  have HB1 := Lib.hid hb1
  clear hq1 hb1
  go_wp2_with fail
  go_loopw [9, 11] (fun kv i wr => ∃ k : Nat, k ≤ L.length ∧ k ≤ 60 ∧ i = .int .i64 k ∧ OrdA w.heap.size w k kv wr ∧ Below w.heap.size w wr) (fun _ i _ => L.length - (intOf i).toNat)
  case atStart => exact ⟨0, by omega, by omega, rfl, HF1.out, HB1.out⟩
  case round =>
    obtain ⟨k, hk, hk2, rfl, hfair, hbr⟩ := hrel
    have HF := Lib.hid hfair
    have HBR := Lib.hid hbr
    have hsr := hbr.size
    clear hfair hbr HF1 HB1
    by_cases hlt : k < L.length ∧ k < 60
    · obtain ⟨hlt, hlt2⟩ := hlt
      obtain ⟨tb, toff, rfl, hc⟩ := HS.out (by omega)
      obtain ⟨r, hr⟩ : ∃ r, L[k]? = some r := ⟨_, List.getElem?_eq_getElem hlt⟩
      obtain ⟨c0, hrok⟩ := hc k r hr
      have HROK := Lib.hid hrok
      have hll := hrok.2.1
      have hlm := hrok.2.2.1
      have hi0 : (0 : Int) ≤ (k : Int) := by omega
      have hi1 : (k : Int) < (L.length : Int) := by omega
      have d0 := kept_box HBR.out c0
      clear hc hr hrok
      rcases Nat.lt_or_ge 1100 r.bs.length with hbig | hbig
      · go_wp2_with (go_at_call 29; refine (alive4_any _).mono ?_; rintro e w7 ⟨rfl, hb7⟩)
        go_ret
        exact ⟨rfl, bl_step HBR.out hb7⟩
      · obtain ⟨last, ts, rows, hq, hlast, hbf, hts, hbg, hmap, hown, hrows⟩ := HF.out
        obtain ⟨KA, kc, rfl, _, _⟩ := hown.shape
        have HQ := Lib.hid hq
        have HOWN := Lib.hid hown
        have hrl : rows.length = ts.length := by have := congrArg List.length hmap; simpa using this.symm
        have HINV := Lib.hid (And.intro hbg (And.intro hmap hrows))
        have hqo : ∀ W, QOnly w.heap.size wr W → SrcB W r.A (bts r.bs) := fun W hW => src_q HROK.out.1 HBR.out (Nat.le_refl _) hsr hW
        have HP := Lib.hid (push_all r.A r.bs r.cap hq (by omega) (by omega) hbf hts (by omega) (by omega) hqo)
        clear hq hown hbg hmap hrows hqo
        go_wp2_with fail
        refine (HP.out).mono ?_
        rintro e w5 ⟨nid, er, rfl, ho5, hcase⟩
        have HB5 := Lib.hid (HBR.out.trans (ho5.below hsr))
        have hs5 := HB5.out.size
        have c5 := kept_box HB5.out c0
        have HOWN5 := Lib.hid (HOWN.out.q (by decide) (by decide) ho5)
        have HCASE := Lib.hid hcase
        clear ho5 hcase d0 HP HOWN
        rcases Classical.em (er = 0) with he | he
        · subst he
          obtain ⟨_, hid, hl0, hl1, htl, hfit, t, ht1, ht2, ht3, hq5⟩ : (0 : Int) = 0 ∧ nid = last + 1 ∧ 0 < r.bs.length ∧ r.bs.length ≤ 1000 ∧ ts.length < 64 ∧ ((bytesF ts : Nat) : Int) + r.bs.length ≤ 20000 ∧ ∃ t : Txt, t.id = last + 1 ∧ t.bs = r.bs ∧ t.bg = false ∧ QRep w.heap.size w5 w.heap.size 20000 (last + 1) (ts ++ [t]) := by
            rcases HCASE.out with h | h
            · exact h
            · exact absurd rfl h.1
          subst hid
          obtain ⟨KA', kc', w6, hr6, hown6, hq6, hb6⟩ := kept_tail (HOWN5.out) hq5 hs5 r.cell rfl (by omega)
          have HR6 := Lib.hid hr6
          have HB6 := Lib.hid (HB5.out.trans hb6)
          have HF6 : Hid (OrdA w.heap.size w (k + 1) (.slice KA' (rows.length + 1) kc') w6) := Lib.hid ⟨last + 1, ts ++ [t], rows ++ [r], hq6, by omega, by rw [bytesF_snoc, ht2]; omega, by rw [List.length_append, List.length_singleton]; omega,
            (fun x hx => by
              rcases List.mem_append.mp hx with hx | hx
              · exact HINV.out.1 x hx
              · rw [List.mem_singleton.mp hx]; exact ht3),
            by rw [List.map_append, List.map_append, HINV.out.2.1, List.map_singleton, List.map_singleton, ht2],
            by rw [List.length_append, List.length_singleton, List.map_append]; exact hown6,
            fun x hx => by
              rcases List.mem_append.mp hx with hx | hx
              · exact HINV.out.2.2 x hx
              · rw [List.mem_singleton.mp hx]; exact ⟨HROK.out, hl0, hl1⟩⟩
          clear HCASE ht1 ht2 ht3 hq5 hr6 hown6 hq6 hb6
          unfold RowB.cell at HR6
          rw [hrl] at HR6 HF6
          go_wp2_with (at_builtin; refine wpList_run rfl (.tmp 70) (.tmp 75) 60 rfl (.slice KA ts.length kc) (.slice (some ⟨w5.heap.size, 0, none⟩) 1 1) (by rfl) (by rfl) HR6.out ?_)
          go_roundw
          case rel => exact ⟨k + 1, by omega, by omega, by go_num, HF6.out, HB6.out⟩
          case measure => simp [intOf]; omega
        · have HF6 : Hid (OrdA w.heap.size w (k + 1) (.slice KA rows.length kc) w5) := by
            rcases HCASE.out with h | h
            · exact absurd h.1 he
            · exact Lib.hid ⟨last, ts, rows, h.2.2.1, by omega, hbf, hts, HINV.out.1, HINV.out.2.1, HOWN5.out, HINV.out.2.2⟩
          clear HCASE
          rw [hrl] at HF6
          go_wp2_with fail
          go_roundw
          case rel => exact ⟨k + 1, by omega, by omega, by go_num, HF6.out, HB5.out⟩
          case measure => simp [intOf]; omega
    · have hlt' : L.length ≤ k ∨ 60 ≤ k := by omega
      clear hlt
      obtain ⟨rows, hr64, ⟨KA, kc, rfl⟩, hrows, hBs, hB0⟩ := HF.out.start
      obtain ⟨N, hN⟩ : ∃ N, wr.heap.size = N := ⟨_, rfl⟩
      rw [hN] at hB0 hBs
      have HB0 := Lib.hid hB0
      have HROWS := Lib.hid hrows
      have hNl : N ≤ wr.heap.size := Nat.le_of_eq hN.symm
      clear HF hB0 hrows hN
      rcases Nat.lt_or_ge k L.length with hkl | hkl
      all_goals
        first
          | have h80 : 60 ≤ k := by omega
          | have h80 : ¬ (k : Int) < (L.length : Int) := by omega
        clear hlt'
        go_wp2_with fail
        go_loopw [7, 8, 10, 14] (fun at_ pt nv ix wv => ∃ (put att i : Nat), put ≤ rows.length ∧ at_ = .int .i64 att ∧ pt = .int .i64 put ∧ ix = .int .i64 i ∧ OrdB w.heap.size N rows put att i nv (.slice KA rows.length kc) wv ∧ Below w.heap.size w wv ∧ N ≤ wv.heap.size ∧ att ≤ 20000) (fun at_ _ _ _ _ => 20000 - (intOf at_).toNat)
        case atStart => exact ⟨0, 0, 0, Nat.zero_le _, rfl, rfl, rfl, HB0.out, HBR.out, hNl, by omega⟩
        case round =>
          obtain ⟨put, att, i, hput, rfl, rfl, rfl, hord, hbv, hNv, hatt⟩ := hrel
          have HBV := Lib.hid hbv
          have hsv := hbv.size
          clear hbv HBR HB0
          rcases Nat.lt_or_ge put rows.length with hlt | hge
          · have hlti : (put : Int) < (rows.length : Int) := by omega
            obtain ⟨r, rs, last, t, us, d, hdr, hat, hq, htb, hus, hd, hnow, hkept, hgs, hul, htot, hpd, hi⟩ := hord.round hlt
            obtain ⟨kg, kcx, hkv, _, _⟩ := hkept.form (by omega)
            injection hkv with hkv _ hkc
            subst hkv
            subst hkc
            have htl : t.bs.length = r.bs.length - d := by rw [htb, List.length_drop]
            have hr1000 := (HROWS.out r (List.mem_of_getElem? hat)).2.2
            obtain ⟨ln, hln⟩ : ∃ ln, t.bs.length = ln := ⟨_, rfl⟩
            have HFR := Lib.hid (front_ok hq (by omega) (by omega) (by omega))
            unfold FrontDone at HFR
            rw [hln] at HFR
            have HQ := Lib.hid hq
            have HNOW := Lib.hid hnow
            have HKEPT := Lib.hid hkept
            obtain ⟨NA, nc, rfl, _, _⟩ := hnow.shape
            clear hq hnow hkept hord
            go_wp2_with fail
            refine (HFR.out).mono ?_
            rintro e w2 ⟨g2, rfl, hg2, hby2, hb2⟩
            clear hby2 hg2
            have HQ2 := Lib.hid (HQ.out.later hb2)
            have HB2 := Lib.hid (bl_step HBV.out hb2)
            have hs2 := HB2.out.size
            have HNOW2 := Lib.hid (HNOW.out.only (S := fun _ => False) (.of_below hb2) (fun _ _ h => h))
            have HKEPT2 := Lib.hid (HKEPT.out.only (S := fun _ => False) (.of_below hb2) (fun _ _ h => h))
            have hN2 : N ≤ w2.heap.size := by have := hb2.size; omega
            obtain ⟨b2, off2, rfl, hc2⟩ := HS2.out (by rw [length_u16s]; exact hp0)
            obtain ⟨j, hj⟩ : ∃ j, i % ps.length = j := ⟨_, rfl⟩
            have hjl : j < ps.length := by rw [← hj]; exact Nat.mod_lt _ hp0
            have hmod : (i : Int) % (ps.length : Int) = (j : Int) := by omega
            obtain ⟨x, hx⟩ : ∃ x, ps[j]? = some x := ⟨_, List.getElem?_eq_getElem hjl⟩
            have hx6 := HV.out x (List.mem_of_getElem? hx)
            have cx := kept_box HB2.out (hc2 j _ (u16s_at hx))
            have hji : (j : Int) < (ps.length : Int) := by omega
            have hj0 : (0 : Int) ≤ (j : Int) := by omega
            obtain ⟨q, hqe⟩ : ∃ q, 1 + x % 300 = q := ⟨_, rfl⟩
            have hw : IntKind.i64.wrap (1 + (x : Int) % 300) = (q : Int) := by rw [IntWalk.i64_in _ (by omega)]; omega
            have hq1 : 1 ≤ q := by omega
            clear hc2 hx hqe HFR HQ HNOW HKEPT hb2
            rcases (by omega : q < ln ∨ q = ln ∨ ln < q) with hql | rfl | hql
            · go_wp2_with fail
              refine (take_okG q HQ2.out (by omega) (by omega) (by omega) (by omega) (by omega)).mono ?_
              rintro e w3 ⟨g3, rfl, hg3, hby3, ho3, t', h31, h32, h33, h34, hq3⟩
              have HB3 := Lib.hid (HB2.out.trans (ho3.below hs2))
              have hN3 : N ≤ w3.heap.size := by have := ho3.size; omega
              rw [if_neg (by omega)] at hq3
              rw [hln, show (q == ln) = false from by simp; omega]
              have hgt : ∀ y ∈ t' :: us, y.g < N := fun y hy => by
                rcases List.mem_cons.1 hy with rfl | hy
                · rw [h34]; exact hgs t (List.mem_cons_self ..)
                · exact hgs y (List.mem_cons_of_mem _ hy)
              obtain ⟨NA', nc', w4, hr4, hnow4, hq4, hkept4, hb4⟩ := now_tail (n := q) (HNOW2.out.q (by decide) (by decide) ho3) hq3 hgt (HKEPT2.out.q (by decide) (by decide) ho3) hN3 (by omega) hby3 (by rw [List.length_take]; omega) (by omega) (by omega)
              have HB4 := Lib.hid (HB3.out.trans (hb4.mono (by omega)))
              obtain ⟨m, hm⟩ : ∃ m, d + q = m := ⟨_, rfl⟩
              have htk : r.bs.take d ++ t.bs.take q = r.bs.take m := by rw [← hm, List.take_add, htb]
              rw [htk, hm] at hnow4
              rw [hm] at hr4
              have hBN : N ≤ w4.heap.size := by have := hb4.size; omega
              have HBN := hBN
              have HST4 := Lib.hid (And.intro hnow4 (And.intro hq4 hkept4))
              have HR4 := Lib.hid hr4
              clear hby3 ho3 hq3 hgt hr4 hnow4 hq4 hkept4 hb4 hg3
              go_wp2_with (at_builtin; refine wpList_run rfl (.tmp 124) (.tmp 125) 64 rfl (.slice NA d nc) (.slice (some ⟨g3, 0, none⟩) q q) (by rfl) (by rfl) HR4.out ?_)
              obtain ⟨rb, ro, s9, c9, z1, z2⟩ := ord_facts (B := w.heap.size) (N := N) (m := m) (HROWS.out r (List.mem_of_getElem? hat)).1 hat HB4.out (by omega) (by omega) HST4.out.2.2 HST4.out.1
              have hcap := (HROWS.out r (List.mem_of_getElem? hat)).1.2.1
              have HORD := Lib.hid (show OrdB w.heap.size N rows put (att + q) (i + 1) (.slice NA' m nc') (.slice (some ⟨kg, 0, none⟩) rows.length kc) w4.drew from by
                have h := OrdB.part (B := w.heap.size) (N := N) (rows := rows) (put := put) (att := att) (i := i) (n := q) (d := d) (last := last) (nv := .slice NA' m nc') (kv := .slice (some ⟨kg, 0, none⟩) rows.length kc) (wr := w4) hdr HST4.out.2.1 htb h32 h34 hus (by omega) (by rw [hm]; exact HST4.out.1) HST4.out.2.2 hgs hul htot hpd hi (by omega)
                exact h)
              obtain ⟨rl, hrl9⟩ : ∃ rl, r.bs.length = rl := ⟨_, rfl⟩
              obtain ⟨rc, hrc9⟩ : ∃ rc, r.cap = rc := ⟨_, rfl⟩
              rw [hrl9, hrc9] at c9
              rw [hrc9] at z1
              rw [hrl9, hrc9] at hcap
              have b0 : (0 : Int) ≤ (put : Int) := by omega
              have b1 : (0 : Int) ≤ (m : Int) := by omega
              have b2 : (m : Int) ≤ (rc : Int) := by omega
              have b3 : ((m : Int) == (rl : Int)) = false := by rw [beq_eq_false_iff_ne]; omega
              have b4 : IntKind.i64.wrap ((att : Int) + (q : Int)) = (att : Int) + (q : Int) := IntWalk.i64_in _ (by omega)
              have b5 : IntKind.i64.wrap ((i : Int) + 1) = (i : Int) + 1 := IntWalk.i64_in _ (by omega)
              have HB9 := Lib.hid HB4.out.drew
              have hN9 : N ≤ w4.drew.heap.size := HBN
              clear hcap hat HST4 HR4
              refine wp_region_still_lit (by kernel_rfl) (by kernel_rfl) ?_
              change wpStill _ _ w4.drew (fun b => _) _ _
              generalize w4.drew = w9 at c9 z1 z2 ⊢
              repeat still_step
              refine wpStill_nil ?_
              go_wp2_with fail
              go_roundw
              case rel => exact ⟨put, att + q, i + 1, hput, by go_num, rfl, by go_num, HORD.out, HB9.out, hN9, by omega⟩
              case measure => simp [intOf]; omega
            · go_wp2_with fail
              refine (take_okG q HQ2.out (by omega) (by omega) (by omega) (by omega) (by omega)).mono ?_
              rintro e w3 ⟨g3, rfl, hg3, hby3, ho3, t', h31, h32, h33, h34, hq3⟩
              have HB3 := Lib.hid (HB2.out.trans (ho3.below hs2))
              have hN3 : N ≤ w3.heap.size := by have := ho3.size; omega
              rw [if_pos hln.symm] at hq3
              rw [hln, show (q == q) = true from by simp]
              have hgt : ∀ y ∈ us, y.g < N := fun y hy => hgs y (List.mem_cons_of_mem _ hy)
              obtain ⟨NA', nc', w4, hr4, hnow4, hq4, hkept4, hb4⟩ := now_tail (n := q) (HNOW2.out.q (by decide) (by decide) ho3) hq3 hgt (HKEPT2.out.q (by decide) (by decide) ho3) hN3 (by omega) hby3 (by rw [List.length_take]; omega) (by omega) (by omega)
              have HB4 := Lib.hid (HB3.out.trans (hb4.mono (by omega)))
              obtain ⟨m, hm⟩ : ∃ m, d + q = m := ⟨_, rfl⟩
              have htk : r.bs.take d ++ t.bs.take q = r.bs.take m := by rw [← hm, List.take_add, htb]
              rw [htk, hm] at hnow4
              rw [hm] at hr4
              have hBN : N ≤ w4.heap.size := by have := hb4.size; omega
              have HBN := hBN
              have HST4 := Lib.hid (And.intro hnow4 (And.intro hq4 hkept4))
              have HR4 := Lib.hid hr4
              clear hby3 ho3 hq3 hgt hr4 hnow4 hq4 hkept4 hb4 hg3
              go_wp2_with (at_builtin; refine wpList_run rfl (.tmp 124) (.tmp 125) 64 rfl (.slice NA d nc) (.slice (some ⟨g3, 0, none⟩) q q) (by rfl) (by rfl) HR4.out ?_)
              obtain ⟨rb, ro, s9, c9, z1, z2⟩ := ord_facts (B := w.heap.size) (N := N) (m := m) (HROWS.out r (List.mem_of_getElem? hat)).1 hat HB4.out (by omega) (by omega) HST4.out.2.2 HST4.out.1
              have hcap := (HROWS.out r (List.mem_of_getElem? hat)).1.2.1
              have HORD := Lib.hid (show OrdB w.heap.size N rows (put + 1) (att + q) (i + 1) (.slice none 0 0) (.slice (some ⟨kg, 0, none⟩) rows.length kc) w4.drew from by
                have h := OrdB.whole (B := w.heap.size) (N := N) (rows := rows) (put := put) (att := att) (i := i) (n := q) (d := d) (last := last) (kv := .slice (some ⟨kg, 0, none⟩) rows.length kc) (wr := w4) (fun x hx => (HROWS.out x hx).2.1) hdr HST4.out.2.1 htb hus (by omega) HST4.out.2.2 hgs hul htot hpd hi (by omega)
                exact h)
              obtain ⟨rl, hrl9⟩ : ∃ rl, r.bs.length = rl := ⟨_, rfl⟩
              obtain ⟨rc, hrc9⟩ : ∃ rc, r.cap = rc := ⟨_, rfl⟩
              rw [hrl9, hrc9] at c9
              rw [hrc9] at z1
              rw [hrl9, hrc9] at hcap
              have b0 : (0 : Int) ≤ (put : Int) := by omega
              have b1 : (0 : Int) ≤ (m : Int) := by omega
              have b2 : (m : Int) ≤ (rc : Int) := by omega
              have b3 : ((m : Int) == (rl : Int)) = true := by rw [beq_iff_eq]; omega
              have b4 : IntKind.i64.wrap ((att : Int) + (q : Int)) = (att : Int) + (q : Int) := IntWalk.i64_in _ (by omega)
              have b5 : IntKind.i64.wrap ((i : Int) + 1) = (i : Int) + 1 := IntWalk.i64_in _ (by omega)
              have HB9 := Lib.hid HB4.out.drew
              have hN9 : N ≤ w4.drew.heap.size := HBN
              clear hcap hat HST4 HR4
              refine wp_region_still_lit (by kernel_rfl) (by kernel_rfl) ?_
              change wpStill _ _ w4.drew (fun b => _) _ _
              generalize w4.drew = w9 at c9 z1 z2 ⊢
              repeat still_step
              refine wpStill_nil ?_
              go_wp2_with fail
              go_roundw
              case rel => exact ⟨put + 1, att + q, i + 1, by omega, by go_num, by go_num, by go_num, HORD.out, HB9.out, hN9, by omega⟩
              case measure => simp [intOf]; omega
            · go_wp2_with fail
              refine (take_okG ln HQ2.out (by omega) (by omega) (by omega) (by omega) (by omega)).mono ?_
              rintro e w3 ⟨g3, rfl, hg3, hby3, ho3, t', h31, h32, h33, h34, hq3⟩
              have HB3 := Lib.hid (HB2.out.trans (ho3.below hs2))
              have hN3 : N ≤ w3.heap.size := by have := ho3.size; omega
              rw [if_pos hln.symm] at hq3
              rw [hln, show (ln == ln) = true from by simp]
              have hgt : ∀ y ∈ us, y.g < N := fun y hy => hgs y (List.mem_cons_of_mem _ hy)
              obtain ⟨NA', nc', w4, hr4, hnow4, hq4, hkept4, hb4⟩ := now_tail (n := ln) (HNOW2.out.q (by decide) (by decide) ho3) hq3 hgt (HKEPT2.out.q (by decide) (by decide) ho3) hN3 (by omega) hby3 (by rw [List.length_take]; omega) (by omega) (by omega)
              have HB4 := Lib.hid (HB3.out.trans (hb4.mono (by omega)))
              obtain ⟨m, hm⟩ : ∃ m, d + ln = m := ⟨_, rfl⟩
              have htk : r.bs.take d ++ t.bs.take ln = r.bs.take m := by rw [← hm, List.take_add, htb]
              rw [htk, hm] at hnow4
              rw [hm] at hr4
              have hBN : N ≤ w4.heap.size := by have := hb4.size; omega
              have HBN := hBN
              have HST4 := Lib.hid (And.intro hnow4 (And.intro hq4 hkept4))
              have HR4 := Lib.hid hr4
              clear hby3 ho3 hq3 hgt hr4 hnow4 hq4 hkept4 hb4 hg3
              go_wp2_with (at_builtin; refine wpList_run rfl (.tmp 124) (.tmp 125) 64 rfl (.slice NA d nc) (.slice (some ⟨g3, 0, none⟩) ln ln) (by rfl) (by rfl) HR4.out ?_)
              obtain ⟨rb, ro, s9, c9, z1, z2⟩ := ord_facts (B := w.heap.size) (N := N) (m := m) (HROWS.out r (List.mem_of_getElem? hat)).1 hat HB4.out (by omega) (by omega) HST4.out.2.2 HST4.out.1
              have hcap := (HROWS.out r (List.mem_of_getElem? hat)).1.2.1
              have HORD := Lib.hid (show OrdB w.heap.size N rows (put + 1) (att + ln) (i + 1) (.slice none 0 0) (.slice (some ⟨kg, 0, none⟩) rows.length kc) w4.drew from by
                have h := OrdB.whole (B := w.heap.size) (N := N) (rows := rows) (put := put) (att := att) (i := i) (n := ln) (d := d) (last := last) (kv := .slice (some ⟨kg, 0, none⟩) rows.length kc) (wr := w4) (fun x hx => (HROWS.out x hx).2.1) hdr HST4.out.2.1 htb hus (by omega) HST4.out.2.2 hgs hul htot hpd hi (by omega)
                exact h)
              obtain ⟨rl, hrl9⟩ : ∃ rl, r.bs.length = rl := ⟨_, rfl⟩
              obtain ⟨rc, hrc9⟩ : ∃ rc, r.cap = rc := ⟨_, rfl⟩
              rw [hrl9, hrc9] at c9
              rw [hrc9] at z1
              rw [hrl9, hrc9] at hcap
              have b0 : (0 : Int) ≤ (put : Int) := by omega
              have b1 : (0 : Int) ≤ (m : Int) := by omega
              have b2 : (m : Int) ≤ (rc : Int) := by omega
              have b3 : ((m : Int) == (rl : Int)) = true := by rw [beq_iff_eq]; omega
              have b4 : IntKind.i64.wrap ((att : Int) + (ln : Int)) = (att : Int) + (ln : Int) := IntWalk.i64_in _ (by omega)
              have b5 : IntKind.i64.wrap ((i : Int) + 1) = (i : Int) + 1 := IntWalk.i64_in _ (by omega)
              have HB9 := Lib.hid HB4.out.drew
              have hN9 : N ≤ w4.drew.heap.size := HBN
              clear hcap hat HST4 HR4
              refine wp_region_still_lit (by kernel_rfl) (by kernel_rfl) ?_
              change wpStill _ _ w4.drew (fun b => _) _ _
              generalize w4.drew = w9 at c9 z1 z2 ⊢
              repeat still_step
              refine wpStill_nil ?_
              go_wp2_with fail
              go_roundw
              case rel => exact ⟨put + 1, att + ln, i + 1, by omega, by go_num, by go_num, by go_num, HORD.out, HB9.out, hN9, by omega⟩
              case measure => simp [intOf]; omega
          · have hpe : put = rows.length := by omega
            obtain ⟨last, ts, d, hq, hmap, h0, _, _, _, _, _, _, hpd, _⟩ := hord
            rw [hpe, List.drop_length] at hmap
            have hts : ts = [] := by
              cases ts with
              | nil => rfl
              | cons t us => cases hmap
            subst hts
            have hpl9 : ¬ (put : Int) < (rows.length : Int) := by omega
            have hge2 : (rows.length : Int) ≤ (att : Int) := by omega
            have HQ := Lib.hid hq
            clear hq hmap h0
            go_wp2_with (first
              | (go_at_call 29; refine (alive4_any _).mono ?_; rintro e w7 ⟨rfl, hb7⟩; have HQ7 := Lib.hid (HQ.out.later hb7); have HB7 := Lib.hid (bl_step HBV.out hb7); clear hb7)
              | (go_at_call 41; refine (bytes_e HQ7.out).mono ?_; rintro e w8 ⟨rfl, hb8⟩; have HQ8 := Lib.hid (HQ7.out.later hb8); have HB8 := Lib.hid (bl_step HB7.out hb8); clear hb8)
              | (go_at_call 43; refine (ids_e HQ8.out).mono ?_; rintro e w9 ⟨g9, rfl, hb9⟩; have HB9 := Lib.hid (bl_step HB8.out hb9); clear hb9))
            go_ret
            exact ⟨rfl, HB9.out⟩
end Go.Proofs.Ytmaefeckkodllaa
