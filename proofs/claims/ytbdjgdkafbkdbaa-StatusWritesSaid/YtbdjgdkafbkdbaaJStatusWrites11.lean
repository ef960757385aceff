/-
  status: the document's Write: the same bits. status: numbers are got, one behind the other; what tells that bytes are a status. status: what is wrong with bytes; one miss is read.
-/
import Derived.Test.YtbdjgdkafbkdbaaJStatusWrites09
import Derived.Test.YtbdjgdkafbkdbaaJStatusWrites10
import Derived.Deep.RegionHeld3
import Derived.Test.YtbdjgdkafbkdbaaJStatusWrites08
import Derived.Test.YtbdjgdkafbkdbaaJStatusWrites02
import Derived.Test.YtbdjgdkafbkdbaaJStatusWrites07
namespace Go.Proofs.Ytbdjgdkafbkdbaa
open Go.RowKit

theorem smisses_len {ack : Int} {L : List MissM} {x : Nat} (h : rightB ack L x = true) {bl r : List Bool} (e : bitsP (statusP ack L x) = bl ++ r) : bl.length ≤ 2000 := by
  have h1 := len_statusP ack L x
  obtain ⟨hx, hok, _, hl, _⟩ := rightB_parts h
  have h2 := (bitsS_bd hok L).2
  rw [e, List.length_append] at h1
  omega
theorem u64_nat {v : Nat} (h : v < 65537) : IntKind.u64.wrap (v : Int) = (v : Int) := by rw [IntKind.wrap_u64]; omega
theorem to_cases {x : Nat} {to : Int} : (to = 0 ∧ lastF to x = onF x) ∨ (to ≠ 0 ∧ lastF to x = to - 1) := by
  unfold lastF
  by_cases h : to = 0
  · exact .inl ⟨h, by rw [if_pos h]⟩
  · exact .inr ⟨h, by rw [if_neg h]⟩
theorem bits_whole (x sN : Nat) (fr to : Int) (more : Bool) : bitsP (missP x ⟨sN, false, fr, to⟩ more) = unval sN x ++ [more, false] := by
  unfold missP
  rw [bitsP_cons, bitsP_cons, bitsP_cons, un_one, un_one, Int.toNat_natCast]
  simp [bitsP]
theorem bits_part (x sN fN lN : Nat) (to : Int) (more : Bool) (h : lastF to x = lN) : bitsP (missP x ⟨sN, true, fN, to⟩ more) = ((unval sN x ++ [more, true]) ++ unval fN (pbN x)) ++ unval lN (pbN x) := by
  unfold missP
  simp only [h]
  rw [bitsP_cons, bitsP_cons, bitsP_cons, un_one, un_one, Int.toNat_natCast, if_pos trivial, Int.toNat_natCast, Int.toNat_natCast, bitsP_cons, bitsP_cons]
  simp [bitsP, List.append_assoc]
set_option maxRecDepth 100000 in
set_option maxHeartbeats 6400000 in
theorem stref_write {A : Option Addr} {L : List MissM} (ack x n cap : Nat) (w : World) (hL : L.length = n) (hs : MSrc w A L) (hb : rightB ack L x = true) :
    Calls Try.prog 59 #[.agg #[.int .i64 ack, .slice A n cap], .int .i64 x] w fun e w' => ∃ v', e = .returned v' ∧ OwnY w.heap.size w' v' (stBytes ack L x) ∧ Below w.heap.size w w' := by
  obtain ⟨hx, hok, ha, hl, hall⟩ := rightB_parts hb
  obtain ⟨_, ha1⟩ := (okn_nat hx).1 ha
  rw [Int.toNat_natCast] at ha1
  have hx16 : x ≤ 16 := by omega
  have hx10 : 10 ≤ x := by omega
  have hp16 : 2 ^ x ≤ 65536 := Nat.pow_le_pow_right (by decide) hx16
  have hn32 : n ≤ 32 := by omega
  have haw : IntKind.u64.wrap (ack : Int) = (ack : Int) := u64_nat (by omega)
  have HAL := Lib.hid hall
  have HS := Lib.hid hs
  have HL := Lib.hid hL
  have HX := Lib.hid hx
  have HLE := Lib.hid (fun bl r e => smisses_len (bl := bl) (r := r) hb e)
  have HFULL := Lib.hid (show bitsP (statusP ack L x) = ((([false, false, false, false] ++ unval ack x) ++ [decide (0 < n)]) ++ bitsP (missesP x L)) by
    have e : decide (0 < L.length) = decide (0 < n) := by rw [hL]
    unfold statusP headP
    rw [e, bitsP_append, bitsP_cons, bitsP_cons, bitsP_cons, un_one, Int.toNat_natCast]
    simp [bitsP, unval, List.append_assoc])
  have ROW0 := Lib.hid (Row.made w 84 #[.int .i64 ack, .slice A n cap])
  have HB0 := Lib.hid (bl_alloc (Below.refl w.heap.size w) (.cells #[.int .i64 ack, .slice A n cap] 84))
  have HBW := Lib.hid (bl_alloc (Below.refl (w.alloc (.cells #[.int .i64 ack, .slice A n cap] 84)).heap.size (w.alloc (.cells #[.int .i64 ack, .slice A n cap] 84))) (.cells #[.bool false, .bool false, .bool false, .bool false] 4))
  have HBA := Lib.hid (bl_alloc HB0.out (.cells #[.bool false, .bool false, .bool false, .bool false] 4))
  have ROWA := Lib.hid (ROW0.out.more (.cells #[.bool false, .bool false, .bool false, .bool false] 4))
  have hx0 := sbits4 (w.alloc (.cells #[.int .i64 ack, .slice A n cap] 84)) false false false false
  have HP0 := Lib.hid (arefput_at (c := 4) (nn := 4) ack x (4 + x) x rfl rfl hx0 rfl (by omega) ha1 (by omega) (by omega))
  rw [show (w.alloc (.cells #[.int .i64 ack, .slice A n cap] 84)).heap.size = w.heap.size + 1 by simp] at HP0
  have c0 := ROWA.out.read (i := 0) rfl
  have HOF := Lib.hid (fun W => roff_any x W)
  have HPL := Lib.hid (fun W => rplaces_any x W)
  clear hs hL hall hb hok ha hl hx0
  generalize hST : bitsP (statusP ack L x) = full at HFULL HLE
  have HST := Lib.hid hST
  clear hST
  go_enter Try.func59, Try.ntmps59
  go_wp2_with (first
    | (go_at_call 108; (with_reducible refine HP0.out.mono ?_); rintro e w1 ⟨A1, c1, rfl, ho1, hn1, hb1⟩; (have HB1 := Lib.hid (bl_step HBW.out hb1); have HR1 := Lib.hid (ROWA.out.later hb1); have d1 : w1.cell? ⟨w.heap.size, 1, none⟩ = some (.slice A n cap) := HR1.out.read rfl; obtain ⟨A2, c2, w2, hr1, ho2, hn2, hb2⟩ := abool_tail (decide (0 < n)) (4 + x + 1) rfl ho1 hn1 hb1.size (by omega); have HO2 := Lib.hid ho2; have HN2 := Lib.hid hn2; have HB2 := Lib.hid (HB1.out.trans (hb2.mono HBW.out.size)); have HR2 := Lib.hid (ROWA.out.later (hb1.trans hb2)); clear ho1 hn1 hb1 ho2 hn2 hb2 HP0 c0))
    | (at_builtin; refine wpList_run rfl (.tmp 19) (.tmp 24) 29 rfl (.slice A1 (4 + x) c1) (.slice (some ⟨w1.heap.size, 0, none⟩) 1 1) (by rfl) (by rfl) hr1 ?_))
  generalize hbm : decide (0 < n) = b0 at *
  have HSZ0 := Lib.hid (show (w.alloc (.cells #[.int .i64 ack, .slice A n cap] 84)).heap.size = w.heap.size + 1 by simp)
  go_loopw [5, 6] (fun s i wr => ∃ (k nn : Nat) (bl : List Bool) (A' : Option Addr) (c' : Nat), k ≤ n ∧ s = .slice A' nn c' ∧ i = .int .i64 k ∧ Hid (bl.length = nn) ∧ Hid (full = bl ++ bitsP (missesP x (L.drop k))) ∧ Hid (OwnB w.heap.size wr (.slice A' nn c') bl) ∧ Hid (Below (w.alloc (.cells #[.int .i64 ack, .slice A n cap] 84)).heap.size (w.alloc (.cells #[.int .i64 ack, .slice A n cap] 84)) wr)) (fun _ i _ => n - (intOf i).toNat)
  case atStart => exact ⟨0, _, _, _, _, by omega, rfl, rfl, HN2, Lib.hid HFULL.out, Lib.hid (HO2.out.dn HBA.out.size), HB2⟩
  case round =>
    obtain ⟨k, nn, bl, A3, c3, hk, rfl, rfl, HN3, HK, HO3, HB3⟩ := hrel
    have g1 : wr.cell? ⟨w.heap.size, 1, none⟩ = some (.slice A n cap) := (ROW0.out.later HB3.out).read rfl
    have HLN := Lib.hid (show nn ≤ 2000 by rw [← HN3.out]; exact HLE.out _ _ HK.out)
    by_cases hlt : k < n
    · obtain ⟨ab, ao, rfl, hc⟩ := HS.out (by rw [HL.out]; omega)
      obtain ⟨⟨sn, part, fr, to⟩, hr⟩ : ∃ r, L[k]? = some r := ⟨_, List.getElem?_eq_getElem (by rw [HL.out]; exact hlt)⟩
      obtain ⟨e0, e1, e2, e3⟩ := hc k _ hr
      have HWR := Lib.hid (bl_step HB0.out HB3.out)
      have f0 := cell_below HWR.out e0
      have f1 := cell_below HWR.out e1
      have f2 := cell_below HWR.out e2
      have f3 := cell_below HWR.out e3
      have HD := Lib.hid (show L.drop k = ⟨sn, part, fr, to⟩ :: L.drop (k + 1) by
        obtain ⟨h1, h2⟩ := List.getElem?_eq_some_iff.1 hr
        rw [List.drop_eq_getElem_cons h1, h2])
      have hmb := List.all_eq_true.1 HAL.out ⟨sn, part, fr, to⟩ (List.mem_of_getElem? hr)
      have HDL := Lib.hid (show (L.drop (k + 1)).length = n - (k + 1) by rw [List.length_drop, HL.out])
      unfold missB at hmb
      rw [Bool.and_eq_true] at hmb
      obtain ⟨hsn0, hsn1⟩ := (okn_nat HX.out).1 hmb.1
      obtain ⟨sN, rfl⟩ : ∃ sN : Nat, sn = sN := ⟨sn.toNat, by simp only [] at hsn0; omega⟩
      have hpl := hmb.2
      simp only [Int.toNat_natCast] at hsn1
      have hsw : IntKind.u64.wrap (sN : Int) = (sN : Int) := u64_nat (by omega)
      have hkI : (k : Int) < (n : Int) := by omega
      have HSN := Lib.hid hsn1
      clear hc hr e0 e1 e2 e3 hmb hsn0 hsn1
      simp only at f0 f1 f2 f3
      by_cases hmo : k + 1 < n
      · have HMO := Lib.hid (show decide (0 < (L.drop (k + 1)).length) = true by rw [HDL.out]; simp; omega)
        have hmI : decide ((k : Int) + 1 < (n : Int)) = true := decide_eq_true (by omega)
        cases part
        · clear hpl
          have RM := Lib.hid (Row.made wr 159 #[.int .i64 sN, .bool false, .int .i64 fr, .int .i64 to])
          have HA3 := Lib.hid (bl_alloc HB3.out (.cells #[.int .i64 sN, .bool false, .int .i64 fr, .int .i64 to] 159))
          have HP1 := Lib.hid (arefput_at (w := wr.alloc (.cells #[.int .i64 sN, .bool false, .int .i64 fr, .int .i64 to] 159)) sN x (nn + x) x rfl rfl (HO3.out.later (bl_alloc (Below.refl _ _) _)) HN3.out (by omega) HSN.out (by have := HLN.out; omega) (by have := HSN.out; omega))
          have r1 : (wr.alloc (.cells #[.int .i64 sN, .bool false, .int .i64 fr, .int .i64 to] 159)).cell? ⟨wr.heap.size, 0, none⟩ = some (.int .i64 sN) := RM.out.read rfl
          go_wp2_with (first
            | (go_at_call 108; (with_reducible refine HP1.out.mono ?_); rintro e w3 ⟨A4, c4, rfl, ho4, hn4, hb4⟩; (obtain ⟨A5, c5, w4, hr5, ho5, hn5, hb5⟩ := abool_tail2 true false (nn + x + 2) rfl ho4 hn4 hb4.size (by have := HLN.out; omega); have q1 : w3.cell? ⟨w.heap.size, 1, none⟩ = some (.slice (some ⟨ab, ao, none⟩) n cap) := (ROW0.out.later (bl_step HA3.out hb4)).read rfl; have q2 : w3.cell? ⟨wr.heap.size, 1, none⟩ = some (.bool false) := (RM.out.later hb4).read rfl; have RM4 := Lib.hid (RM.out.later (hb4.trans hb5)); have HB4 := Lib.hid (bl_step HA3.out (hb4.trans hb5)); have HO5 := Lib.hid ho5; have HN5 := Lib.hid hn5; have q3 : w4.cell? ⟨wr.heap.size, 1, none⟩ = some (.bool false) := RM4.out.read rfl; clear ho4 hn4 hb4 ho5 hn5 hb5 r1))
            | (at_builtin; refine wpList_run rfl (.tmp 47) (.tmp 56) 29 rfl (.slice A4 (nn + x) c4) (.slice (some ⟨w3.heap.size, 0, none⟩) 2 2) (by rfl) (by rfl) hr5 ?_))
          go_roundw
          case rel => exact ⟨k + 1, _, _, _, _, by omega, rfl, by go_num, HN5, Lib.hid (by rw [HK.out, HD.out, missesP, bitsP_append, HMO.out, bits_whole]; simp [List.append_assoc]), Lib.hid (HO5.out.dn (by have := HA3.out.size; have := HSZ0.out; omega)), HB4⟩
          case measure => simp [intOf]; omega
        · obtain ⟨hf0, hf1, hl0, hl1, -⟩ := miss_part rfl hpl
          have htc := to_cases (x := x) (to := to)
          simp only [] at hf0 hf1 hl0 hl1
          obtain ⟨fN, rfl⟩ : ∃ fN : Nat, fr = fN := ⟨fr.toNat, by omega⟩
          obtain ⟨lN, hlN⟩ : ∃ lN : Nat, lastF to x = lN := ⟨(lastF to x).toNat, by omega⟩
          rw [hlN] at hl1 htc
          rw [Int.toNat_natCast] at hf1 hl1
          have hpw := (pow_pbN x).2
          have hfw : IntKind.u64.wrap (fN : Int) = (fN : Int) := u64_nat (by omega)
          have hlw : IntKind.u64.wrap (lN : Int) = (lN : Int) := u64_nat (by omega)
          have hf9 : fN < 65536 := by omega
          have hl9 : lN < 65536 := by omega
          have HFN := Lib.hid hf1
          have HLB := Lib.hid hl1
          have HLF := Lib.hid hlN
          clear hf0 hf1 hl0 hl1 hlN hpl
          rcases htc with ⟨rfl, hon⟩ | ⟨ht0, ht1⟩
          · have HPLx := Lib.hid (fun W => HPL.out W)
            rw [← hon] at HPLx
            clear hon
            have RM := Lib.hid (Row.made wr 159 #[.int .i64 sN, .bool true, .int .i64 (fN : Int), .int .i64 0])
            have HA3 := Lib.hid (bl_alloc HB3.out (.cells #[.int .i64 sN, .bool true, .int .i64 (fN : Int), .int .i64 0] 159))
            have HP1 := Lib.hid (arefput_at (w := wr.alloc (.cells #[.int .i64 sN, .bool true, .int .i64 (fN : Int), .int .i64 0] 159)) sN x (nn + x) x rfl rfl (HO3.out.later (bl_alloc (Below.refl _ _) _)) HN3.out (by omega) HSN.out (by have := HLN.out; omega) (by have := HSN.out; omega))
            have r1 : (wr.alloc (.cells #[.int .i64 sN, .bool true, .int .i64 (fN : Int), .int .i64 0] 159)).cell? ⟨wr.heap.size, 0, none⟩ = some (.int .i64 sN) := RM.out.read rfl
            go_wp2_with (first
              | (go_at_call 108; (with_reducible refine HP1.out.mono ?_); rintro e w3 ⟨A4, c4, rfl, ho4, hn4, hb4⟩; (obtain ⟨A5, c5, w4, hr5, ho5, hn5, hb5⟩ := abool_tail2 true true (nn + x + 2) rfl ho4 hn4 hb4.size (by have := HLN.out; omega); have q1 : w3.cell? ⟨w.heap.size, 1, none⟩ = some (.slice (some ⟨ab, ao, none⟩) n cap) := (ROW0.out.later (bl_step HA3.out hb4)).read rfl; have q2 : w3.cell? ⟨wr.heap.size, 1, none⟩ = some (.bool true) := (RM.out.later hb4).read rfl; have RM4 := Lib.hid (RM.out.later (hb4.trans hb5)); have HB4 := Lib.hid (bl_step HA3.out (hb4.trans hb5)); have HO5 := Lib.hid ho5; have HN5 := Lib.hid hn5; have q3 : w4.cell? ⟨wr.heap.size, 1, none⟩ = some (.bool true) := RM4.out.read rfl; have q4 : w4.cell? ⟨wr.heap.size, 3, none⟩ = some (.int .i64 0) := RM4.out.read rfl; clear ho4 hn4 hb4 ho5 hn5 hb5 r1))
              | (at_builtin; refine wpList_run rfl (.tmp 47) (.tmp 56) 29 rfl (.slice A4 (nn + x) c4) (.slice (some ⟨w3.heap.size, 0, none⟩) 2 2) (by rfl) (by rfl) hr5 ?_)
              | (go_at_call 109; (with_reducible refine (HPLx.out _).mono ?_); rintro e wx ⟨rfl, rfl⟩))
            have HO5d := Lib.hid (HO5.out.later (bl_drew (Below.refl _ _)))
            have k2 : w4.drew.cell? ⟨wr.heap.size, 2, none⟩ = some (.int .i64 fN) := RM4.out.drawn.read rfl
            have HP3 := Lib.hid (arefput_at fN (pbN x) (nn + x + 2 + pbN x) (pbF x) (pbN_cast x) rfl HO5d.out HN5.out (by have := pbN_bd x; omega) HFN.out (by have := HLN.out; omega) (by omega))
            go_region_held3 (fun w' => w'.cell? ⟨wr.heap.size, 2, none⟩ = some (.int .i64 fN)) (first | assumption | exact k2 | exact k5 | go_keep) (first
              | (go_at_call 110; (with_reducible refine (HOF.out _).mono ?_); rintro e vx ⟨rfl, rfl⟩)
              | (go_at_call 108; (with_reducible refine HP3.out.mono ?_); rintro e w5 ⟨A6, c6, rfl, ho6, hn6, hb6⟩; (have HO6 := Lib.hid ho6; have HN6 := Lib.hid hn6; have HB6 := Lib.hid (bl_step HB4.out (bl_step (bl_drew (Below.refl _ _)) hb6)); have k5 : w5.cell? ⟨wr.heap.size, 2, none⟩ = some (.int .i64 fN) := (RM4.out.drawn.later hb6).read rfl; clear ho6 hn6 hb6)))
            have HP4 := Lib.hid (arefput_at lN (pbN x) (nn + x + 2 + pbN x + pbN x) (pbF x) (pbN_cast x) rfl HO6.out HN6.out (by have := pbN_bd x; omega) HLB.out (by have := HLN.out; have := pbN_bd x; omega) (by omega))
            go_wp2_with (first
              | (go_at_call 110; (with_reducible refine (HOF.out _).mono ?_); rintro e vx ⟨rfl, rfl⟩)
              | (go_at_call 108; (with_reducible refine HP4.out.mono ?_); rintro e w7 ⟨A7, c7, rfl, ho7, hn7, hb7⟩; (have HO7 := Lib.hid ho7; have HN7 := Lib.hid hn7; have HB7 := Lib.hid (bl_step HB6.out hb7); have HS7 := Lib.hid HB6.out.size; clear ho7 hn7 hb7)))
            go_roundw
            case rel => exact ⟨k + 1, _, _, _, _, by omega, rfl, by go_num, HN7, Lib.hid (by rw [HK.out, HD.out, missesP, bitsP_append, HMO.out, bits_part x sN fN lN _ _ HLF.out]; simp [List.append_assoc]), Lib.hid (HO7.out.dn (by have := HS7.out; have := HSZ0.out; omega)), HB7⟩
            case measure => simp [intOf]; omega
          · obtain rfl : to = (lN : Int) + 1 := by omega
            have ht2 : ((lN : Int) + 1 == 0) = false := by simp; omega
            clear ht0 ht1
            have RM := Lib.hid (Row.made wr 159 #[.int .i64 sN, .bool true, .int .i64 (fN : Int), .int .i64 ((lN : Int) + 1)])
            have HA3 := Lib.hid (bl_alloc HB3.out (.cells #[.int .i64 sN, .bool true, .int .i64 (fN : Int), .int .i64 ((lN : Int) + 1)] 159))
            have HP1 := Lib.hid (arefput_at (w := wr.alloc (.cells #[.int .i64 sN, .bool true, .int .i64 (fN : Int), .int .i64 ((lN : Int) + 1)] 159)) sN x (nn + x) x rfl rfl (HO3.out.later (bl_alloc (Below.refl _ _) _)) HN3.out (by omega) HSN.out (by have := HLN.out; omega) (by have := HSN.out; omega))
            have r1 : (wr.alloc (.cells #[.int .i64 sN, .bool true, .int .i64 (fN : Int), .int .i64 ((lN : Int) + 1)] 159)).cell? ⟨wr.heap.size, 0, none⟩ = some (.int .i64 sN) := RM.out.read rfl
            go_wp2_with (first
              | (go_at_call 108; (with_reducible refine HP1.out.mono ?_); rintro e w3 ⟨A4, c4, rfl, ho4, hn4, hb4⟩; (obtain ⟨A5, c5, w4, hr5, ho5, hn5, hb5⟩ := abool_tail2 true true (nn + x + 2) rfl ho4 hn4 hb4.size (by have := HLN.out; omega); have q1 : w3.cell? ⟨w.heap.size, 1, none⟩ = some (.slice (some ⟨ab, ao, none⟩) n cap) := (ROW0.out.later (bl_step HA3.out hb4)).read rfl; have q2 : w3.cell? ⟨wr.heap.size, 1, none⟩ = some (.bool true) := (RM.out.later hb4).read rfl; have RM4 := Lib.hid (RM.out.later (hb4.trans hb5)); have HB4 := Lib.hid (bl_step HA3.out (hb4.trans hb5)); have HO5 := Lib.hid ho5; have HN5 := Lib.hid hn5; have q3 : w4.cell? ⟨wr.heap.size, 1, none⟩ = some (.bool true) := RM4.out.read rfl; have q4 : w4.cell? ⟨wr.heap.size, 3, none⟩ = some (.int .i64 ((lN : Int) + 1)) := RM4.out.read rfl; clear ho4 hn4 hb4 ho5 hn5 hb5 r1))
              | (at_builtin; refine wpList_run rfl (.tmp 47) (.tmp 56) 29 rfl (.slice A4 (nn + x) c4) (.slice (some ⟨w3.heap.size, 0, none⟩) 2 2) (by rfl) (by rfl) hr5 ?_))
            have HO5d := Lib.hid (HO5.out.later (bl_drew (Below.refl _ _)))
            have k2 : w4.drew.cell? ⟨wr.heap.size, 2, none⟩ = some (.int .i64 fN) := RM4.out.drawn.read rfl
            have HP3 := Lib.hid (arefput_at fN (pbN x) (nn + x + 2 + pbN x) (pbF x) (pbN_cast x) rfl HO5d.out HN5.out (by have := pbN_bd x; omega) HFN.out (by have := HLN.out; omega) (by omega))
            go_region_held3 (fun w' => w'.cell? ⟨wr.heap.size, 2, none⟩ = some (.int .i64 fN)) (first | assumption | exact k2 | exact k5 | go_keep) (first
              | (go_at_call 110; (with_reducible refine (HOF.out _).mono ?_); rintro e vx ⟨rfl, rfl⟩)
              | (go_at_call 108; (with_reducible refine HP3.out.mono ?_); rintro e w5 ⟨A6, c6, rfl, ho6, hn6, hb6⟩; (have HO6 := Lib.hid ho6; have HN6 := Lib.hid hn6; have HB6 := Lib.hid (bl_step HB4.out (bl_step (bl_drew (Below.refl _ _)) hb6)); have k5 : w5.cell? ⟨wr.heap.size, 2, none⟩ = some (.int .i64 fN) := (RM4.out.drawn.later hb6).read rfl; clear ho6 hn6 hb6)))
            have HP4 := Lib.hid (arefput_at lN (pbN x) (nn + x + 2 + pbN x + pbN x) (pbF x) (pbN_cast x) rfl HO6.out HN6.out (by have := pbN_bd x; omega) HLB.out (by have := HLN.out; have := pbN_bd x; omega) (by omega))
            go_wp2_with (first
              | (go_at_call 110; (with_reducible refine (HOF.out _).mono ?_); rintro e vx ⟨rfl, rfl⟩)
              | (go_at_call 108; (with_reducible refine HP4.out.mono ?_); rintro e w7 ⟨A7, c7, rfl, ho7, hn7, hb7⟩; (have HO7 := Lib.hid ho7; have HN7 := Lib.hid hn7; have HB7 := Lib.hid (bl_step HB6.out hb7); have HS7 := Lib.hid HB6.out.size; clear ho7 hn7 hb7)))
            go_roundw
            case rel => exact ⟨k + 1, _, _, _, _, by omega, rfl, by go_num, HN7, Lib.hid (by rw [HK.out, HD.out, missesP, bitsP_append, HMO.out, bits_part x sN fN lN _ _ HLF.out]; simp [List.append_assoc]), Lib.hid (HO7.out.dn (by have := HS7.out; have := HSZ0.out; omega)), HB7⟩
            case measure => simp [intOf]; omega
      · have HMO := Lib.hid (show decide (0 < (L.drop (k + 1)).length) = false by rw [HDL.out]; simp; omega)
        have hmI : decide ((k : Int) + 1 < (n : Int)) = false := decide_eq_false (by omega)
        cases part
        · clear hpl
          have RM := Lib.hid (Row.made wr 159 #[.int .i64 sN, .bool false, .int .i64 fr, .int .i64 to])
          have HA3 := Lib.hid (bl_alloc HB3.out (.cells #[.int .i64 sN, .bool false, .int .i64 fr, .int .i64 to] 159))
          have HP1 := Lib.hid (arefput_at (w := wr.alloc (.cells #[.int .i64 sN, .bool false, .int .i64 fr, .int .i64 to] 159)) sN x (nn + x) x rfl rfl (HO3.out.later (bl_alloc (Below.refl _ _) _)) HN3.out (by omega) HSN.out (by have := HLN.out; omega) (by have := HSN.out; omega))
          have r1 : (wr.alloc (.cells #[.int .i64 sN, .bool false, .int .i64 fr, .int .i64 to] 159)).cell? ⟨wr.heap.size, 0, none⟩ = some (.int .i64 sN) := RM.out.read rfl
          go_wp2_with (first
            | (go_at_call 108; (with_reducible refine HP1.out.mono ?_); rintro e w3 ⟨A4, c4, rfl, ho4, hn4, hb4⟩; (obtain ⟨A5, c5, w4, hr5, ho5, hn5, hb5⟩ := abool_tail2 false false (nn + x + 2) rfl ho4 hn4 hb4.size (by have := HLN.out; omega); have q1 : w3.cell? ⟨w.heap.size, 1, none⟩ = some (.slice (some ⟨ab, ao, none⟩) n cap) := (ROW0.out.later (bl_step HA3.out hb4)).read rfl; have q2 : w3.cell? ⟨wr.heap.size, 1, none⟩ = some (.bool false) := (RM.out.later hb4).read rfl; have RM4 := Lib.hid (RM.out.later (hb4.trans hb5)); have HB4 := Lib.hid (bl_step HA3.out (hb4.trans hb5)); have HO5 := Lib.hid ho5; have HN5 := Lib.hid hn5; have q3 : w4.cell? ⟨wr.heap.size, 1, none⟩ = some (.bool false) := RM4.out.read rfl; clear ho4 hn4 hb4 ho5 hn5 hb5 r1))
            | (at_builtin; refine wpList_run rfl (.tmp 47) (.tmp 56) 29 rfl (.slice A4 (nn + x) c4) (.slice (some ⟨w3.heap.size, 0, none⟩) 2 2) (by rfl) (by rfl) hr5 ?_))
          go_roundw
          case rel => exact ⟨k + 1, _, _, _, _, by omega, rfl, by go_num, HN5, Lib.hid (by rw [HK.out, HD.out, missesP, bitsP_append, HMO.out, bits_whole]; simp [List.append_assoc]), Lib.hid (HO5.out.dn (by have := HA3.out.size; have := HSZ0.out; omega)), HB4⟩
          case measure => simp [intOf]; omega
        · obtain ⟨hf0, hf1, hl0, hl1, -⟩ := miss_part rfl hpl
          have htc := to_cases (x := x) (to := to)
          simp only [] at hf0 hf1 hl0 hl1
          obtain ⟨fN, rfl⟩ : ∃ fN : Nat, fr = fN := ⟨fr.toNat, by omega⟩
          obtain ⟨lN, hlN⟩ : ∃ lN : Nat, lastF to x = lN := ⟨(lastF to x).toNat, by omega⟩
          rw [hlN] at hl1 htc
          rw [Int.toNat_natCast] at hf1 hl1
          have hpw := (pow_pbN x).2
          have hfw : IntKind.u64.wrap (fN : Int) = (fN : Int) := u64_nat (by omega)
          have hlw : IntKind.u64.wrap (lN : Int) = (lN : Int) := u64_nat (by omega)
          have hf9 : fN < 65536 := by omega
          have hl9 : lN < 65536 := by omega
          have HFN := Lib.hid hf1
          have HLB := Lib.hid hl1
          have HLF := Lib.hid hlN
          clear hf0 hf1 hl0 hl1 hlN hpl
          rcases htc with ⟨rfl, hon⟩ | ⟨ht0, ht1⟩
          · have HPLx := Lib.hid (fun W => HPL.out W)
            rw [← hon] at HPLx
            clear hon
            have RM := Lib.hid (Row.made wr 159 #[.int .i64 sN, .bool true, .int .i64 (fN : Int), .int .i64 0])
            have HA3 := Lib.hid (bl_alloc HB3.out (.cells #[.int .i64 sN, .bool true, .int .i64 (fN : Int), .int .i64 0] 159))
            have HP1 := Lib.hid (arefput_at (w := wr.alloc (.cells #[.int .i64 sN, .bool true, .int .i64 (fN : Int), .int .i64 0] 159)) sN x (nn + x) x rfl rfl (HO3.out.later (bl_alloc (Below.refl _ _) _)) HN3.out (by omega) HSN.out (by have := HLN.out; omega) (by have := HSN.out; omega))
            have r1 : (wr.alloc (.cells #[.int .i64 sN, .bool true, .int .i64 (fN : Int), .int .i64 0] 159)).cell? ⟨wr.heap.size, 0, none⟩ = some (.int .i64 sN) := RM.out.read rfl
            go_wp2_with (first
              | (go_at_call 108; (with_reducible refine HP1.out.mono ?_); rintro e w3 ⟨A4, c4, rfl, ho4, hn4, hb4⟩; (obtain ⟨A5, c5, w4, hr5, ho5, hn5, hb5⟩ := abool_tail2 false true (nn + x + 2) rfl ho4 hn4 hb4.size (by have := HLN.out; omega); have q1 : w3.cell? ⟨w.heap.size, 1, none⟩ = some (.slice (some ⟨ab, ao, none⟩) n cap) := (ROW0.out.later (bl_step HA3.out hb4)).read rfl; have q2 : w3.cell? ⟨wr.heap.size, 1, none⟩ = some (.bool true) := (RM.out.later hb4).read rfl; have RM4 := Lib.hid (RM.out.later (hb4.trans hb5)); have HB4 := Lib.hid (bl_step HA3.out (hb4.trans hb5)); have HO5 := Lib.hid ho5; have HN5 := Lib.hid hn5; have q3 : w4.cell? ⟨wr.heap.size, 1, none⟩ = some (.bool true) := RM4.out.read rfl; have q4 : w4.cell? ⟨wr.heap.size, 3, none⟩ = some (.int .i64 0) := RM4.out.read rfl; clear ho4 hn4 hb4 ho5 hn5 hb5 r1))
              | (at_builtin; refine wpList_run rfl (.tmp 47) (.tmp 56) 29 rfl (.slice A4 (nn + x) c4) (.slice (some ⟨w3.heap.size, 0, none⟩) 2 2) (by rfl) (by rfl) hr5 ?_)
              | (go_at_call 109; (with_reducible refine (HPLx.out _).mono ?_); rintro e wx ⟨rfl, rfl⟩))
            have HO5d := Lib.hid (HO5.out.later (bl_drew (Below.refl _ _)))
            have k2 : w4.drew.cell? ⟨wr.heap.size, 2, none⟩ = some (.int .i64 fN) := RM4.out.drawn.read rfl
            have HP3 := Lib.hid (arefput_at fN (pbN x) (nn + x + 2 + pbN x) (pbF x) (pbN_cast x) rfl HO5d.out HN5.out (by have := pbN_bd x; omega) HFN.out (by have := HLN.out; omega) (by omega))
            go_region_held3 (fun w' => w'.cell? ⟨wr.heap.size, 2, none⟩ = some (.int .i64 fN)) (first | assumption | exact k2 | exact k5 | go_keep) (first
              | (go_at_call 110; (with_reducible refine (HOF.out _).mono ?_); rintro e vx ⟨rfl, rfl⟩)
              | (go_at_call 108; (with_reducible refine HP3.out.mono ?_); rintro e w5 ⟨A6, c6, rfl, ho6, hn6, hb6⟩; (have HO6 := Lib.hid ho6; have HN6 := Lib.hid hn6; have HB6 := Lib.hid (bl_step HB4.out (bl_step (bl_drew (Below.refl _ _)) hb6)); have k5 : w5.cell? ⟨wr.heap.size, 2, none⟩ = some (.int .i64 fN) := (RM4.out.drawn.later hb6).read rfl; clear ho6 hn6 hb6)))
            have HP4 := Lib.hid (arefput_at lN (pbN x) (nn + x + 2 + pbN x + pbN x) (pbF x) (pbN_cast x) rfl HO6.out HN6.out (by have := pbN_bd x; omega) HLB.out (by have := HLN.out; have := pbN_bd x; omega) (by omega))
            go_wp2_with (first
              | (go_at_call 110; (with_reducible refine (HOF.out _).mono ?_); rintro e vx ⟨rfl, rfl⟩)
              | (go_at_call 108; (with_reducible refine HP4.out.mono ?_); rintro e w7 ⟨A7, c7, rfl, ho7, hn7, hb7⟩; (have HO7 := Lib.hid ho7; have HN7 := Lib.hid hn7; have HB7 := Lib.hid (bl_step HB6.out hb7); have HS7 := Lib.hid HB6.out.size; clear ho7 hn7 hb7)))
            go_roundw
            case rel => exact ⟨k + 1, _, _, _, _, by omega, rfl, by go_num, HN7, Lib.hid (by rw [HK.out, HD.out, missesP, bitsP_append, HMO.out, bits_part x sN fN lN _ _ HLF.out]; simp [List.append_assoc]), Lib.hid (HO7.out.dn (by have := HS7.out; have := HSZ0.out; omega)), HB7⟩
            case measure => simp [intOf]; omega
          · obtain rfl : to = (lN : Int) + 1 := by omega
            have ht2 : ((lN : Int) + 1 == 0) = false := by simp; omega
            clear ht0 ht1
            have RM := Lib.hid (Row.made wr 159 #[.int .i64 sN, .bool true, .int .i64 (fN : Int), .int .i64 ((lN : Int) + 1)])
            have HA3 := Lib.hid (bl_alloc HB3.out (.cells #[.int .i64 sN, .bool true, .int .i64 (fN : Int), .int .i64 ((lN : Int) + 1)] 159))
            have HP1 := Lib.hid (arefput_at (w := wr.alloc (.cells #[.int .i64 sN, .bool true, .int .i64 (fN : Int), .int .i64 ((lN : Int) + 1)] 159)) sN x (nn + x) x rfl rfl (HO3.out.later (bl_alloc (Below.refl _ _) _)) HN3.out (by omega) HSN.out (by have := HLN.out; omega) (by have := HSN.out; omega))
            have r1 : (wr.alloc (.cells #[.int .i64 sN, .bool true, .int .i64 (fN : Int), .int .i64 ((lN : Int) + 1)] 159)).cell? ⟨wr.heap.size, 0, none⟩ = some (.int .i64 sN) := RM.out.read rfl
            go_wp2_with (first
              | (go_at_call 108; (with_reducible refine HP1.out.mono ?_); rintro e w3 ⟨A4, c4, rfl, ho4, hn4, hb4⟩; (obtain ⟨A5, c5, w4, hr5, ho5, hn5, hb5⟩ := abool_tail2 false true (nn + x + 2) rfl ho4 hn4 hb4.size (by have := HLN.out; omega); have q1 : w3.cell? ⟨w.heap.size, 1, none⟩ = some (.slice (some ⟨ab, ao, none⟩) n cap) := (ROW0.out.later (bl_step HA3.out hb4)).read rfl; have q2 : w3.cell? ⟨wr.heap.size, 1, none⟩ = some (.bool true) := (RM.out.later hb4).read rfl; have RM4 := Lib.hid (RM.out.later (hb4.trans hb5)); have HB4 := Lib.hid (bl_step HA3.out (hb4.trans hb5)); have HO5 := Lib.hid ho5; have HN5 := Lib.hid hn5; have q3 : w4.cell? ⟨wr.heap.size, 1, none⟩ = some (.bool true) := RM4.out.read rfl; have q4 : w4.cell? ⟨wr.heap.size, 3, none⟩ = some (.int .i64 ((lN : Int) + 1)) := RM4.out.read rfl; clear ho4 hn4 hb4 ho5 hn5 hb5 r1))
              | (at_builtin; refine wpList_run rfl (.tmp 47) (.tmp 56) 29 rfl (.slice A4 (nn + x) c4) (.slice (some ⟨w3.heap.size, 0, none⟩) 2 2) (by rfl) (by rfl) hr5 ?_))
            have HO5d := Lib.hid (HO5.out.later (bl_drew (Below.refl _ _)))
            have k2 : w4.drew.cell? ⟨wr.heap.size, 2, none⟩ = some (.int .i64 fN) := RM4.out.drawn.read rfl
            have HP3 := Lib.hid (arefput_at fN (pbN x) (nn + x + 2 + pbN x) (pbF x) (pbN_cast x) rfl HO5d.out HN5.out (by have := pbN_bd x; omega) HFN.out (by have := HLN.out; omega) (by omega))
            go_region_held3 (fun w' => w'.cell? ⟨wr.heap.size, 2, none⟩ = some (.int .i64 fN)) (first | assumption | exact k2 | exact k5 | go_keep) (first
              | (go_at_call 110; (with_reducible refine (HOF.out _).mono ?_); rintro e vx ⟨rfl, rfl⟩)
              | (go_at_call 108; (with_reducible refine HP3.out.mono ?_); rintro e w5 ⟨A6, c6, rfl, ho6, hn6, hb6⟩; (have HO6 := Lib.hid ho6; have HN6 := Lib.hid hn6; have HB6 := Lib.hid (bl_step HB4.out (bl_step (bl_drew (Below.refl _ _)) hb6)); have k5 : w5.cell? ⟨wr.heap.size, 2, none⟩ = some (.int .i64 fN) := (RM4.out.drawn.later hb6).read rfl; clear ho6 hn6 hb6)))
            have HP4 := Lib.hid (arefput_at lN (pbN x) (nn + x + 2 + pbN x + pbN x) (pbF x) (pbN_cast x) rfl HO6.out HN6.out (by have := pbN_bd x; omega) HLB.out (by have := HLN.out; have := pbN_bd x; omega) (by omega))
            go_wp2_with (first
              | (go_at_call 110; (with_reducible refine (HOF.out _).mono ?_); rintro e vx ⟨rfl, rfl⟩)
              | (go_at_call 108; (with_reducible refine HP4.out.mono ?_); rintro e w7 ⟨A7, c7, rfl, ho7, hn7, hb7⟩; (have HO7 := Lib.hid ho7; have HN7 := Lib.hid hn7; have HB7 := Lib.hid (bl_step HB6.out hb7); have HS7 := Lib.hid HB6.out.size; clear ho7 hn7 hb7)))
            go_roundw
            case rel => exact ⟨k + 1, _, _, _, _, by omega, rfl, by go_num, HN7, Lib.hid (by rw [HK.out, HD.out, missesP, bitsP_append, HMO.out, bits_part x sN fN lN _ _ HLF.out]; simp [List.append_assoc]), Lib.hid (HO7.out.dn (by have := HS7.out; have := HSZ0.out; omega)), HB7⟩
            case measure => simp [intOf]; omega
    · have hkn : k = n := by omega
      subst hkn
      have HE := Lib.hid (show full = bl by rw [HK.out, List.drop_of_length_le (by rw [HL.out]; exact Nat.le_refl _)]; simp [missesP, bitsP])
      have HBY := Lib.hid (arefbytes_at HO3.out HN3.out (by have := HLN.out; omega))
      go_wp2_with (go_at_call 111; (with_reducible refine HBY.out.mono ?_); rintro e w9 ⟨A9, c9, rfl, ho9, hb9⟩)
      go_ret
      refine ⟨_, rfl, ?_, bl_step HB0.out (bl_step HB3.out hb9)⟩
      have e1 : stBytes ack L x = pack bl := by unfold stBytes; rw [HST.out, HE.out]
      rw [e1]
      exact own_down ho9 (by have := HB3.out.size; have := HSZ0.out; omega)
end Go.Proofs.Ytbdjgdkafbkdbaa
namespace Go.Proofs.Ytbdjgdkafbkdbaa
open Go.RowKit

def KeepR (B : Nat) (w v : World) : Prop := Below B w v ∧ w.heap.size ≤ v.heap.size ∧ ∀ (g : Nat) (t : TypeId) (cs : Array Value), t ≠ 218 → Row w g t cs → Row v g t cs
section
variable {B : Nat} {w v u : World}
theorem KeepR.refl (B : Nat) (w : World) : KeepR B w w := ⟨Below.refl _ _, Nat.le_refl _, fun _ _ _ _ h => h⟩
theorem KeepR.trans (h : KeepR B w v) (k : KeepR B v u) : KeepR B w u := ⟨h.1.trans k.1, Nat.le_trans h.2.1 k.2.1, fun g t cs h1 hr => k.2.2 g t cs h1 (h.2.2 g t cs h1 hr)⟩
theorem KeepR.of_below (h : Below w.heap.size w v) (hB : B ≤ w.heap.size) : KeepR B w v := ⟨h.mono hB, h.size, fun _ _ _ _ hr => hr.later h⟩
theorem KeepR.then_below (h : KeepR B w v) (hB : B ≤ w.heap.size) (k : Below v.heap.size v u) : KeepR B w u := h.trans (.of_below k (Nat.le_trans hB h.2.1))
theorem KeepR.alloc (h : KeepR B w v) (hB : B ≤ w.heap.size) (o : Obj) : KeepR B w (v.alloc o) := h.then_below hB (bl_alloc (Below.refl _ _) o)
theorem KeepR.row (h : KeepR B w v) {g : Nat} {t : TypeId} {cs : Array Value} (hr : Row w g t cs) (h1 : t ≠ 218) : Row v g t cs := h.2.2 g t cs h1 hr
end
theorem got_keep {B : Nat} {w v : World} {p g i : Nat} {bs : List Nat} (hr : RRep w p g bs i) (hp : B ≤ p) (h : Only (fun k => k = p) w v) : KeepR B w v :=
  ⟨get_below h hp (by have := hr.1.inside; omega), h.size, fun g' t cs h1 hg => hg.only h fun hS => hg.apart hr.1 h1 hS⟩
theorem KeepR.set_new {B : Nat} {w v : World} (h : KeepR B w v) {p : Addr} (hB : B ≤ w.heap.size) (hp : w.heap.size ≤ p.block) (x : Value) : KeepR B w (v.setCell p x) :=
  ⟨h.1.setCell (Nat.le_trans hB hp) x, by rw [show (v.setCell p x).heap.size = v.heap.size by simp [World.setCell]]; exact h.2.1, fun g t cs h1 hg => (h.2.2 g t cs h1 hg).elsewhere (by have := hg.inside; omega) x⟩
def intsR (L : List Nat) : List Value := L.map fun v : Nat => .int .i64 v
/-- numbers of so many bits each, one behind the other, from a place on -/
def segs (bs : List Nat) : Nat → List Nat → List Nat
  | _, [] => []
  | i, n :: r => val (seg bs i n) :: segs bs (i + n) r
theorem len_segs (bs : List Nat) : ∀ (W : List Nat) (i : Nat), (segs bs i W).length = W.length := by
  intro W
  induction W with
  | nil => intro i; rfl
  | cons n r ih => intro i; simp [segs, ih]
theorem segs_append (bs : List Nat) : ∀ (W V : List Nat) (i : Nat), segs bs i (W ++ V) = segs bs i W ++ segs bs (i + W.sum) V := by
  intro W
  induction W with
  | nil => intro V i; simp [segs]
  | cons n r ih => intro V i; simp [segs, ih, Nat.add_assoc]
def gcells (bs : List Nat) (i : Nat) (W : List Nat) (k : Nat) : List Value := intsR (segs bs i (W.take k)) ++ List.replicate (W.length - k) (.int .i64 0)
theorem gcells_step {bs W : List Nat} {i k n : Nat} (h : W[k]? = some n) : (gcells bs i W k).set k (.int .i64 (val (seg bs (i + (W.take k).sum) n) : Nat)) = gcells bs i W (k + 1) := by
  obtain ⟨h1, h2⟩ := List.getElem?_eq_some_iff.1 h
  have hl : (intsR (segs bs i (W.take k))).length = k := by unfold intsR; rw [List.length_map, len_segs, List.length_take]; omega
  unfold gcells
  rw [List.set_append_right _ _ (by omega), hl, Nat.sub_self, show W.length - k = (W.length - (k + 1)) + 1 by omega, List.replicate_succ, List.set_cons_zero, List.take_succ_eq_append_getElem h1, segs_append, h2]
  simp [intsR, segs]
theorem gcells_at (bs : List Nat) (i : Nat) {W : List Nat} {k : Nat} (h : k < W.length) : (gcells bs i W k).toArray[k]? = some (.int .i64 0) := by
  have hl : (intsR (segs bs i (W.take k))).length = k := by unfold intsR; rw [List.length_map, len_segs, List.length_take]; omega
  unfold gcells
  rw [List.getElem?_toArray, List.getElem?_append_right (by omega), hl, Nat.sub_self, List.getElem?_replicate, if_pos (by omega)]
theorem take_sum {W : List Nat} {k n : Nat} (h : W[k]? = some n) : (W.take (k + 1)).sum = (W.take k).sum + n := by
  obtain ⟨h1, h2⟩ := List.getElem?_eq_some_iff.1 h
  rw [List.take_succ_eq_append_getElem h1, List.sum_append, h2]
  simp
theorem take_sum_le (W : List Nat) (k : Nat) : (W.take k).sum ≤ W.sum := by
  have h := congrArg List.sum (List.take_append_drop k W)
  rw [List.sum_append] at h
  omega
theorem make_ints3 (n : Nat) (h : n ≤ 8192) (w : World) :
    (Instr.makeSlice 58 (.int .i64 (n : Int)) (.int .i64 (n : Int))).run Try.prog w = .ok (.slice (some ⟨w.heap.size, 0, none⟩) n n) (w.alloc (.cells (List.replicate n (Value.int .i64 0)).toArray 3)) := by
  obtain ⟨i, hi, hz, hs, hb⟩ := (info_parts Try.info3)
  have h := run_make (P := Try.prog) w 58 3 i _ Try.underlying58 hi hz .i64 .i64 n n (by omega) (Int.le_refl _) (by rw [hb]; omega) (by omega)
  have e : madeCells #[.int .i64 0] n = (List.replicate n (Value.int .i64 0)).toArray := by
    apply Array.toList_inj.1
    rw [toList_madeCells_one]
  rw [h, hs, Nat.mul_one, Int.toNat_natCast, ← e]
  rfl
theorem set_arr (l : List Value) (k : Nat) (v : Value) : l.toArray.setIfInBounds k v = (l.set k v).toArray := by simp
/-- numbers got -/
def GetAns (B : Nat) (w : World) (p gb : Nat) (bs : List Nat) (i : Nat) (W : List Nat) (e : Ending) (w' : World) : Prop :=
  (i + W.sum ≤ 8 * bs.length → ∃ g, e = .returned (.tuple #[.slice (some ⟨g, 0, none⟩) W.length W.length, .int .i64 0]) ∧ Row w' g 3 (intsR (segs bs i W)).toArray ∧ w.heap.size ≤ g ∧ RRep w' p gb bs (i + W.sum)) ∧
  (8 * bs.length < i + W.sum → e = .returned (.tuple #[.slice none 0 0, .int .i64 8])) ∧ KeepR B w w'
set_option maxRecDepth 100000 in
set_option maxHeartbeats 3200000 in
theorem sget_any {B p gb g : Nat} {bs : List Nat} {i : Nat} {W : List Nat} (n cap : Nat) (w : World) (hr : RRep w p gb bs i) (hp : B ≤ p) (hg : Row w g 3 (intsR W).toArray) (hW : W.length = n) (hn : n ≤ 3) (hw : ∀ x ∈ W, x ≤ 16) :
    Calls Try.prog 114 #[.pointer (some ⟨p, 0, none⟩), .slice (some ⟨g, 0, none⟩) n cap] w (GetAns B w p gb bs i W) := by
  have hmk := make_ints3 n (by omega) w
  have HR := Lib.hid hr
  have HG := Lib.hid hg
  have HW := Lib.hid hW
  have HWW := Lib.hid hw
  have HB := Lib.hid (show B ≤ w.heap.size by have := hr.1.inside; omega)
  have ROWL := Lib.hid (Row.made w 3 (List.replicate n (Value.int .i64 0)).toArray)
  clear hr hg hW hw
  go_enter Try.func114, Try.ntmps114
  go_wp2
  clear hmk
  go_loopw [16] (fun it wr => ∃ k : Nat, k ≤ n ∧ it = .int .i64 k ∧ Hid (RRep wr p gb bs (i + (W.take k).sum)) ∧ Hid (Row wr w.heap.size 3 (gcells bs i W k).toArray) ∧ Hid (KeepR B w wr)) (fun it _ => n - (intOf it).toNat)
  case atStart => exact ⟨0, by omega, rfl, Lib.hid (by simpa using HR.out.later (bl_alloc (Below.refl _ _) _)), Lib.hid (by simpa [gcells, segs, intsR, HW.out] using ROWL.out), Lib.hid ((KeepR.refl _ _).alloc HB.out _)⟩
  case round =>
    obtain ⟨k, hk, rfl, HRK, HROW, HKP⟩ := hrel
    by_cases hlt : k < n
    · obtain ⟨m, hx⟩ : ∃ r, W[k]? = some r := ⟨_, List.getElem?_eq_getElem (by rw [HW.out]; exact hlt)⟩
      have RG := HKP.out.row HG.out (by decide)
      have c0 : wr.cell? ⟨g, k, none⟩ = some (.int .i64 m) := RG.read (by simp [intsR, hx])
      have hm16 : m ≤ 16 := HWW.out m (List.mem_of_getElem? hx)
      have hkI : (k : Int) < (n : Int) := by omega
      have HTS := Lib.hid (take_sum hx)
      have HLE := Lib.hid (take_sum_le W (k + 1))
      rcases Nat.lt_or_ge (8 * bs.length) (i + (W.take k).sum + m) with hsh | hsh
      · have HGT := Lib.hid (get_short m wr HRK.out (by omega) (by have := HRK.out.2.2.1; omega))
        have HBAD := Lib.hid (show 8 * bs.length < i + W.sum by have h1 := HTS.out; have h2 := HLE.out; omega)
        clear hx RG hsh
        go_wp2_with (go_at_call 151; (with_reducible refine HGT.out.mono ?_); rintro e w1 ⟨rfl, hb1⟩)
        go_ret2
        exact ⟨fun h => absurd HBAD.out (by omega), fun _ => rfl, HKP.out.then_below HB.out hb1⟩
      · have hv : val (seg bs (i + (W.take k).sum) m) < 65536 := Nat.lt_of_lt_of_le (seg_lt2 hsh) (Nat.pow_le_pow_right (by decide) hm16)
        have HGT := Lib.hid (get_any m wr HRK.out (by omega) hsh)
        have HCS := Lib.hid (gcells_step (bs := bs) (i := i) hx)
        generalize val (seg bs (i + (W.take k).sum) m) = v at *
        have hwr : IntKind.i64.wrap (v : Int) = (v : Int) := by rw [IntKind.wrap_i64]; omega
        clear hx RG hsh
        go_wp2_with (go_at_call 151; (with_reducible refine HGT.out.mono ?_); rintro e w1 ⟨rfl, hr1, ho1⟩; (have HR1 := Lib.hid hr1; have KP1 := Lib.hid (got_keep (B := B) HRK.out hp ho1); clear hr1 ho1; have ROW1 := Lib.hid (KP1.out.row HROW.out (by decide)); have fz := ROW1.out.free k; have cz := ROW1.out.read (gcells_at bs i (by rw [HW.out]; exact hlt))))
        go_roundw
        case rel =>
          refine ⟨k + 1, by omega, by go_num, Lib.hid ?_, Lib.hid ?_, Lib.hid ?_⟩
          · have h := HR1.out
            rw [HTS.out, ← Nat.add_assoc]
            exact ⟨h.1.elsewhere (fun e => ROW1.out.apart h.1 (by decide) e.symm) _, h.2.1.elsewhere (fun e => ROW1.out.apart h.2.1 (by decide) e.symm) _, h.2.2⟩
          · have h := ROW1.out.written k (.int .i64 v)
            rw [set_arr, HCS.out] at h
            exact h
          · exact (HKP.out.trans KP1.out).set_new HB.out (Nat.le_refl _) _
        case measure => simp [intOf]; omega
    · have hkn : k = n := by omega
      subst hkn
      have HTK := Lib.hid (show W.take k = W from List.take_of_length_le (by rw [HW.out]; exact Nat.le_refl _))
      go_wp2
      go_ret2
      have h1 := HRK.out
      have h2 := HROW.out
      unfold gcells at h2
      rw [HTK.out] at h1 h2
      rw [HW.out, Nat.sub_self] at h2
      simp only [List.replicate_zero, List.append_nil] at h2
      refine ⟨fun _ => ⟨_, ?_, h2, Nat.le_refl _, h1⟩, fun h => absurd h1.2.2.1 (by omega), HKP.out⟩
      rw [HW.out]
      rfl
end Go.Proofs.Ytbdjgdkafbkdbaa
namespace Go.Proofs.Ytbdjgdkafbkdbaa
open Go.RowKit

def faultS (bs : List Nat) (x : Int) : Int := if okS x = false then 9 else if bs.length = 0 then 8 else if 128 ≤ bs.getD 0 0 then 4 else if 16 ≤ bs.getD 0 0 then 3 else 0
set_option maxRecDepth 100000 in
set_option maxHeartbeats 1600000 in
theorem sfault_any {A : Option Addr} {bs : List Nat} (x : Int) (n cap : Nat) (w : World) (hn : bs.length = n) (hs : Src w A (bts bs)) (hb : ∀ b ∈ bs, b < 256) :
    Calls Try.prog 112 #[.slice A n cap, .int .i64 x] w fun e w' => e = .returned (.int .i64 (faultS bs x)) ∧ w = w' := by
  have HM := Lib.hid (fun W => smay_any x W)
  cases hx : okS x
  · have HF := Lib.hid (show faultS bs x = 9 by unfold faultS; rw [if_pos hx])
    rw [hx] at HM
    clear hx hs hb hn
    go_enter Try.func112, Try.ntmps112
    go_wp2_with (go_at_call 96; refine (HM.out _).mono ?_; rintro e w1 ⟨rfl, rfl⟩)
    go_ret
    exact ⟨by rw [HF.out]; rfl, rfl⟩
  · rw [hx] at HM
    cases bs with
    | nil =>
      have HF := Lib.hid (show faultS [] x = 8 by unfold faultS; rw [hx]; rfl)
      simp only [List.length_nil] at hn
      subst hn
      clear hx hs hb
      go_enter Try.func112, Try.ntmps112
      go_wp2_with (go_at_call 96; refine (HM.out _).mono ?_; rintro e w1 ⟨rfl, rfl⟩)
      go_ret
      exact ⟨by rw [HF.out]; rfl, rfl⟩
    | cons b r =>
      have hb0 : b < 256 := hb b (List.mem_cons_self ..)
      obtain ⟨ad, rfl, hc⟩ := hs (by simp [bts])
      have c0 : w.cell? (ad.add 0) = some (.int .u8 b) := hc 0 _ rfl
      have hn0 : 0 < n := by simp at hn; omega
      have hne : (n == 0) = false := by simp; omega
      have hneI : ((n : Int) == 0) = false := by simp; omega
      have HFF := Lib.hid (show faultS (b :: r) x = if 128 ≤ b then 4 else if 16 ≤ b then 3 else 0 by unfold faultS; rw [hx]; simp)
      have e0 : ad.add 0 = ad := by simp [Addr.add]
      rw [e0] at c0
      clear hx hc hb hn e0
      by_cases h1 : 128 ≤ b
      · have g1 : ((b : Int) / 2 ^ 7 == 1) = true := by simp; omega
        rw [if_pos h1] at HFF
        go_enter Try.func112, Try.ntmps112
        go_wp2_with (go_at_call 96; refine (HM.out _).mono ?_; rintro e w1 ⟨rfl, rfl⟩)
        go_ret
        exact ⟨by rw [HFF.out]; rfl, rfl⟩
      · have g1 : ((b : Int) / 2 ^ 7 == 1) = false := by simp; omega
        rw [if_neg h1] at HFF
        by_cases h2 : 16 ≤ b
        · have g2 : ((b : Int) / 2 ^ 4 != 0) = true := by simp; omega
          rw [if_pos h2] at HFF
          go_enter Try.func112, Try.ntmps112
          go_wp2_with (go_at_call 96; refine (HM.out _).mono ?_; rintro e w1 ⟨rfl, rfl⟩)
          go_ret
          exact ⟨by rw [HFF.out]; rfl, rfl⟩
        · have g2 : ((b : Int) / 2 ^ 4 != 0) = false := by simp; omega
          rw [if_neg h2] at HFF
          go_enter Try.func112, Try.ntmps112
          go_wp2_with (go_at_call 96; refine (HM.out _).mono ?_; rintro e w1 ⟨rfl, rfl⟩)
          go_ret
          exact ⟨by rw [HFF.out]; rfl, rfl⟩
end Go.Proofs.Ytbdjgdkafbkdbaa
