/-
  rxwin: what is missing; a window is made, and is as at first. Two arrays of three numbers are compared. rxwin: all as at first; what a window answers to fixed calls. Where the calls that the statements of rxwin take lie. rxwin: each call, whatever it is given: the window stays one. A region that draws its order, walked by hand.
-/
import Derived.Test.YtgdpjaojlhdhdaaJRxwinOnce03
import Derived.Test.YtgdpjaojlhdhdaaJRxwinOnce02
import Derived.ChangeKeysEq
import Derived.Test.YtgdpjaojlhdhdaaJRxwinOnce01
import Derived.Deep.RegionHeld3
namespace Go.Proofs.Ytgdpjaojlhdhdaa
open Go.RowKit Go.Maps Go.ChangeMaps Go.MapKept

section
variable {w v : World} {x m k c : Nat} {b size f st n : Int} {l r : List Bool} {p : Int → Bool}
theorem RX.at_stat (h : RX w x m b size f c l) (hk : k ≤ c) : ((f + (k : Int)) % sz b = (f + (c : Int)) % sz b) ↔ k = c := by
  have h1 := h.mem.hl
  have h4 := h.hc
  constructor
  · intro e
    have a := sz_ix h.mem (i := k) (by omega)
    have d := sz_ix h.mem (i := c) (by omega)
    rw [e, d] at a
    omega
  · rintro rfl; rfl
set_option maxRecDepth 100000 in
set_option maxHeartbeats 3200000 in
theorem xmissing_any (h : RX w x m b size f c l) : Calls Try.prog 57 #[.pointer (some ⟨x, 0, none⟩)] w fun e w' => ∃ A, e = .returned (.slice A (miss (sz b) f l c).length (miss (sz b) f l c).length) ∧ SlAt w.heap.size 3 w' A (ints (miss (sz b) f l c)) ∧ Below w.heap.size w w' := by
  have HMA := Lib.hid (xmade_any h.mem.row)
  have HR := Lib.hid h.mem.row
  have HH := Lib.hid (fun W k (hb : Below w.heap.size w W) (hk : k < c) => by
    have h1 := xhas_ok (n := (f + (k : Int)) % sz b) (h.mem.later hb) (okn_mod h.mem.rt _)
    rw [ak_at (h.mem.later hb) (by have := h.mem.hl; have := h.hc; omega)] at h1
    exact h1)
  have HB := Lib.hid (fun W n (hb : Below w.heap.size w W) (hn : okn b n = true) => xbehind_any (n := n) (h.mem.row.later hb) h.mem.rt hn)
  have HK := Lib.hid (fun k (hk : k ≤ c) => h.at_stat hk)
  have HM := Lib.hid (fun x => okn_mod h.mem.rt x)
  have HI := Lib.hid (fun (k : Nat) (hk : k ≤ c) => sz_ix h.mem (i := k) (by have := h.mem.hl; have := h.hc; omega))
  have hLb : c ≤ 40000 := by have h1 := h.mem.hs2; have h2 := h.mem.hl; have h3 := h.mem.pos; have := h.hc; omega
  have H0 := Lib.hid (show (f + ((0 : Nat) : Int)) % sz b = f by have := okn_true h.mem.hf; rw [Int.natCast_zero, Int.add_zero]; exact Int.emod_eq_of_lt this.1 this.2)
  have HOS := Lib.hid (fun k => miss_succ (N := sz b) (f := f) (l := l) (k := k))
  have HOL := Lib.hid (fun k => miss_le (N := sz b) (f := f) (l := l) (k := k))
  have HZ0 : ∀ wr : World, wr.ownsRow w.heap.size 3 1 (.slice none 0 0) (miss (sz b) f l 0).length (ints (miss (sz b) f l 0)) := fun wr => World.ownsRow_nil _ _ _ _
  have HZ0 := Lib.hid HZ0
  generalize miss (sz b) f l = op at *
  generalize hst : (f + (c : Int)) % sz b = st at *
  generalize (f + (l.length : Int)) % sz b = en at *
  have HST := Lib.hid hst
  clear h hst
  go_enter Try.func57, Try.ntmps57
  go_wp2_with (go_at_call 198; (with_reducible refine HMA.out.mono ?_); rintro e w1 ⟨rfl, hb1⟩; (have HB1 := Lib.hid hb1; obtain ⟨c0, c1, c2, c3, c4, c5⟩ := xcells (HR.out.later HB1.out); clear hb1))
  clear c0 c1 c2 c3 c4 c5
  go_loopw [3, 4] (fun s3 s4 wr => ∃ (k : Nat) (ty : Int), k ≤ c ∧ s4 = .int .i64 ty ∧ Hid (ty = (f + (k : Int)) % sz b) ∧ Hid (wr.ownsRow w.heap.size 3 1 s3 (op k).length (ints (op k))) ∧ Hid (Below w.heap.size w wr)) (fun _ s4 _ => c - ix (sz b) f (intOf s4))
  case atStart => exact ⟨0, f, by omega, rfl, Lib.hid H0.out.symm, Lib.hid (HZ0.out _), HB1⟩
  case round =>
    obtain ⟨k, ty, hk, rfl, HTY, HOW, HBr⟩ := hrel
    obtain ⟨c0, c1, c2, c3', c4, c5⟩ := xcells (HR.out.later HBr.out)
    have hkL := HI.out k hk
    rw [← HTY.out] at hkL
    have HIK := Lib.hid hkL
    obtain ⟨A3, c3, rfl, hc3, hc3m⟩ := own_shape HOW.out
    by_cases hlt : k < c
    · have hne : (ty != st) = true := by
        have := HK.out k hk
        rw [← HTY.out] at this
        simp
        omega
      have ho := HH.out wr k HBr.out hlt
      rw [← HTY.out] at ho
      have HO2 := Lib.hid ho
      have HB2 := Lib.hid (fun W (hb : Below w.heap.size w W) => by have h1 := HB.out W ty hb (by rw [HTY.out]; exact HM.out _); exact h1)
      have HTN := Lib.hid (show (ty + 1) % sz b = (f + ((k + 1 : Nat) : Int)) % sz b by rw [HTY.out, Int.emod_add_emod, show f + (k : Int) + 1 = f + ((k + 1 : Nat) : Int) by omega])
      have HIN := Lib.hid (show ix (sz b) f ((ty + 1) % sz b) = k + 1 by rw [HTN.out]; exact HI.out (k + 1) (by omega))
      have HS := Lib.hid (HOS.out k)
      rw [← HTY.out] at HS
      clear hkL ho
      cases hq : l.getD k false
      · rw [hq] at HO2 HS
        simp only [Bool.false_eq_true, if_false] at HO2 HS
        clear hq
        go_wp2_with (first
          | (go_at_call 195; (with_reducible refine HO2.out.mono ?_); rintro e w2 ⟨rfl, hb2⟩; (have HB3 := Lib.hid (bl_step HBr.out hb2); obtain ⟨A', c', w3, hrun, hown, hon⟩ := own_next (T := 85) (E := 3) (u := .int .i64 ty) (by kernel_rfl) (show (Try.prog.info? 3).map (fun i => (i.zero, i.size, i.bytes)) = some (some (.int .i64 0), 1, 8) by kernel_rfl) rfl (by omega) rfl (own_after HOW.out hb2) HB3.out.size (by have := HOL.out k; omega); have HRUN := Lib.hid hrun; have HOWN := Lib.hid hown; have HON := Lib.hid (hon.below HB3.out.size (fun j hj hk => by have := (own_block (own_after HOW.out hb2) j hk).1; omega)); clear hb2 hrun hown hon))
          | (at_builtin; refine wpList_is rfl (.tmp 25) (.tmp 27) 85 rfl _ _ (by rfl) (by rfl) HRUN.out ?_)
          | (go_at_call 200; (with_reducible refine (HB2.out _ (HB3.out.trans HON.out)).mono ?_); rintro e w4 ⟨rfl, hb4⟩; (have HB4 := Lib.hid hb4; clear hb4))
          | go_in)
        go_roundw
        case rel => exact ⟨k + 1, (ty + 1) % sz b, by omega, rfl, HTN, Lib.hid (by rw [HS.out, List.length_append, ints_app]; exact own_after HOWN.out HB4.out), Lib.hid ((HB3.out.trans HON.out).trans (HB4.out.mono (HB3.out.trans HON.out).size))⟩
        case measure => simp only [intOf]; rw [HIK.out, HIN.out]; omega
      · rw [hq] at HO2 HS
        simp only [if_true, List.append_nil] at HO2 HS
        clear hq
        go_wp2_with (first
          | (go_at_call 195; (with_reducible refine HO2.out.mono ?_); rintro e w2 ⟨rfl, hb2⟩; (have HB3 := Lib.hid hb2; clear hb2))
          | (go_at_call 200; (with_reducible refine (HB2.out _ (bl_step HBr.out HB3.out)).mono ?_); rintro e w4 ⟨rfl, hb4⟩; (have HB4 := Lib.hid hb4; clear hb4))
          | go_in)
        go_roundw
        case rel => exact ⟨k + 1, (ty + 1) % sz b, by omega, rfl, HTN, Lib.hid (by rw [HS.out]; exact own_after (own_after HOW.out HB3.out) HB4.out), Lib.hid (bl_step (bl_step HBr.out HB3.out) HB4.out)⟩
        case measure => simp only [intOf]; rw [HIK.out, HIN.out]; omega
    · obtain rfl : k = c := by omega
      have he : ty = st := by rw [HTY.out, HST.out]
      subst he
      have HC := Lib.hid (fun W => clipx_any (A := A3) (op k).length c3 W hc3)
      clear hkL hlt
      generalize hqq : (op k).length = q at *
      have HQQ := Lib.hid hqq
      clear hqq
      go_wp2_with (first | (go_at_call 201; (with_reducible refine (HC.out _).mono ?_); rintro e w2 ⟨rfl, rfl⟩) | go_in)
      go_ret
      have hqq := HQQ.out
      subst hqq
      exact ⟨A3, rfl, own_at HOW.out, HBr.out⟩
theorem setz_empty (hown : w.ownsMap Try.prog 3 unitElem m k (.map [] : DataW Unit)) : SetZ w m 0 b (ak (sz b) f []) :=
  ⟨_, own_monoZ hown, rfl, fun n => by rw [ak_nil, Bool.and_false]; rfl⟩
theorem zerox_okn (h : rt b = true) : okn b 0 = true := by
  have := rt_pos h
  exact decide_eq_true ⟨by omega, by omega⟩
theorem RX.first (hm : RxR w x m b size 0 0 []) : RX w x m b size 0 0 [] :=
  ⟨by rw [show ((0 : Int) + ((0 : Nat) : Int)) % sz b = 0 by simp]; exact hm, Nat.le_refl _, rfl, rfl⟩
set_option maxRecDepth 100000 in
set_option maxHeartbeats 800000 in
theorem xnew_ok (b size : Int) (w : World) (ht : rt b = true) (h1 : 1 ≤ size) (h2 : size ≤ sz b / 2) :
    Calls Try.prog 49 #[.int .i64 b, .int .i64 size] w fun e w' => ∃ x m : Nat, e = .returned (.tuple #[.pointer (some ⟨x, 0, none⟩), .int .i64 0]) ∧ RX w' x m b size 0 0 [] ∧ Below w.heap.size w w' ∧ w.heap.size ≤ x ∧ w.heap.size ≤ m := by
  have HS := Lib.hid (fun W => sqsize_any b W)
  have HT := Lib.hid ht
  have H2 := Lib.hid h2
  have hz := rt_pos ht
  have hmm := @run_makeMap Try.prog
  have h0 := zerox_okn ht
  have H0 := Lib.hid h0
  generalize hN0 : sz b = N at *
  have HNS := Lib.hid hN0
  clear hN0 h0
  have HA := Lib.hid (bl_alloc (Below.refl w.heap.size w) (.cells #[.int .i64 b] 100))
  have HROW := Lib.hid (Row.made w 100 #[.int .i64 b])
  clear ht
  go_enter Try.func49, Try.ntmps49
  go_wp2_with (first
    | (go_at_call 192; (with_reducible refine (HS.out _).mono ?_); rintro e w1 ⟨rfl, hb1⟩; (have HB1 := Lib.hid (bl_step HA.out hb1); have HR1 := Lib.hid (HROW.out.later hb1); have c0 := HR1.out.read (i := 0) (x := .int .i64 b) rfl; clear hb1))
    | go_in)
  go_ret2
  have hb := bl_alloc (bl_alloc HB1.out (.map #[] 0)) (.cells #[.int .i64 b, .int .i64 size, .int .i64 0, .int .i64 0, .int .i64 0, .map (some w1.heap.size)] 103)
  have hrow := Row.made (w1.alloc (.map #[] 0)) 103 #[.int .i64 b, .int .i64 size, .int .i64 0, .int .i64 0, .int .i64 0, .map (some w1.heap.size)]
  rw [show (w1.alloc (.map #[] 0)).heap.size = w1.heap.size + 1 by simp] at hrow
  refine ⟨_, w1.heap.size, rfl, RX.first ⟨?_, ?_, HT.out, H0.out, H0.out, h1, by rw [HNS.out]; exact H2.out, by simp; omega⟩, hb, by have := HB1.out.size; omega, HB1.out.size⟩
  · have e : ((0 : Int) + (([] : List Bool).length : Nat)) % sz b = 0 := by simp
    rw [e]
    exact hrow
  · exact setz_empty ((World.ownsMap_made w1 Try.prog 3 unitElem).alloc _)
set_option maxRecDepth 100000 in
set_option maxHeartbeats 800000 in
theorem xnew_bad (b size : Int) (w : World) (h : size < 1 ∨ sz b / 2 < size) :
    Calls Try.prog 49 #[.int .i64 b, .int .i64 size] w fun e w' => e = .returned (.tuple #[.pointer none, .int .i64 1]) ∧ Below w.heap.size w w' := by
  have HS := Lib.hid (fun W => sqsize_any b W)
  have hz := sz_bd b
  generalize sz b = N at *
  by_cases h1 : size < 1
  · clear h
    go_enter Try.func49, Try.ntmps49
    go_wp2_with (first
      | (go_at_call 192; (with_reducible refine (HS.out _).mono ?_); rintro e w1 ⟨rfl, hb1⟩)
      | go_in)
    go_ret2
    exact ⟨rfl, by repeat (first | exact Below.refl _ _ | refine bl_alloc ?_ _ | refine bl_drew ?_ | refine bl_step ?_ (by assumption))⟩
  · have h2 : N / 2 < size := by omega
    clear h
    go_enter Try.func49, Try.ntmps49
    go_wp2_with (first
      | (go_at_call 192; (with_reducible refine (HS.out _).mono ?_); rintro e w1 ⟨rfl, hb1⟩)
      | go_in)
    go_ret2
    exact ⟨rfl, by repeat (first | exact Below.refl _ _ | refine bl_alloc ?_ _ | refine bl_drew ?_ | refine bl_step ?_ (by assumption))⟩
/-- clear of a map -/
theorem runz_clear_map {D : DataW Unit} {t e ty : TypeId} (h : w.ownsMap Try.prog 3 unitElem m k D) (ht : Try.prog.underlying t = some (.map 3 e)) :
    ∃ w', (Builtin.clear_ #[t] ty #[.map (some m)]).run Try.prog w = .ok (.tuple #[]) w' ∧ w'.ownsMap Try.prog 3 unitElem m 0 (.map [] : DataW Unit) ∧ w.mapTurned w' m := by
  obtain ⟨es, clock, hb, F, hs, rfl⟩ := h
  refine ⟨setBlock w m (.map #[] clock), ?_, ⟨#[], clock, heap_setBlock_same hb _, ⟨by simp, MapKept.stamped_empty clock, by simp⟩, Nat.le_refl _, rfl⟩, ⟨es, clock, #[], clock, hb, rfl⟩⟩
  simp [Builtin.clear_, run_underlying ht, MapKept.run_getObj_map hb, MapKept.run_setObj_map _ hb, Result.andThen]
  rfl
end
end Go.Proofs.Ytgdpjaojlhdhdaa
namespace Go.Proofs.Ytgdpjaojlhdhdaa
open Go.RowKit Go.Maps Go.ChangeMaps

theorem eq_arr3 (a b c d e f : Int) (W : World) : (Op.equalIn 10000 88 (.agg #[.int .i64 a, .int .i64 b, .int .i64 c]) (.agg #[.int .i64 d, .int .i64 e, .int .i64 f])).run Try.prog W = .ok (a == d && (b == e && c == f)) W := by
  obtain ⟨i, hi⟩ : ∃ i, Try.prog.info? 3 = some i := Option.isSome_iff_exists.1 (by kernel_rfl)
  rw [run_equalIn_array (d := 9999) W #[.int .i64 a, .int .i64 b, .int .i64 c] #[.int .i64 d, .int .i64 e, .int .i64 f] Try.underlying88 hi]
  have h3 : Try.prog.cellsOf 3 = 1 := by kernel_rfl
  rw [h3, show List.range 3 = [0, 1, 2] from rfl]
  have hq : ∀ x y : Int, (Op.equalIn 9999 3 (.int .i64 x) (.int .i64 y)).run Try.prog W = .ok (x == y) W := fun x y => run_equalIn_int W 9998 3 .i64 .i64 x y Try.underlying3
  have hk : Try.prog.plainKey 3 = true := by kernel_rfl
  have p0 := fun (u v z : Value) => run_part_plain (P := Try.prog) W hk (xs := #[u, v, z]) (off := 0) rfl
  have p1 := fun (u v z : Value) => run_part_plain (P := Try.prog) W hk (xs := #[u, v, z]) (off := 1) rfl
  have p2 := fun (u v z : Value) => run_part_plain (P := Try.prog) W hk (xs := #[u, v, z]) (off := 2) rfl
  by_cases h0 : a = d <;> by_cases h1 : b = e <;> by_cases h2 : c = f <;> simp [Op.eqItems, p0, p1, p2, hq, h0, h1, h2]
end Go.Proofs.Ytgdpjaojlhdhdaa
namespace Go.Proofs.Ytgdpjaojlhdhdaa
open Go.RowKit Go.Maps Go.ChangeMaps Go.MapKept

section
variable {w v : World} {x m k c : Nat} {b size f st n : Int} {l r : List Bool} {p : Int → Bool}
theorem RX.inside (h : RX w x m b size f c l) : x < w.heap.size ∧ m < w.heap.size := ⟨h.mem.row.inside, h.mem.set.inside⟩
theorem XM_above {B : Nat} {g : Nat} (h : x < B ∧ m < B) (hg : B ≤ g) : ¬ XM x m g := by
  rintro (rfl | rfl) <;> omega
set_option maxRecDepth 100000 in
set_option maxHeartbeats 1600000 in
theorem xreset_any (h : RX w x m b size f c l) : Calls Try.prog 64 #[.pointer (some ⟨x, 0, none⟩)] w fun e w' => e = .returned (.tuple #[]) ∧ RX w' x m b size 0 0 [] ∧ Only (XM x m) w w' := by
  have HM := Lib.hid (xmade_any h.mem.row)
  have HR := Lib.hid h.mem.row
  obtain ⟨D, hown, _, _⟩ := h.mem.set
  have HNE := Lib.hid h.mem.ne
  have HW := Lib.hid h.mem
  go_enter Try.func64, Try.ntmps64
  go_wp2_with (first
    | (go_at_call 198; (with_reducible refine HM.out.mono ?_); rintro e w1 ⟨rfl, hb1⟩; (
        have HB1 := Lib.hid hb1
        have HR1 := Lib.hid (HR.out.later hb1)
        obtain ⟨c0, c1, c2, c3, c4, c5⟩ := xcells HR1.out
        have f2 := HR1.out.free 2
        have f3 := HR1.out.free 3
        have f4 := HR1.out.free 4
        have HR2 := Lib.hid (((HR1.out.written 2 (.int .i64 0)).written 3 (.int .i64 0)).written 4 (.int .i64 0))
        obtain ⟨d0, d1, d2, d3, d4, d5⟩ := xcells (m := m) (b := b) (size := size) (f := 0) (st := 0) (en := 0) HR2.out
        have hown1 := (((hown.kept (w' := w1) (row := none) ⟨hb1.os, hb1.tape, hb1.output, hb1.size, fun i hi _ => hb1.block i hi⟩ (by simp)).setCell (a := ⟨x, 2, none⟩) (Ne.symm HNE.out) (.int .i64 0)).setCell (a := ⟨x, 3, none⟩) (Ne.symm HNE.out) (.int .i64 0)).setCell (a := ⟨x, 4, none⟩) (Ne.symm HNE.out) (.int .i64 0)
        obtain ⟨w7, hrun7, hown7, hturn7⟩ := runz_clear_map (ty := 0) hown1 Try.underlying101
        clear hb1))
    | go_in)
  go_end0
  have h0 := zerox_okn HW.out.rt
  refine ⟨rfl, RX.first ⟨?_, setz_empty hown7, HW.out.rt, h0, h0, HW.out.hs, HW.out.hs2, by have := HW.out.hs; simp; omega⟩, ?_⟩
  · have e : ((0 : Int) + (([] : List Bool).length : Nat)) % sz b = 0 := by simp
    rw [e]
    exact HR2.out.turned hturn7 HNE.out
  · exact ((((Only.of_below HB1.out).set (S := XM x m) (p := ⟨x, 2, none⟩) (.inl (.inl rfl)) _).set (p := ⟨x, 3, none⟩) (.inl (.inl rfl)) _).set (p := ⟨x, 4, none⟩) (.inl (.inl rfl)) _).andThen (only_turned hturn7 (.inr rfl)) (fun _ _ hk => hk)
theorem xal_w1 (h : RX w x m 3 4 0 0 []) : Calls Try.prog 52 #[.pointer (some ⟨x, 0, none⟩), .int .i64 1] w fun e w' => ∃ A, e = .returned (.tuple #[.slice A 0 0, .int .i64 0]) ∧ RX w' x m 3 4 0 0 [false, true] ∧ Only (XM x m) w w' := by
  refine (xwhole_ok h (n := 1) (by decide +kernel) (by decide +kernel) (by decide +kernel)).mono ?_
  rintro e w' ⟨A, rfl, _, hw, ho⟩
  exact ⟨A, rfl, hw, ho⟩
theorem xal_late (h : RX w x m 3 4 0 0 [false, true]) : Calls Try.prog 53 #[.pointer (some ⟨x, 0, none⟩), .int .i64 2] w fun e w' => e = .returned (.int .i64 0) ∧ RX w' x m 3 4 0 2 [false, true] ∧ Only (XM x m) w w' :=
  xlate_ok h (n := 2) (by decide +kernel) (by decide +kernel)
theorem xal_miss (h : RX w x m 3 4 0 2 [false, true]) : Calls Try.prog 57 #[.pointer (some ⟨x, 0, none⟩)] w fun e w' => ∃ A, e = .returned (.slice A 1 1) ∧ SlAt w.heap.size 3 w' A (ints [0]) ∧ Below w.heap.size w w' := xmissing_any h
theorem xal_w0 (h : RX w x m 3 4 0 2 [false, true]) : Calls Try.prog 52 #[.pointer (some ⟨x, 0, none⟩), .int .i64 0] w fun e w' => ∃ A, e = .returned (.tuple #[.slice A 2 2, .int .i64 0]) ∧ SlAt w.heap.size 3 w' A (ints [0, 1]) ∧ RX w' x m 3 4 2 0 [] ∧ Only (XM x m) w w' :=
  xwhole_ok h (n := 0) (by decide +kernel) (by decide +kernel) (by decide +kernel)
theorem xal_w0b (h : RX w x m 3 4 2 0 []) : Calls Try.prog 52 #[.pointer (some ⟨x, 0, none⟩), .int .i64 0] w fun e w' => e = .returned (.tuple #[.slice none 0 0, .int .i64 11]) ∧ Below w.heap.size w w' := by
  have h1 := xwhole_bad h (n := 0) (by decide +kernel)
  rw [show fltx 3 4 2 0 = 11 by decide +kernel] at h1
  exact h1
theorem xal_state (h : RX w x m 3 4 2 0 []) : Calls Try.prog 54 #[.pointer (some ⟨x, 0, none⟩)] w fun e w' => e = .returned (.agg #[.int .i64 2, .int .i64 2, .int .i64 2]) ∧ Below w.heap.size w w' := xstate_any h.mem.row
theorem xal_c7 (h : RX w x m 3 4 2 0 []) : Calls Try.prog 51 #[.pointer (some ⟨x, 0, none⟩), .int .i64 7] w fun e w' => e = .returned (.int .i64 11) ∧ Below w.heap.size w w' := by
  have h1 := xcame_bad h (n := 7) (by decide +kernel)
  rw [show fltx 3 4 2 7 = 11 by decide +kernel] at h1
  exact h1
theorem xal_c8 (h : RX w x m 3 4 2 0 []) : Calls Try.prog 51 #[.pointer (some ⟨x, 0, none⟩), .int .i64 8] w fun e w' => e = .returned (.int .i64 1) ∧ Below w.heap.size w w' := by
  have h1 := xcame_bad h (n := 8) (by decide +kernel)
  rw [show fltx 3 4 2 8 = 1 by decide +kernel] at h1
  exact h1
theorem xal_new (w : World) : Calls Try.prog 49 #[.int .i64 3, .int .i64 4] w fun e w' => ∃ x m : Nat, e = .returned (.tuple #[.pointer (some ⟨x, 0, none⟩), .int .i64 0]) ∧ RX w' x m 3 4 0 0 [] ∧ Below w.heap.size w w' ∧ w.heap.size ≤ x ∧ w.heap.size ≤ m := xnew_ok 3 4 w (by decide) (by decide) (by decide +kernel)
set_option maxRecDepth 100000 in
set_option maxHeartbeats 3200000 in
theorem xalive_any (w : World) : Calls Try.prog 50 #[] w fun e w' => e = .returned (.bool true) ∧ Below w.heap.size w w' := by
  have HN := Lib.hid xal_new
  have heq := eq_arr3
  go_enter Try.func50, Try.ntmps50
  go_wp2_with (first
    | (go_at_call 49; (with_reducible refine (HN.out _).mono ?_); rintro e w1 ⟨x, m, rfl, hw1, hb1, hx1, hm1⟩; (have HW1 := Lib.hid hw1; have HB1 := Lib.hid hb1; have HX := Lib.hid (And.intro hx1 hm1); clear hw1 hb1 hx1 hm1))
    | (go_at_call 52; (with_reducible refine (xal_w1 HW1.out).mono ?_); rintro e w2 ⟨A2, rfl, hw, ho⟩; (have HW2 := Lib.hid hw; have HB2 := Lib.hid (HB1.out.trans (ho.below HB1.out.size (XM_new HX.out))); clear hw ho))
    | (go_at_call 53; (with_reducible refine (xal_late HW2.out).mono ?_); rintro e w3 ⟨rfl, hw, ho⟩; (have HW3 := Lib.hid hw; have HB3 := Lib.hid (HB2.out.trans (ho.below HB2.out.size (XM_new HX.out))); clear hw ho))
    | (go_at_call 57; (with_reducible refine (xal_miss HW3.out).mono ?_); rintro e w4 ⟨A4, rfl, ha, hb⟩; (have HI := Lib.hid HW3.out.inside; have HW4 := Lib.hid (HW3.out.later hb); have HB4 := Lib.hid (bl_step HB3.out hb); have HA4 := Lib.hid ha; clear hb ha))
    | (go_at_call 52; (with_reducible refine (xal_w0 HW4.out).mono ?_); rintro e w5 ⟨A5, rfl, ha, hw, ho⟩; (have HA4b := Lib.hid (HA4.out.only ho (fun g cs _ hg => XM_above HI.out hg)); have HW5 := Lib.hid hw; have HB5 := Lib.hid (HB4.out.trans (ho.below HB4.out.size (XM_new HX.out))); have HA5 := Lib.hid ha; clear hw ho ha))
    | (go_at_call 52; (with_reducible refine (xal_w0b HW5.out).mono ?_); rintro e w6 ⟨rfl, hb⟩; (have HW6 := Lib.hid (HW5.out.later hb); have HB6 := Lib.hid (bl_step HB5.out hb); obtain ⟨g4, rfl, hc4⟩ := (HA4b.out.later hb).cell (i := 0) (u := .int .i64 0) rfl; obtain ⟨g5, rfl, hc5⟩ := (HA5.out.later hb).cell (i := 1) (u := .int .i64 1) rfl; clear hb))
    | (go_at_call 54; (with_reducible refine (xal_state HW6.out).mono ?_); rintro e w7 ⟨rfl, hb⟩; (have HW7 := Lib.hid (HW6.out.later hb); have HB7 := Lib.hid (bl_step HB6.out hb); clear hb))
    | (go_at_call 51; (with_reducible refine (xal_c7 HW7.out).mono ?_); rintro e w8 ⟨rfl, hb⟩; (have HW8 := Lib.hid (HW7.out.later hb); have HB8 := Lib.hid (bl_step HB7.out hb); clear hb))
    | (go_at_call 51; (with_reducible refine (xal_c8 HW8.out).mono ?_); rintro e w9 ⟨rfl, hb⟩; (have HB9 := Lib.hid (bl_step HB8.out hb); clear hb)))
  go_ret
  exact ⟨rfl, HB9.out⟩
end
end Go.Proofs.Ytgdpjaojlhdhdaa
namespace Go.Proofs.Ytgdpjaojlhdhdaa
open Go.RowKit

def OpSrc (w : World) (A : Option Addr) (l : List (Int × Int)) : Prop :=
  0 < l.length → ∃ b off, A = some ⟨b, off, none⟩ ∧ ∀ k o, l[k]? = some o → w.cell? ⟨b, off + k * 2, none⟩ = some (.int .i64 o.1) ∧ w.cell? ⟨b, off + k * 2 + 1, none⟩ = some (.int .i64 o.2) ∧ (Lit.int .i64 o.2).wf = true
theorem sz_lt {b size : Int} : size < 1 ∨ sz b / 2 < size ∨ (rt b = true ∧ 1 ≤ size ∧ size ≤ sz b / 2) := by
  by_cases h1 : size < 1
  · exact .inl h1
  · by_cases h2 : sz b / 2 < size
    · exact .inr (.inl h2)
    · refine .inr (.inr ⟨?_, by omega, by omega⟩)
      cases ht : rt b
      · have := sz_zero ht
        omega
      · rfl
theorem arr_cells {w : World} {g : Nat} {u y z : Value} (h : Row w g 88 #[u, y, z]) : w.cell? ⟨g, 0, none⟩ = some u ∧ w.cell? ⟨g, 1, none⟩ = some y ∧ w.cell? ⟨g, 2, none⟩ = some z := ⟨h.read rfl, h.read rfl, h.read rfl⟩
end Go.Proofs.Ytgdpjaojlhdhdaa
namespace Go.Proofs.Ytgdpjaojlhdhdaa
open Go.RowKit Go.Maps

section
variable {w v : World} {x m k c : Nat} {b size f st n : Int} {l r : List Bool} {p : Int → Bool}
theorem f_zero (h : RX w x m b size f c l) : (f + ((0 : Nat) : Int)) % sz b = f := by
  have := okn_true h.mem.hf
  rw [Int.natCast_zero, Int.add_zero]
  exact Int.emod_eq_of_lt this.1 this.2
theorem xcame_both (h : RX w x m b size f c l) (n : Int) : Calls Try.prog 51 #[.pointer (some ⟨x, 0, none⟩), .int .i64 n] w fun e w' => ∃ (q : Int) (l' : List Bool), e = .returned (.int .i64 q) ∧ RX w' x m b size f c l' ∧ Only (XM x m) w w' := by
  by_cases hq : fltx b size f n = 0
  · obtain ⟨h1, h2⟩ := flt_zero hq
    refine (xcame_ok h h1 h2).mono ?_
    rintro e w' ⟨rfl, hw, ho⟩
    exact ⟨_, _, rfl, hw, ho⟩
  · refine (xcame_bad h hq).mono ?_
    rintro e w' ⟨rfl, hb⟩
    exact ⟨_, _, rfl, h.later hb, Only.of_below hb⟩
theorem xlate_both (h : RX w x m b size f c l) (n : Int) : Calls Try.prog 53 #[.pointer (some ⟨x, 0, none⟩), .int .i64 n] w fun e w' => ∃ (q : Int) (c' : Nat), e = .returned (.int .i64 q) ∧ RX w' x m b size f c' l ∧ Only (XM x m) w w' := by
  cases hn : okn b n
  · refine (xlate_no h hn).mono ?_
    rintro e w' ⟨rfl, hb⟩
    exact ⟨_, _, rfl, h.later hb, Only.of_below hb⟩
  · by_cases hf : l.length < ix (sz b) f n
    · refine (xlate_far h hn hf).mono ?_
      rintro e w' ⟨rfl, hb⟩
      exact ⟨_, _, rfl, h.later hb, Only.of_below hb⟩
    · refine (xlate_ok h hn (by omega)).mono ?_
      rintro e w' ⟨rfl, hw, ho⟩
      exact ⟨_, _, rfl, hw, ho⟩
theorem slat_nil {B : Nat} {A : Option Addr} (w : World) : SlAt B 3 w A (ints []) := fun hne => absurd rfl hne
theorem xwhole_both (h : RX w x m b size f c l) (n : Int) : Calls Try.prog 52 #[.pointer (some ⟨x, 0, none⟩), .int .i64 n] w fun e w' => ∃ (A : Option Addr) (j : Nat) (q : Int) (c' : Nat) (l' : List Bool), e = .returned (.tuple #[.slice A j j, .int .i64 q]) ∧ j ≤ 70000 ∧
    SlAt w.heap.size 3 w' A (ints (past (sz b) f j)) ∧ RX w' x m b size ((f + (j : Int)) % sz b) c' l' ∧ Only (XM x m) w w' := by
  have hno : ∀ (q : Int) (w' : World), Below w.heap.size w w' → ∃ (A : Option Addr) (j : Nat) (q' : Int) (c' : Nat) (l' : List Bool), (Ending.returned (.tuple #[.slice none 0 0, .int .i64 q]) : Ending) = .returned (.tuple #[.slice A j j, .int .i64 q']) ∧ j ≤ 70000 ∧
      SlAt w.heap.size 3 w' A (ints (past (sz b) f j)) ∧ RX w' x m b size ((f + (j : Int)) % sz b) c' l' ∧ Only (XM x m) w w' := fun q w' hb =>
    ⟨none, 0, q, c, l, rfl, by omega, slat_nil w', by rw [f_zero h]; exact h.later hb, Only.of_below hb⟩
  by_cases hq : fltx b size f n = 0
  · obtain ⟨h1, h2⟩ := flt_zero hq
    cases ha : ak (sz b) f l n
    · refine (xwhole_ok h h1 h2 ha).mono ?_
      rintro e w' ⟨A, rfl, hA, hw, ho⟩
      refine ⟨A, _, _, _, _, rfl, ?_, hA, hw, ho⟩
      have q1 := opn_le (l := mark l (ix (sz b) f n)) (c := 0) (by omega)
      rw [mark_length] at q1
      have q2 := h.mem.hl
      have q3 := h.mem.hs2
      have q4 := h.mem.pos
      omega
    · refine (xwhole_twice h h1 h2 ha).mono ?_
      rintro e w' ⟨rfl, hb⟩
      exact hno _ _ hb
  · refine (xwhole_bad h hq).mono ?_
    rintro e w' ⟨rfl, hb⟩
    exact hno _ _ hb
end
end Go.Proofs.Ytgdpjaojlhdhdaa
namespace Go.Proofs.Ytgdpjaojlhdhdaa
open Go.RowKit

/-- a stronger condition may be held from here on -/
theorem wpAnyH_more {P : Program} {md : Region.Mode} {ops : Array Oper} {Q : Exit → Act → World → Prop} {S S' : World → Prop} : ∀ {fuel : Nat} {listed : Array Bool} {a : Act} {w : World}, wpAnyH P md ops Q S' fuel listed a w → (∀ w, S' w → S w) → wpAnyH P md ops Q S fuel listed a w
  | 0, _, _, _, h, _ => h
  | _ + 1, _, _, _, h, hs => ⟨h.1, fun i hi => wpOp_mono (fun _ _ h' => ⟨hs _ h'.1, wpAnyH_more h'.2 hs⟩) (h.2 i hi)⟩

theorem take_at {P : Program} {md : Region.Mode} {ops : Array Oper} {Q : Exit → Act → World → Prop} {S : World → Prop} (i t : Nat) {oi : Oper} {v : Value} {fuel : Nat} {listed : Array Bool} {a : Act} {w : World} (hi : ops[i]? = some oi) (hd : oi.dst = some t)
    (hs : Region.noSelect ops = true) (hf : Region.free md ops listed i = true) (hr : (Region.ready md ops listed).contains i = true)
    (hQ : ∀ c a w, Q (.panic c) (a.put oi.dst v) w → Q (.panic c) a w) (hy : YieldsIf P ops S oi v a) (hS : S w)
    (h : wpAnyH P md ops Q S fuel (listed.setIfInBounds i true) (a.put (some t) v) w) : wpAnyH P md ops Q S (fuel + 1) listed a w :=
  wpAnyH_take hi hs hf hr hQ hy hS (by rw [hd]; exact h)

/-- what of a frame is forgotten -/
theorem wp_of_frame {P : Program} {c : Code} {Q : Exit → Act → World → Prop} {a : Act} {w : World} (xs : List (Option Value)) (h : Fr xs a) (k : ∀ a', Fr xs a' → c.wp P Q a' w) : c.wp P Q a w := k a h
end Go.Proofs.Ytgdpjaojlhdhdaa
