/-
  umtx: a packet is built: the walk up to the cutter's piece. umtx: a sender's life: what each call makes of it. A region that draws its order, walked by hand. A region that draws its order: what holds of the world may hang on which operations have come up.
-/
import Derived.Test.YtjonkpdjhjobfaaJUmtxLives15
import Derived.Test.YtjonkpdjhjobfaaJUmtxLives01
import Derived.Deep.RegionHeld3
import Derived.OrdersHeld
namespace Go.Proofs.Ytjonkpdjhjobfaa
open Go.RowKit

section
variable {B x q last : Nat} {c : Cf} {room : Int} {ts : List Txt} {w : World}
theorem row_ne {W : World} {g g' : Nat} {t t' : TypeId} {cs cs' : Array Value} (h : Row W g t cs) (h' : Row W g' t' cs') (hne : t ≠ t') : g ≠ g' := by
  rintro rfl
  exact hne (row_type h h')
/-- what Build that builds does -/
def BuiltU (B x q last : Nat) (c : Cf) (room g : Int) (sn wd : Nat) (ts : List Txt) (w : World) (e : Ending) (w' : World) : Prop :=
  ∃ (k f : Nat) (n : Int) (ts' : List Txt) (D : Option Addr) (L : List RowB) (v : Value), e = .returned (.tuple #[v, .slice D k k, .int .i64 0]) ∧ fiT ts n = (f : Int) ∧ OwnY w.heap.size w' v (umdBytes f sn L wd) ∧ umdF f sn (lens L) wd ≠ 0 ∧ umdF f sn (lens L) wd ≤ g ∧ texts L = fieldsT (ts.map Txt.bs) k n ∧ Bld (min g 4000 - c.bits / 5) 11 (lenT ts) k n ∧ RestT ts k n ts' ∧ (0 < k ∨ 0 < n) ∧
    QS B q room w' last ts' ∧ Row w' x 34 (SCells c (.pointer (some ⟨q, 0, none⟩)) (((sn : Int) + 1) % sz c.bits)) ∧ (∃ cc, NewIds w.heap.size w' (.slice D k cc) ((ts.take k).map Txt.id)) ∧ UOnly B x w w'
theorem fiT_nat (ts : List Txt) (n : Int) : ∃ f : Nat, fiT ts n = f ∧ f ≤ 3 := by
  unfold fiT
  refine ⟨((if headBg ts then (2 : Int) else 0) + (if n ≤ 0 then 0 else 1)).toNat, ?_, ?_⟩
  all_goals (split <;> split <;> omega)
theorem ubuild_end {sn rm n : Int} {sb pb k : Nat} {ts' : List Txt} {A D : Option Addr} {L : List RowB} {w7 : World} {v : Value} {l : List Nat} {m : Int} (h : UBd B x q last c room sn ts rm w sb pb k n ts' A D L w7) (ho : OwnY w.heap.size w7 v l) (hx : x < w.heap.size) :
    OwnY w.heap.size (w7.setCell ⟨x, 11, none⟩ (.int .i64 m)) v l ∧ QS B q room (w7.setCell ⟨x, 11, none⟩ (.int .i64 m)) last ts' ∧ Row (w7.setCell ⟨x, 11, none⟩ (.int .i64 m)) x 34 (SCells c (.pointer (some ⟨q, 0, none⟩)) m) ∧ (∃ cc, NewIds w.heap.size (w7.setCell ⟨x, 11, none⟩ (.int .i64 m)) (.slice D k cc) ((ts.take k).map Txt.id)) ∧ UOnly B x w (w7.setCell ⟨x, 11, none⟩ (.int .i64 m)) ∧ Row (w7.setCell ⟨x, 11, none⟩ (.int .i64 m)) pb 141 #[.int .i64 (fiT ts n), .slice A L.length L.length, .slice D k k] := by
  have hon : Only (fun k => k = x) w7 (w7.setCell ⟨x, 11, none⟩ (.int .i64 m)) := (Only.refl (fun k => k = x) w7).set (p := ⟨x, 11, none⟩) (.inl rfl) _
  refine ⟨ho.only hon (fun k hk e => by subst e; exact own_apart ho h.snd (by decide) hk), h.qs.with (h.qs.q.other h.snd (by decide) hon), h.snd.written 11 _, ?_, (UOnly.of_q h.only : UOnly B x w w7).andThen hon (fun k _ hk => .inr hk), h.pc.only hon (fun e => h.pc.apart h.snd (by decide) e)⟩
  obtain ⟨cc, h1⟩ := h.ids
  exact ⟨cc, h1.only hon (fun g cs' hr _ e => by subst e; exact absurd (row_type hr h.snd) (by decide))⟩
theorem ubc_of {sn rm n : Int} {sb k : Nat} {ts' : List Txt} {A D : Option Addr} {L : List RowB} {wc w4 : World} (hb : Below w.heap.size w wc) (hsrc : Row wc sb 32 (MCells c (.pointer (some ⟨q, 0, none⟩)))) (hsnd : Row w x 34 (SCells c (.pointer (some ⟨q, 0, none⟩)) sn)) (hB : Bld rm 11 (lenT ts) k n) (hT : RestT ts k n ts') (hq4 : QS B q room w4 last ts') (ho4 : QOnly B wc w4) (hkn : 0 < k ∨ 0 < n) (hL : texts L = fieldsT (ts.map Txt.bs) k n)
    (hr : ∃ cc, NewRows wc.heap.size w4 (.slice A L.length cc) L) (hi : ∃ cc, NewIds wc.heap.size w4 (.slice D k cc) ((ts.take k).map Txt.id)) : UBc B x q last c room sn ts rm w sb k n ts' A D L w4 :=
  ⟨ho4.row hsrc (by decide) (by decide), ho4.row (hsnd.later hb) (by decide) (by decide), hB, hT, hq4, hL, (by obtain ⟨cc, h⟩ := hr; exact ⟨cc, h.down hb.size⟩), (by obtain ⟨cc, h⟩ := hi; exact ⟨cc, h.down hb.size⟩), (QOnly.of_below hb).trans ho4, hkn⟩
end
section
variable {B x q last : Nat} {c : Cf} {room : Int} {ts : List Txt} {w : World}
set_option maxRecDepth 100000 in
set_option maxHeartbeats 6400000 in
theorem ubuild_ok (g : Int) (sn wd : Nat) (hwd : wd = 5 ∨ wd = 10) (hcb : c.bits = wd) (hsn : okn c.bits sn = true) (hx : B ≤ x) (hE : Row w x 34 (SCells c (.pointer (some ⟨q, 0, none⟩)) sn)) (h : QS B q room w last ts) (hr : 0 < room) (hbb : bytesF ts ≤ 1000000000) (hf : faultU g (bytesF ts : Nat) c.bits = 0) :
    Calls Try.prog 13 #[.pointer (some ⟨x, 0, none⟩), .int .i64 g] w (BuiltU B x q last c room g sn wd ts w) := by
  have hb : c.bits = 5 ∨ c.bits = 10 := by omega
  have h00 := faultU_zero hf
  have hfc : faultC (min g 4000 - c.bits / 5) 11 = 0 := by
    unfold faultC
    rw [if_pos (by decide +kernel), if_neg (by omega)]
  have hlp := lenT_pos (fun t ht => (h.bytes t ht).1)
  have hlm : ∀ l ∈ lenT ts, l ≤ 1000 := by
    intro l hl
    unfold lenT at hl
    obtain ⟨t, ht, rfl⟩ := List.mem_map.1 hl
    exact (h.bytes t ht).2.1
  have hl0 : 0 < (lenT ts).length := by
    rcases Nat.eq_zero_or_pos (lenT ts).length with h9 | h9
    · rw [length_lenT] at h9
      have := List.eq_nil_of_length_eq_zero h9
      subst this
      exact absurd rfl h00.2.2.1
    · exact h9
  have HG := Lib.hid (show (1 : Int) ≤ min g 4000 - c.bits / 5 ∧ min g 4000 ≤ 4000 ∧ min g 4000 ≤ g ∧ c.bits / 5 = (wd : Int) / 5 from by rw [← hcb]; omega)
  have HLP := Lib.hid hlp
  have HLM := Lib.hid hlm
  have HSN := Lib.hid hsn
  have HWD := Lib.hid (show (wd : Int) = 5 ∨ (wd : Int) = 10 by omega)
  have HXB := Lib.hid hx
  have HXW := Lib.hid hE.inside
  have HRT := Lib.hid (show rt c.bits = true by rcases hb with e | e <;> rw [e] <;> rfl)
  have hN : ∀ k n, Bld (min g 4000 - c.bits / 5) 11 (lenT ts) k n → 0 < k ∨ 0 < n := fun k n hB => built_some (by omega) hB hl0 hlp
  have HQ := Lib.hid (usource_any hE)
  have HP := Lib.hid (fun W (hW : Below w.heap.size w W) => ufault_any g hb (h.q.later hW) hr hbb)
  rw [hf] at HP
  have HH := Lib.hid (fun W => uhead_any (c := c) (w := W) (some ⟨q, 0, none⟩) hb)
  have HC := Lib.hid (fun W (hW : Below w.heap.size w W) => (h.later hW).build (min g 4000 - c.bits / 5) 11 hr hfc)
  have HW : IntKind.i64.wrap (min g 4000 - c.bits / 5) = min g 4000 - c.bits / 5 := by
    have h0 := faultU_zero hf
    have h9 : -9223372036854775808 ≤ min g 4000 - c.bits / 5 ∧ min g 4000 - c.bits / 5 ≤ 9223372036854775807 := by
      rcases hb with hb | hb <;> rw [hb] <;> omega
    exact IntWalk.i64_in _ h9
  obtain ⟨mode, bits, win, reo, prx, pro, ppd, pby, mrx, qb⟩ := c
  have HBW := Lib.hid (show bits = (wd : Int) from hcb)
  have HE := Lib.hid hE
  have HSC := Lib.hid (fun W (h : Row W 0 32 #[.int .i64 mode, .int .i64 bits, .int .i64 win, .int .i64 reo, .int .i64 prx, .int .i64 pro, .int .i64 ppd, .int .i64 pby, .int .i64 mrx, .int .i64 qb, .pointer (some ⟨q, 0, none⟩)]) => (h : Row W 0 32 (MCells ⟨mode, bits, win, reo, prx, pro, ppd, pby, mrx, qb⟩ (.pointer (some ⟨q, 0, none⟩)))))
  unfold MCells at HQ HP HH
  simp only at HQ HP HH HC HW hN
  have HDV := Lib.hid (show bits / 5 = bits / 5 from rfl)
  generalize hhd : bits / 5 = hd at *
  have HHD := Lib.hid hhd
  clear hhd
  clear hE h hf hb hlp hlm hl0 hsn h00 hfc hcb hx
  go_enter Try.func13, Try.ntmps13
  go_wp2_with (first
    | (go_at_call 81; (with_reducible refine HQ.out.mono ?_); rintro e w1 ⟨rfl, hb1⟩; (have HB1 := Lib.hid hb1; have HROW := Lib.hid (Row.made w1 32 #[.int .i64 mode, .int .i64 bits, .int .i64 win, .int .i64 reo, .int .i64 prx, .int .i64 pro, .int .i64 ppd, .int .i64 pby, .int .i64 mrx, .int .i64 qb, .pointer (some ⟨q, 0, none⟩)]); obtain ⟨c0, c1, c2, c3, c4, c5, c6, c7, c8, c9, c10⟩ := mcell_reads HROW.out; clear hb1))
    | (go_at_call 83; (with_reducible refine (HP.out _ (bl_alloc HB1.out _)).mono ?_); rintro e w2 ⟨rfl, hb2⟩; (have HB2 := Lib.hid (bl_step (bl_alloc HB1.out _) hb2); have ROW2 := Lib.hid (HROW.out.later hb2); clear hb2 c0 c1 c2 c3 c4 c5 c6 c7 c8 c9 c10; obtain ⟨c0, c1, c2, c3, c4, c5, c6, c7, c8, c9, c10⟩ := mcell_reads ROW2.out)))
  go_upto_region 5 with fail
  go_cut [9, 10] (fun s9 s10 wx => ∃ (wy : World) (pb k : Nat) (n : Int) (ts' : List Txt) (A D : Option Addr) (L : List RowB), wy = wx ∧ s9 = .pointer (some ⟨pb, 0, none⟩) ∧ s10 = .int .i64 0 ∧ Hid (UBd B x q last ⟨mode, bits, win, reo, prx, pro, ppd, pby, mrx, qb⟩ room sn ts (min g 4000 - hd) w w1.heap.size pb k n ts' A D L wy))
  case first =>
    go_region_held3 (fun w' => w'.cell? ⟨w1.heap.size, 0, none⟩ = some (.int .i64 mode) ∧ w'.cell? ⟨w1.heap.size, 1, none⟩ = some (.int .i64 bits) ∧ w'.cell? ⟨w1.heap.size, 2, none⟩ = some (.int .i64 win) ∧ w'.cell? ⟨w1.heap.size, 3, none⟩ = some (.int .i64 reo) ∧ w'.cell? ⟨w1.heap.size, 4, none⟩ = some (.int .i64 prx) ∧ w'.cell? ⟨w1.heap.size, 5, none⟩ = some (.int .i64 pro) ∧ w'.cell? ⟨w1.heap.size, 6, none⟩ = some (.int .i64 ppd) ∧ w'.cell? ⟨w1.heap.size, 7, none⟩ = some (.int .i64 pby) ∧ w'.cell? ⟨w1.heap.size, 8, none⟩ = some (.int .i64 mrx) ∧ w'.cell? ⟨w1.heap.size, 9, none⟩ = some (.int .i64 qb) ∧ w'.cell? ⟨w1.heap.size, 10, none⟩ = some (.pointer (some ⟨q, 0, none⟩))) (first | with_reducible assumption | go_keep | with_reducible exact mcell_reads ROW4.out | with_reducible exact mcell_reads (((ROW4.out.elsewhere NE4.out _).elsewhere NE4.out _).elsewhere NE4.out _) | with_reducible exact mcell_reads (ROW4.out.later (bl_alloc (Below.refl _ _) _)) | with_reducible exact mcell_reads ROW3.out) (first
      | (go_at_call 85; (with_reducible refine (HH.out _).mono ?_); rintro e w3 ⟨rfl, hb3⟩; (first
          | (have PB : Hid (Row w3 w2.heap.size 141 #[.int .i64 0, .slice none 0 0, .slice none 0 0]) := Lib.hid ((Row.made w2.drew 141 #[.int .i64 0, .slice none 0 0, .slice none 0 0]).later hb3); have HB3 := Lib.hid (bl_step (bl_alloc (bl_drew HB2.out) _) hb3); have ROW3 := Lib.hid (((ROW2.out.later (bl_drew (Below.refl _ _))).later (bl_alloc (Below.refl _ _) _)).later hb3); have PBS := Lib.hid HB2.out.size; clear hb3)
          | (have HB3 := Lib.hid (bl_step (bl_drew HB2.out) hb3); have ROW3 := Lib.hid ((ROW2.out.later (bl_drew (Below.refl _ _))).later hb3); clear hb3)))
      | (go_at_call 84; (first | (with_reducible refine (HC.out _ HB3.out).mono ?_) | (with_reducible refine (HC.out _ (bl_alloc HB3.out _)).mono ?_)); rintro e w4 ⟨k, n, ts', hB, hT, hq4, ho4, hz⟩; (obtain ⟨hkn, A, D, L, rfl, hL, hrows, hids⟩ := built_of (hN k n hB) hz); (first
          | (have H4 := Lib.hid (ubc_of (c := ⟨mode, bits, win, reo, prx, pro, ppd, pby, mrx, qb⟩) (x := x) (sn := sn) HB3.out ROW3.out HE.out hB hT hq4 ho4 hkn hL hrows hids))
          | (have H4 := Lib.hid (ubc_of (c := ⟨mode, bits, win, reo, prx, pro, ppd, pby, mrx, qb⟩) (x := x) (sn := sn) (bl_alloc HB3.out _) (ROW3.out.later (bl_alloc (Below.refl _ _) _)) HE.out hB hT hq4 ho4 hkn hL hrows hids))); (have ROW4 : Hid (Row w4 w1.heap.size 32 #[.int .i64 mode, .int .i64 bits, .int .i64 win, .int .i64 reo, .int .i64 prx, .int .i64 pro, .int .i64 ppd, .int .i64 pby, .int .i64 mrx, .int .i64 qb, .pointer (some ⟨q, 0, none⟩)]) := Lib.hid H4.out.src); (first
          | (have PB4 := Lib.hid (ho4.row (PB.out) (by decide) (by decide)); have NE4 := Lib.hid (row_ne H4.out.src PB4.out (by decide)); have PBL := Lib.hid (show w.heap.size ≤ _ from PBS.out); have ff0 := PB4.out.free 0; have ff1 := PB4.out.free 1; have ff2 := PB4.out.free 2; have gg0 := PB4.out.read (i := 0) (x := .int .i64 0) rfl; have gg1 := PB4.out.read (i := 1) (x := .slice none 0 0) rfl; have gg2 := PB4.out.read (i := 2) (x := .slice none 0 0) rfl)
          | (have PB4 := Lib.hid (ho4.row (Row.made w3 141 #[.int .i64 0, .slice none 0 0, .slice none 0 0]) (by decide) (by decide)); have NE4 := Lib.hid (row_ne H4.out.src PB4.out (by decide)); have PBL := Lib.hid (show w.heap.size ≤ _ from HB3.out.size); have ff0 := PB4.out.free 0; have ff1 := PB4.out.free 1; have ff2 := PB4.out.free 2; have gg0 := PB4.out.read (i := 0) (x := .int .i64 0) rfl; have gg1 := PB4.out.read (i := 1) (x := .slice none 0 0) rfl; have gg2 := PB4.out.read (i := 2) (x := .slice none 0 0) rfl)
          | skip); (clear hB hT hq4 ho4 hkn hL hrows hids)))
    all_goals
      go_wp2_with fail
      go_meet
      first
        | with_reducible exact ⟨_, _, k, n, ts', A, D, L, rfl, rfl, rfl, Lib.hid H4.out.made⟩
        | with_reducible exact ⟨_, _, k, n, ts', A, D, L, rfl, rfl, rfl, Lib.hid (H4.out.stored PB4.out PBL.out)⟩
  case rest =>
    obtain ⟨wy, pb, k, n, ts', A, D, L, hwy, rfl, rfl, HU⟩ := hcut
    subst hwy
    obtain ⟨f, hf, hf3⟩ := fiT_nat ts n
    have HFI := Lib.hid hf
    have HLL := Lib.hid (lens_fieldsT HU.out.tx (by
      rcases HU.out.bld.less with h9 | ⟨_, _, h9⟩
      · exact .inl h9
      · exact .inr (by omega)))
    have HUF := Lib.hid (by
      have h9 := umd_built (fi := (f : Int)) (sn := (sn : Int)) (bits := (wd : Int)) HWD.out (by have := HG.out; omega) (by have := HG.out; omega) HU.out.bld HLP.out HLM.out HU.out.kn (by omega) (by omega) (by have h8 := HSN.out; rw [HBW.out] at h8; exact h8)
      rw [← HLL.out] at h9
      exact h9 : umdF f sn (lens L) wd ≠ 0 ∧ umdF f sn (lens L) wd ≤ min g 4000 - hd + (wd : Int) / 5)
    have HUD := Lib.hid (HU.out.later (bl_drew (Below.refl _ _)))
    have HWR := Lib.hid (by
      obtain ⟨cc, hr⟩ := HUD.out.rows
      rw [HBW.out]
      have h9 := uwrite_ok (A := A) (L := L) f sn wd L.length L.length wy.drew rfl (Nat.le_refl _) (by have := HUF.out.1; have h8 := (umdF_pos this).2.2.2.2.2.1; rw [length_lens] at h8; omega) hr.src (fun m hm => by have h7 := (mem_fieldsL HU.out.bld HLP.out HLM.out m (by rw [← HLL.out]; exact hm)).2; omega) HUF.out.1
      exact h9 : Calls Try.prog 86 #[.agg #[.int .i64 f, .int .i64 sn, .slice A L.length L.length], .int .i64 bits] wy.drew fun e w' => ∃ v', e = .returned (.tuple #[v', .int .i64 0]) ∧ OwnY wy.drew.heap.size w' v' (umdBytes f sn L wd) ∧ Below wy.drew.heap.size wy.drew w')
    have HPC := Lib.hid HUD.out.pc
    rw [hf] at HPC
    have k0 : wy.drew.cell? ⟨pb, 0, none⟩ = some (.int .i64 f) ∧ wy.drew.cell? ⟨pb, 1, none⟩ = some (.slice A L.length L.length) ∧ wy.drew.cell? ⟨x, 11, none⟩ = some (.int .i64 sn) ∧ wy.drew.cell? ⟨w1.heap.size, 1, none⟩ = some (.int .i64 bits) := ⟨HPC.out.read rfl, HPC.out.read rfl, HUD.out.snd.read rfl, HUD.out.src.read rfl⟩
    have hxi := HUD.out.snd.inside
    have HWY := Lib.hid (show w.heap.size ≤ wy.drew.heap.size from HU.out.only.size)
    clear hf
    go_wp2_with fail
    go_region_held3 (fun w' => w'.cell? ⟨pb, 0, none⟩ = some (.int .i64 f) ∧ w'.cell? ⟨pb, 1, none⟩ = some (.slice A L.length L.length) ∧ w'.cell? ⟨x, 11, none⟩ = some (.int .i64 sn) ∧ w'.cell? ⟨w1.heap.size, 1, none⟩ = some (.int .i64 bits)) (first | with_reducible exact k0 | with_reducible exact k6 | go_keep)
      (first
      | (go_at_call 86; (with_reducible refine HWR.out.mono ?_); rintro e w6 ⟨v, rfl, ho, hb6⟩; (have HO6 := Lib.hid ho; have HU6 := Lib.hid (HUD.out.later hb6); have HP6 := Lib.hid (HPC.out.later hb6); have HB6 := Lib.hid hb6; have k6 : w6.cell? ⟨pb, 0, none⟩ = some (.int .i64 f) ∧ w6.cell? ⟨pb, 1, none⟩ = some (.slice A L.length L.length) ∧ w6.cell? ⟨x, 11, none⟩ = some (.int .i64 sn) ∧ w6.cell? ⟨w1.heap.size, 1, none⟩ = some (.int .i64 bits) := ⟨(HPC.out.later hb6).read rfl, (HPC.out.later hb6).read rfl, (HUD.out.later hb6).snd.read rfl, (HUD.out.later hb6).src.read rfl⟩; clear ho hb6)))
    obtain ⟨A6, c6, rfl, _⟩ := HO6.out.form
    go_wp2_with fail
    obtain ⟨y0, y1, y2, y3⟩ := k6
    have fx := HU6.out.snd.free 11
    clear k0 hxi
    have hxi := HU6.out.snd.inside
    go_region_law (first
      | (go_simp; go_at_call 87; refine (Go_any bits sn 1 _).mono ?_; rintro e w7 ⟨rfl, hb7⟩; (have HB7 := Lib.hid hb7; have HU7 := Lib.hid (HU6.out.later (bl_step (by repeat (first | with_reducible exact Below.refl _ _ | with_reducible refine bl_drew ?_)) hb7)); have HEN := Lib.hid (ubuild_end (m := GoV bits sn 1) HU7.out ((HO6.out.later (bl_step (by repeat (first | with_reducible exact Below.refl _ _ | with_reducible refine bl_drew ?_)) hb7)).down HWY.out) HXW.out); have p2 := HEN.out.2.2.2.2.2.read (i := 2) (x := .slice D k k) rfl; have fx7 := HU7.out.snd.free 11; have yx7 := HU7.out.snd.read (i := 11) (x := .int .i64 sn) rfl; clear hb7); go_simp))
    all_goals
      go_wp2_with fail
      go_quiet (fail)
      go_wp2_with fail
      go_ret3
      have hgo := (go_val (b := bits) (n := (sn : Int)) (c := 1) HRT.out HSN.out (by omega) (by omega)).2
      have HEN2 := HEN.out
      rw [hgo] at HEN2 ⊢
      obtain ⟨z1, z2, z3, z4, z5, _⟩ := HEN2
      refine ⟨k, f, n, ts', D, L, _, rfl, HFI.out, z1.later (below_drewN (Below.refl _ _) _), HUF.out.1, ?_, HU.out.tx, (by show Bld (min g 4000 - bits / 5) 11 (lenT ts) k n; rw [HHD.out]; exact HU.out.bld), HU.out.rest, HU.out.kn, z2.later (below_drewN (Below.refl _ _) _), z3.later (below_drewN (Below.refl _ _) _), ?_, z5.andThen (T := fun _ => False) (.of_below (below_drewN (Below.refl _ _) _)) (fun _ _ hk => hk.elim)⟩
      · have h1 := HUF.out.2; have h2 := HG.out; omega
      · obtain ⟨cc, h1⟩ := z4
        exact ⟨cc, h1.later (below_drewN (Below.refl _ _) _)⟩
end
end Go.Proofs.Ytjonkpdjhjobfaa
namespace Go.Proofs.Ytjonkpdjhjobfaa
open Go.RowKit

structure US (W w : World) (x q : Nat) (c : Cf) (sn wd last : Nat) (ts : List Txt) : Prop where
  snd : Row w x 34 (SCells c (.pointer (some ⟨q, 0, none⟩)) sn)
  qs : QS W.heap.size q c.qb w last ts
  hx : W.heap.size ≤ x
  bl : Below W.heap.size W w
  hwd : wd = 5 ∨ wd = 10
  hcb : c.bits = wd
  hsn : sn < 2 ^ wd
  hr : 1 ≤ c.qb
  hr2 : c.qb ≤ 20000
theorem check1 {c : Cf} (h : checkF c = 0) (hm : c.mode = 1) : 1 ≤ c.qb ∧ c.qb ≤ 20000 ∧ (c.bits = 5 ∨ c.bits = 10) := by
  unfold checkF at h
  rw [if_neg (by omega), if_pos hm] at h
  split at h
  · rename_i h1
    unfold qbB numB limB inB in2 at h1
    simp only [Bool.and_eq_true, Bool.or_eq_true, decide_eq_true_eq, beq_iff_eq] at h1
    exact ⟨by omega, by omega, by omega⟩
  · omega
section
variable {W w v : World} {x q : Nat} {c : Cf} {sn wd last : Nat} {ts : List Txt}
theorem US.later (h : US W w x q c sn wd last ts) (hb : Below w.heap.size w v) : US W v x q c sn wd last ts := { h with snd := h.snd.later hb, qs := h.qs.later hb, bl := bl_step h.bl hb }
theorem US.bits (h : US W w x q c sn wd last ts) : c.bits = 5 ∨ c.bits = 10 := by
  have h1 := h.hcb
  rcases h.hwd with h2 | h2 <;> rw [h1, h2] <;> simp
theorem US.okn (h : US W w x q c sn wd last ts) : okn c.bits sn = true := by
  have h1 := h.hsn
  rw [h.hcb]
  rcases h.hwd with h2 | h2 <;> subst h2 <;> simp [okn, rt, sz] <;> omega
theorem US.next (h : US W w x q c sn wd last ts) {sn2 last2 : Nat} {ts2 : List Txt} (hs : Row v x 34 (SCells c (.pointer (some ⟨q, 0, none⟩)) sn2)) (hq : QS W.heap.size q c.qb v last2 ts2) (ho : UOnly W.heap.size x w v) (h2 : sn2 < 2 ^ wd) : US W v x q c sn2 wd last2 ts2 :=
  ⟨hs, hq, h.hx, h.bl.trans (ho.below h.bl.size h.hx), h.hwd, h.hcb, h2, h.hr, h.hr2⟩
theorem us_new (c : Cf) (W : World) (h : checkF c = 0) (hm : c.mode = 1) : Calls Try.prog 10 #[.agg c.a] W fun e w' => ∃ x q wd : Nat, e = .returned (.tuple #[.pointer (some ⟨x, 0, none⟩), .int .i64 0]) ∧ US W w' x q c 0 wd 0 [] := by
  obtain ⟨h1, h2, h3⟩ := check1 h hm
  obtain ⟨mode, bits, win, reo, prx, pro, ppd, pby, mrx, qb⟩ := c
  simp only at hm h1 h2 h3
  subst hm
  refine (unew_ok bits win reo prx pro ppd pby mrx qb W h h1 h2).mono ?_
  rintro e w' ⟨x, q, rfl, e1, e2, e3, e4⟩
  rcases h3 with h3 | h3
  · exact ⟨x, q, 5, rfl, e1, QS.start e2 (show (0 : Int) ≤ qb by omega), e4, e3, .inl rfl, h3, by decide, h1, h2⟩
  · exact ⟨x, q, 10, rfl, e1, QS.start e2 (show (0 : Int) ≤ qb by omega), e4, e3, .inr rfl, h3, by decide, h1, h2⟩
/-- a text is pushed -/
theorem US.push (h : US W w x q c sn wd last ts) (A : Option Addr) (l : List Nat) (n k : Nat) (hn : l.length = n) (hll : n ≤ 9223372036854775807) (hlast : last ≤ 1000000000) (hb : ∀ b ∈ l, b < 256) (hs : Src W A (bts l)) :
    Calls Try.prog 12 #[.pointer (some ⟨x, 0, none⟩), .slice A n k] w fun e w' => ∃ (nid : Nat) (er : Int) (last2 : Nat) (ts2 : List Txt), e = .returned (.tuple #[.int .u64 nid, .int .i64 er]) ∧ US W w' x q c sn wd last2 ts2 ∧ last2 ≤ last + 1 ∧ QOnly W.heap.size w w' ∧
      ((er = 0 ∧ 0 < n ∧ n ≤ 1000 ∧ ts.length < 64 ∧ (bytesF ts : Int) + n ≤ c.qb ∧ nid = last + 1 ∧ last2 = last + 1 ∧ ∃ t : Txt, t.id = last + 1 ∧ t.bs = l ∧ t.bg = false ∧ ts2 = ts ++ [t]) ∨ (er ≠ 0 ∧ ts2 = ts ∧ last2 = last)) := by
  refine (upush_all A l n k hn h.snd h.qs (by have := h.hr; omega) h.hr2 hll hlast hb (fun V V' hV hq => src_qsrc (src_later hs ((h.bl.trans (hV.mono h.bl.size)).trans (hq.below (Nat.le_trans h.bl.size hV.size)))))).mono ?_
  rintro e w' ⟨w1, hb1, nid, er, rfl, ho, ⟨h1, h2, h3, h4, h5, h6, t, k1, k2, k3, k4⟩ | ⟨h1, h2, h3, _⟩⟩
  · have hoo : QOnly W.heap.size w w' := (QOnly.of_below hb1).trans ho
    refine ⟨nid, er, last + 1, ts ++ [t], rfl, h.next (hoo.row h.snd (by decide) (by decide)) k4 (UOnly.of_q hoo) h.hsn, Nat.le_refl _, hoo, .inl ⟨h1, by omega, by omega, h5, by rw [← hn]; exact h6, h2, rfl, t, k1, k2, k3.1, rfl⟩⟩
  · have hoo : QOnly W.heap.size w w' := (QOnly.of_below hb1).trans ho
    exact ⟨nid, er, last, ts, rfl, h.next (hoo.row h.snd (by decide) (by decide)) h3 (UOnly.of_q hoo) h.hsn, by omega, hoo, .inr ⟨h1, rfl, rfl⟩⟩
theorem US.bytes (h : US W w x q c sn wd last ts) : Calls Try.prog 15 #[.pointer (some ⟨x, 0, none⟩)] w fun e w' => e = .returned (.int .i64 (bytesF ts : Nat)) ∧ Below w.heap.size w w' :=
  ubytes_any h.snd h.qs.q (by have := h.hr; omega) (by have := h.qs.small; have := h.hr2; omega)
theorem US.nx (h : US W w x q c sn wd last ts) : Calls Try.prog 16 #[.pointer (some ⟨x, 0, none⟩)] w fun e w' => e = .returned (.int .i64 sn) ∧ w = w' := unext_any h.snd
theorem discF_sub (id : Nat) (ts : List Txt) : (discF id ts).Sublist ts := by
  unfold discF
  split
  · exact List.Sublist.refl _
  · split
    · exact List.Sublist.refl _
    · exact List.eraseIdx_sublist _ _
theorem discF_bg (id : Nat) {ts : List Txt} (h : ∀ t ∈ ts.drop 1, t.bg = false) : ∀ t ∈ (discF id ts).drop 1, t.bg = false := by
  unfold discF
  split
  · exact h
  · split
    · exact h
    · rename_i t ht hbg
      intro y hy
      cases ts with
      | nil => simp at hy
      | cons a r =>
        have hr : ∀ t ∈ r, t.bg = false := by simpa using h
        cases hp : placeF id (a :: r) with
        | zero =>
          rw [hp] at hy
          simp at hy
          exact hr y (List.mem_of_mem_tail hy)
        | succ j =>
          rw [hp] at hy
          simp at hy
          exact hr y ((List.eraseIdx_sublist r j).subset hy)
theorem bytesF_sub {a b : List Txt} (h : a.Sublist b) : bytesF a ≤ bytesF b := by
  induction h with
  | slnil => exact Nat.le_refl _
  | cons t _ ih => rw [bytesF_cons]; omega
  | cons_cons t _ ih => rw [bytesF_cons, bytesF_cons]; omega
theorem QS.disc {B p : Nat} {R : Int} (h : QS B p R w last ts) (id : Nat) (hq : QRep B v p R last (discF id ts)) : QS B p R v last (discF id ts) := by
  have hs := discF_sub id ts
  refine ⟨hq, h.up.sublist hs, fun t ht => h.ids t (hs.subset ht), fun t ht => h.bytes t (hs.subset ht), discF_bg id h.bg, Nat.le_trans hs.length_le h.many, ?_⟩
  have := bytesF_sub hs
  have := h.small
  omega
theorem US.disc (h : US W w x q c sn wd last ts) (nid : Nat) : Calls Try.prog 14 #[.pointer (some ⟨x, 0, none⟩), .int .u64 nid] w fun e w' => e = .returned (.int .i64 (discE nid ts)) ∧ US W w' x q c sn wd last (discF nid ts) ∧ QOnly W.heap.size w w' := by
  refine (udisc_any nid h.snd h.qs.q (by have := h.hr; omega) (by have := h.qs.many; omega)).mono ?_
  rintro e w' ⟨w1, hb1, rfl, hq, ho⟩
  have hoo : QOnly W.heap.size w w' := (QOnly.of_below hb1).trans ho
  exact ⟨rfl, h.next (hoo.row h.snd (by decide) (by decide)) (h.qs.disc nid hq) (UOnly.of_q hoo) h.hsn, hoo⟩
theorem QS.start0 {B p : Nat} {R : Int} (hq : QRep B w p R last []) (hR : 1 ≤ R) : QS B p R w last [] := ⟨hq, List.Pairwise.nil, (fun t h => by cases h), (fun t h => by cases h), (fun t h => by simp at h), by simp, by simp [bytesF]; omega⟩
theorem US.reset (h : US W w x q c sn wd last ts) : Calls Try.prog 17 #[.pointer (some ⟨x, 0, none⟩)] w fun e w' => ∃ g : Nat, e = .returned (.slice (some ⟨g, 0, none⟩) ts.length ts.length) ∧ w.heap.size ≤ g ∧ Row w' g 35 (idv ts).toArray ∧ US W w' x q c 0 wd last [] ∧ UOnly W.heap.size x w w' := by
  refine (ureset_any h.snd h.qs.q (by have := h.hr; omega) (by have := h.qs.many; omega)).mono ?_
  rintro e w' ⟨g, rfl, hg, hrw, hq, hs, ho⟩
  have hoo : UOnly W.heap.size x w w' := ((Only.refl (fun k => k = x) w).set (p := ⟨x, 11, none⟩) (.inl rfl) (.int .i64 0)).weaker (T := fun k => QT W.heap.size w k ∨ k = x) (fun _ _ hk => .inr hk) |>.andThen (show Only _ _ w' from ho) (fun k hk hq => by
    obtain ⟨h1, t, cs, h2, h3⟩ := hq
    by_cases hkx : k = x
    · exact .inr hkx
    · refine .inl ⟨h1, t, cs, ?_, h3⟩
      have e : (w.setCell ⟨x, 11, none⟩ (.int .i64 0)).heap[k]? = w.heap[k]? := Below.heap_setCell w ⟨x, 11, none⟩ _ k hkx
      unfold Row at h2 ⊢
      rw [← e]; exact h2)
  refine ⟨g, rfl, hg, hrw, h.next (sn2 := 0) hs (QS.start0 hq h.hr) hoo (by have := h.hsn; omega), hoo⟩
theorem US.build_no (h : US W w x q c sn wd last ts) (g : Int) (hf : faultU g (bytesF ts : Nat) c.bits ≠ 0) : Calls Try.prog 13 #[.pointer (some ⟨x, 0, none⟩), .int .i64 g] w fun e w' => e = .returned (.tuple #[.slice none 0 0, .slice none 0 0, .int .i64 (faultU g (bytesF ts : Nat) c.bits)]) ∧ US W w' x q c sn wd last ts ∧ Below w.heap.size w w' :=
  (ubuild_bad g h.snd h.qs.q (by have := h.hr; omega) h.bits (by have := h.qs.small; have := h.hr2; omega) hf).mono fun _ _ ⟨h1, h2⟩ => ⟨h1, h.later h2, h2⟩
/-- what a sender builds -/
def BuiltS (W : World) (x q : Nat) (c : Cf) (sn wd last : Nat) (ts : List Txt) (g : Int) (w : World) (e : Ending) (w' : World) : Prop :=
  ∃ (k f : Nat) (n : Int) (ts' : List Txt) (D : Option Addr) (L : List RowB) (v : Value), e = .returned (.tuple #[v, .slice D k k, .int .i64 0]) ∧ fiT ts n = (f : Int) ∧ OwnY w.heap.size w' v (umdBytes f sn L wd) ∧ umdF f sn (lens L) wd ≠ 0 ∧ umdF f sn (lens L) wd ≤ g ∧ texts L = fieldsT (ts.map Txt.bs) k n ∧ Bld (min g 4000 - c.bits / 5) 11 (lenT ts) k n ∧ RestT ts k n ts' ∧ (0 < k ∨ 0 < n) ∧
    US W w' x q c ((sn + 1) % 2 ^ wd) wd last ts' ∧ (∃ cc, NewIds w.heap.size w' (.slice D k cc) ((ts.take k).map Txt.id)) ∧ UOnly W.heap.size x w w'
theorem US.build (h : US W w x q c sn wd last ts) (g : Int) (hf : faultU g (bytesF ts : Nat) c.bits = 0) : Calls Try.prog 13 #[.pointer (some ⟨x, 0, none⟩), .int .i64 g] w (BuiltS W x q c sn wd last ts g w) := by
  refine (ubuild_ok g sn wd h.hwd h.hcb h.okn h.hx h.snd h.qs (by have := h.hr; omega) (by have := h.qs.small; have := h.hr2; omega) hf).mono ?_
  rintro e w' ⟨k, f, n, ts', D, L, v, e1, e2, e3, e4, e5, e6, e7, e8, e9, e10, e11, e12, e13⟩
  have hz : ((sn : Int) + 1) % sz c.bits = (((sn + 1) % 2 ^ wd : Nat) : Int) := by
    rw [h.hcb]
    rcases h.hwd with h2 | h2 <;> subst h2 <;> simp [sz, rt]
  rw [hz] at e11
  exact ⟨k, f, n, ts', D, L, v, e1, e2, e3, e4, e5, e6, e7, e8, e9, h.next e11 e10 e13 (Nat.mod_lt _ (by rcases h.hwd with h2 | h2 <;> subst h2 <;> decide)), e12, e13⟩
end
end Go.Proofs.Ytjonkpdjhjobfaa
namespace Go.Proofs.Ytjonkpdjhjobfaa
open Go.RowKit

/-- a stronger condition may be held from here on -/
theorem wpAnyH_more {P : Program} {md : Region.Mode} {ops : Array Oper} {Q : Exit → Act → World → Prop} {S S' : World → Prop} : ∀ {fuel : Nat} {listed : Array Bool} {a : Act} {w : World}, wpAnyH P md ops Q S' fuel listed a w → (∀ w, S' w → S w) → wpAnyH P md ops Q S fuel listed a w
  | 0, _, _, _, h, _ => h
  | _ + 1, _, _, _, h, hs => ⟨h.1, fun i hi => wpOp_mono (fun _ _ h' => ⟨hs _ h'.1, wpAnyH_more h'.2 hs⟩) (h.2 i hi)⟩

theorem take_at {P : Program} {md : Region.Mode} {ops : Array Oper} {Q : Exit → Act → World → Prop} {S : World → Prop} (i t : Nat) {oi : Oper} {v : Value} {fuel : Nat} {listed : Array Bool} {a : Act} {w : World} (hi : ops[i]? = some oi) (hd : oi.dst = some t)
    (hs : Region.noSelect ops = true) (hf : Region.free md ops listed i = true) (hr : (Region.ready md ops listed).contains i = true)
    (hQ : ∀ c a w, Q (.panic c) (a.put oi.dst v) w → Q (.panic c) a w) (hy : YieldsIf P ops S oi v a) (hS : S w)
    (h : wpAnyH P md ops Q S fuel (listed.setIfInBounds i true) (a.put (some t) v) w) : wpAnyH P md ops Q S (fuel + 1) listed a w :=
  wpAnyH_take hi hs hf hr hQ hy hS (by rw [hd]; exact h)

/-- what of a frame is forgotten -/
theorem wp_of_frame {P : Program} {c : Code} {Q : Exit → Act → World → Prop} {a : Act} {w : World} (xs : List (Option Value)) (h : Fr xs a) (k : ∀ a', Fr xs a' → c.wp P Q a' w) : c.wp P Q a w := k a h
end Go.Proofs.Ytjonkpdjhjobfaa
namespace Go.Proofs.Ytjonkpdjhjobfaa
open Go.RowKit

section
variable {P : Program} {ops : Array Oper} {Q : Exit → Act → World → Prop} {md : Region.Mode} {S : Array Bool → World → Prop} {T : World → Prop}
/-- whatever order is picked, and behind each operation S holds of what has come up and of the world -/
def AnyL (P : Program) (md : Region.Mode) (ops : Array Oper) (Q : Exit → Act → World → Prop) (S : Array Bool → World → Prop) : Nat → Array Bool → Act → World → Prop
  | 0, l, a, w => Region.ready md ops l = [] ∧ Q .normal a w
  | f + 1, l, a, w => (Region.ready md ops l = [] → Q .normal a w) ∧ ∀ i ∈ Region.ready md ops l, wpOp P ops Q i (fun a' w' => S (l.setIfInBounds i true) w' ∧ AnyL P md ops Q S f (l.setIfInBounds i true) a' w') a w
theorem AnyL.any : ∀ (f : Nat) (l : Array Bool) (a : Act) (w : World), AnyL P md ops Q S f l a w → wpAny P md ops Q f l a w
  | 0, _, _, _, h => h
  | f + 1, _, _, _, h => ⟨h.1, fun i hi => wpOp_mono (fun a' w' h' => AnyL.any f _ a' w' h'.2) (h.2 i hi)⟩
/-- an operation may be taken first that yields as long as one which waits for it has not come up -/
theorem AnyL.first {i g : Nat} {oi og : Oper} {v : Value} (hi : ops[i]? = some oi) (hg : ops[g]? = some og) (hgi : ∃ e ∈ og.after, Region.binds md e = true ∧ e.on = i) (hsel : ∀ (j : Nat) (o : Oper) cs b, ops[j]? = some o → o.op ≠ .select cs b)
    (hQ : ∀ c a w, Q (.panic c) (a.put oi.dst v) w → Q (.panic c) a w) (hT : ∀ l w, l.getD g true = false → S l w → T w) (hS1 : ∀ l w, S l w → S (l.setIfInBounds i true) w) (hS2 : ∀ l w, S (l.setIfInBounds i true) w → S l w) :
    ∀ (f : Nat) (l : Array Bool) (a : Act) (w : World), (∀ j oj, ops[j]? = some oj → j ≠ i → l.getD j true = false → (∀ e ∈ oj.after, Region.binds md e = true → e.on ≠ i) → oi.apart ops oj = true) →
      i ∈ Region.ready md ops l → l.getD g true = false → YieldsIf P ops T oi v a → S l w → AnyL P md ops Q S f (l.setIfInBounds i true) (a.put oi.dst v) w → AnyL P md ops Q S (f + 1) l a w := by
  intro f
  induction f with
  | zero =>
    intro l a w _ hr hlg hy hS H
    refine ⟨fun h => (by rw [h] at hr; cases hr), fun j hj => ?_⟩
    by_cases hji : j = i
    · subst hji
      exact hy.wpOp hi (hT l w hlg hS) ⟨hS1 l w hS, H⟩
    · have := ready_mono hj hji
      rw [H.1] at this
      cases this
  | succ f ih =>
    intro l a w hfree hr hlg hy hS H
    refine ⟨fun h => (by rw [h] at hr; cases hr), fun j hj => ?_⟩
    by_cases hji : j = i
    · subst hji
      exact hy.wpOp hi (hT l w hlg hS) ⟨hS1 l w hS, H⟩
    · have h1 := H.2 j (ready_mono hj hji)
      obtain ⟨hjun, oj, hoj, hall⟩ := mem_ready.1 hj
      have hnot : ∀ e ∈ oj.after, Region.binds md e = true → e.on ≠ i := fun e he hb heq => by
        have h1 := hall e he hb
        have h0 := (mem_ready.1 hr).1
        rw [heq] at h1
        rcases Nat.lt_or_ge i l.size with h' | h'
        · simp [h'] at h0 h1
          rw [h0] at h1
          cases h1
        · simp [Array.getElem?_eq_none h'] at h1
      have hjg : j ≠ g := fun e => by
        subst e
        rw [hg] at hoj
        injection hoj with hoj
        subst hoj
        obtain ⟨e, he, hb, ho⟩ := hgi
        exact hnot e he hb ho
      have h2 := wpOp_putIf hoj (hfree j oj hoj hji hjun hnot) (fun cs b => hsel i oi cs b hi) (fun cs b => hsel j oj cs b hoj) hQ hy h1
      refine wpOp_mono (fun a' w' h3 => ?_) h2
      have hc := Array.setIfInBounds_comm (xs := l) true true (Ne.symm hji)
      have h4 : S (l.setIfInBounds j true) w' := hS2 _ _ (by
        have := h3.2.1
        rw [hc] at this
        exact this)
      refine ⟨h4, ih (l.setIfInBounds j true) a' w' ?_ (ready_mono hr (Ne.symm hji)) (by rw [getD_set_ne true hjg]; exact hlg) h3.1 h4 ?_⟩
      · intro k ok hk hki hun hno
        refine hfree k ok hk hki ?_ hno
        by_cases hjk : j = k
        · subst hjk; exact hjun
        · rw [getD_set_ne true hjk] at hun; exact hun
      · have := h3.2.2
        rw [hc] at this
        exact this
/-- the same, its side conditions as Bools -/
theorem AnyL.take (g : Nat) {i : Nat} {oi : Oper} {v : Value} {f : Nat} {l : Array Bool} {a : Act} {w : World} (T : World → Prop) (hi : ops[i]? = some oi) (hs : Region.noSelect ops = true) (hf : Region.free md ops l i = true) (hr : (Region.ready md ops l).contains i = true)
    (hg : ((ops[g]?).map fun o => o.after.any fun e => Region.binds md e && e.on == i) = some true) (hlg : l.getD g true = false) (hQ : ∀ c a w, Q (.panic c) (a.put oi.dst v) w → Q (.panic c) a w)
    (hT : ∀ l w, l.getD g true = false → S l w → T w) (hS1 : ∀ l w, S l w → S (l.setIfInBounds i true) w) (hS2 : ∀ l w, S (l.setIfInBounds i true) w → S l w) (hy : YieldsIf P ops T oi v a) (hS : S l w)
    (h : AnyL P md ops Q S f (l.setIfInBounds i true) (a.put oi.dst v) w) : AnyL P md ops Q S (f + 1) l a w := by
  obtain ⟨og, hog⟩ : ∃ og, ops[g]? = some og := by
    cases e : ops[g]? with
    | none => rw [e] at hg; simp at hg
    | some og => exact ⟨og, rfl⟩
  rw [hog] at hg
  simp only [Option.map_some, Option.some.injEq] at hg
  obtain ⟨e, he, hb⟩ := Array.any_eq_true'.1 hg
  simp only [Bool.and_eq_true, beq_iff_eq] at hb
  exact AnyL.first hi hog ⟨e, he, hb.1, hb.2⟩ (Region.noSelect_spec hs) hQ hT hS1 hS2 f l a w (Region.free_spec hi hf) (by simpa using hr) hlg hy hS h
/-- whichever comes up -/
theorem AnyL.take_at (g i t : Nat) {oi : Oper} {v : Value} {f : Nat} {l : Array Bool} {a : Act} {w : World} (T : World → Prop) (hi : ops[i]? = some oi) (hd : oi.dst = some t) (hs : Region.noSelect ops = true) (hf : Region.free md ops l i = true) (hr : (Region.ready md ops l).contains i = true)
    (hg : ((ops[g]?).map fun o => o.after.any fun e => Region.binds md e && e.on == i) = some true) (hlg : l.getD g true = false) (hQ : ∀ c a w, Q (.panic c) (a.put oi.dst v) w → Q (.panic c) a w)
    (hT : ∀ l w, l.getD g true = false → S l w → T w) (hS1 : ∀ l w, S l w → S (l.setIfInBounds i true) w) (hS2 : ∀ l w, S (l.setIfInBounds i true) w → S l w) (hy : YieldsIf P ops T oi v a) (hS : S l w)
    (h : AnyL P md ops Q S f (l.setIfInBounds i true) (a.put (some t) v) w) : AnyL P md ops Q S (f + 1) l a w :=
  AnyL.take g T hi hs hf hr hg hlg hQ hT hS1 hS2 hy hS (by rw [hd]; exact h)
theorem AnyL.all {rs : List Nat} {f : Nat} {l : Array Bool} {a : Act} {w : World} (hr : Region.ready md ops l = rs) (hne : rs ≠ [])
    (h : ∀ i ∈ rs, wpOp P ops Q i (fun a' w' => S (l.setIfInBounds i true) w' ∧ AnyL P md ops Q S f (l.setIfInBounds i true) a' w') a w) : AnyL P md ops Q S (f + 1) l a w :=
  ⟨fun h0 => absurd (hr ▸ h0) hne, hr ▸ h⟩
theorem AnyL.done {l : Array Bool} {a : Act} {w : World} (hr : Region.ready md ops l = []) (h : Q .normal a w) : ∀ f, AnyL P md ops Q S f l a w
  | 0 => ⟨hr, h⟩
  | _ + 1 => ⟨fun _ => h, by rw [hr]; simp⟩
theorem AnyL.start {id : Nat} {a : Act} {w : World} (hm : P.follows .mixedOrders = true) (h : AnyL P .any ops Q S ops.size (Array.replicate ops.size false) a w.drew) : (Code.region id ops true).wp P Q a w :=
  wp_region_any hm (AnyL.any _ _ _ _ h)
end
end Go.Proofs.Ytjonkpdjhjobfaa
