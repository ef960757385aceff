/-
  The document's bytes of points that are pairs.
-/
import Derived.Test.YtieokmmejdngcaaRefOf
import Derived.Test.YtieokmmejdngcaaCount
namespace Go.Proofs.Ytieokmmejdngcaa
open Go.RowKit

def u8c (l : List Nat) : List Value := l.map fun (b : Nat) => Value.int .u8 (b : Int)
def BOwn (B : Nat) (l : List Nat) (v : Value) (w : World) : Prop := w.ownsRow B 5 1 v l.length (u8c l) ∧ B ≤ w.heap.size
theorem BOwn.form {B : Nat} {L : List Nat} {v : Value} {w : World} (h : BOwn B L v w) : ∃ A c, v = .slice A L.length c := by
  rcases h.1.2 with ⟨rfl, h0⟩ | ⟨g, c, cur, rfl, _⟩
  · exact ⟨none, 0, by rw [h0]⟩
  · exact ⟨_, c, rfl⟩
theorem BOwn.src {B c : Nat} {A : Option Addr} {L : List Nat} {w : World} (h : BOwn B L (.slice A L.length c) w) : BSrc w A L := fun i p hp => by
  have hl : 0 < L.length := by
    obtain ⟨h1, _⟩ := List.getElem?_eq_some_iff.1 hp
    omega
  obtain ⟨g, cap, hv, _, _⟩ := h.1.form hl
  injection hv with hv _ _
  subst hv
  have c1 := h.1.cells (g := g) rfl i (.int .u8 p) (by unfold u8c; rw [List.getElem?_map, hp]; rfl)
  rw [add_of] at c1
  exact ⟨g, 0, rfl, c1⟩
theorem BOwn.nil (w : World) : BOwn w.heap.size [] (.slice none 0 0) w := ⟨World.ownsRow_nil _ _ _ _, Nat.le_refl _⟩
theorem BOwn.alloc {B : Nat} {L : List Nat} {v : Value} {w : World} (h : BOwn B L v w) (b : Obj) : BOwn B L v (w.alloc b) := ⟨h.1.alloc _, by have := h.2; simp; omega⟩
theorem BOwn.step {B : Nat} {L : List Nat} {v : Value} {w : World} (h : BOwn B L v w) (x : Nat) (hn : L.length ≤ 1000000) :
    ∃ g cap W', (Builtin.append_ #[44, 44] 44 #[v, .slice (some ⟨w.heap.size, 0, none⟩) 1 1]).run Try.prog (w.alloc (.cells #[.int .u8 (x : Int)] 5)) = .ok (.slice (some ⟨g, 0, none⟩) (L.length + 1) cap) W' ∧
      BOwn B (L ++ [x]) (.slice (some ⟨g, 0, none⟩) (L.length + 1) cap) W' ∧ Below B w W' ∧ w.heap.size ≤ W'.heap.size := by
  obtain ⟨i0, hi, hi0, hi1, hi2⟩ := info_partsP Try.info5
  obtain ⟨g, cap, w3, hr3, h2, h3, _, _⟩ := run_append_lies (P := Try.prog) (w.alloc (.cells #[.int .u8 (x : Int)] 5)) 44 44 B 5 i0 _ 1 1 Try.under44 hi hi0 hi1 hi2 rfl (by omega) v L.length (u8c L) (h.1.alloc _) ⟨w.heap.size, 0, none⟩ 1 1 [.int .u8 (x : Int)] rfl
    (World.news_of_block (cs := #[.int .u8 (x : Int)]) (heap_alloc_new w _)) (by intro u hu; simp at hu; rw [hu]; rfl) (by omega) (by unfold maxLen; omega) (by omega) (by simp; have := h.2; omega) _ rfl
  have ho : Only (fun k => v.ownBlock = some k) w w3 := ((Only.refl _ w).alloc (.cells #[.int .u8 (x : Int)] 5)).grown h3 (fun k hk => .inl hk)
  refine ⟨g, cap, w3, hr3, ⟨?_, Nat.le_trans h.2 ho.size⟩, ho.below h.2 (fun k hk hk' => by have := (h.1.lt k hk').1; omega), ho.size⟩
  rw [List.length_append, show u8c (L ++ [x]) = u8c L ++ [.int .u8 (x : Int)] by unfold u8c; rw [List.map_append]; rfl]
  exact h2
/-- below: the own list stays -/
theorem BOwn.later {B : Nat} {L : List Nat} {v : Value} {w u : World} (h : BOwn B L v w) (hb : Below w.heap.size w u) : BOwn B L v u := by
  exact ⟨own_only h.1 (Only.of_below (S := fun _ => False) hb) (fun _ _ h => h), Nat.le_trans h.2 hb.size⟩
theorem backB_succ {L : List (Int × Int)} {q : Nat} (hq : q < L.length / 4) : (backB L).take (q + 1) = (backB L).take q ++ [pv L q 4] := by
  rw [List.take_add_one]
  unfold backB
  rw [List.getElem?_map, List.getElem?_range hq]
  rfl
theorem dig_of (a b : Int) : dig (a, b) = 2 * nb a + nb b := rfl

def RBackAns (L : List (Int × Int)) (w : World) (e : Ending) (w' : World) : Prop :=
  ((okB L = true ∧ ∃ v c, e = .returned (.tuple #[.slice v (backB L).length c, .bool true]) ∧ BSrc w' v (backB L)) ∨ (okB L = false ∧ e = .returned (.tuple #[.slice none 0 0, .bool false]))) ∧ Below w.heap.size w w'
set_option maxHeartbeats 3200000 in
theorem rback_t (A : Option Addr) (L : List (Int × Int)) (c : Nat) (w : World) (hn : L.length ≤ 100000) (hsm : ∀ p ∈ L, sml p.1 ∧ sml p.2) (hs : QSrc w A L) :
    Calls Try.prog 33 #[.slice A L.length c] w (RBackAns L w) := by
  have HS := Lib.hid hs
  have HM := Lib.hid hsm
  clear hs hsm
  by_cases h4 : L.length % 4 = 0
  · have g4 : ((L.length : Int) % 4 != 0) = false := by simp; omega
    have H4 := Lib.hid h4
    clear h4
    have HI0 := Lib.hid (show BOwn w.heap.size ((backB L).take 0) (.slice none 0 0) w from BOwn.nil w)
    have HF0 := Lib.hid (show (L.take 0).all fourB = true from rfl)
    have HB0 := Lib.hid (Below.refl w.heap.size w)
    go_enter Try.func33, Try.ntmps33
    go_wp2_with fail
    go_loopw [4, 5] (fun v i wr => ∃ q : Nat, 4 * q ≤ L.length ∧ i = .int .i64 (4 * (q : Int)) ∧ Hid (BOwn w.heap.size ((backB L).take q) v wr) ∧ Hid ((L.take (4 * q)).all fourB = true) ∧ Hid (Below w.heap.size w wr)) (fun _ i _ => L.length - (intOf i).toNat)
    case atStart => exact ⟨0, by omega, rfl, HI0, HF0, HB0⟩
    case round =>
      obtain ⟨q, hq, rfl, HI, HF, HBW⟩ := hrel
      clear HI0 HF0 HB0
      by_cases hlt : 4 * q < L.length
      · have hq4 : 4 * q + 4 ≤ L.length := by have := H4.out; omega
        have hi1 : 4 * (q : Int) < (L.length : Int) := by omega
        have hw1 : IntKind.i64.wrap (4 * (q : Int) + 4) = 4 * (q : Int) + 4 := IntWalk.i64_in _ (by omega)
        have HI1 := Lib.hid (And.intro HI.out (Below.refl wr.heap.size wr))
        go_wp2_with fail
        go_loopw [6, 7] (fun b i wr2 => ∃ r : Nat, r ≤ 4 ∧ b = .int .u8 ((pv L q r : Nat) : Int) ∧ i = .int .i64 (4 * (q : Int) + (r : Int)) ∧ Hid (BOwn w.heap.size ((backB L).take q) u4 wr2) ∧ Hid ((L.take (4 * q + r)).all fourB = true) ∧ Hid (Below w.heap.size w wr2)) (fun _ i _ => 4 * q + 4 - (intOf i).toNat)
        case atStart => exact ⟨0, by omega, rfl, by simp, HI, HF, HBW⟩
        case round =>
          obtain ⟨r, hr, rfl, rfl, HJ, HG, HBX⟩ := hrel
          by_cases hr4 : r < 4
          · obtain ⟨p, hp⟩ : ∃ p, L[4 * q + r]? = some p := ⟨_, List.getElem?_eq_getElem (by omega)⟩
            obtain ⟨a, b⟩ := p
            obtain ⟨g, rfl, hc1, hc2⟩ := HS.out _ _ hp
            have d1 := kept_box HBX.out hc1
            have d2 := kept_box HBX.out hc2
            obtain ⟨hs1, hs2⟩ := HM.out _ (List.mem_of_getElem? hp)
            simp only at hs1 hs2 d1 d2
            have HP := Lib.hid hp
            have k0 : (0 : Int) ≤ 4 * (q : Int) + (r : Int) := by omega
            have k1 : 4 * (q : Int) + (r : Int) < (L.length : Int) := by omega
            have k2 : 4 * (q : Int) + (r : Int) < 4 * (q : Int) + 4 := by omega
            have k3 : (4 * (q : Int) + (r : Int)).toNat = 4 * q + r := by omega
            have hpv : pv L q r < 64 := Nat.lt_of_lt_of_le (pv_lt L q r) (Nat.pow_le_pow_right (n := 4) (by omega) (show r ≤ 3 by omega))
            have HV := Lib.hid (pv_succ L q r)
            have hgd : L.getD (4 * q + r) (0, 0) = (a, b) := by rw [List.getD_eq_getElem?_getD, hp]; rfl
            rw [hgd] at HV
            generalize hVV : pv L q r = V at *
            have s1 : IntKind.u8.wrap (4 * (V : Int)) = 4 * (V : Int) := by
              have : IntKind.u8.wrap (4 * (V : Int)) = (4 * (V : Int)) % 256 := by simp [IntKind.wrap, IntKind.bits, IntKind.signed]
              rw [this]; omega
            have e1 := fl_eq hs1 (show sml (sg a) by unfold sg sml; split <;> omega)
            have e2 := fl_eq hs2 (show sml (sg b) by unfold sg sml; split <;> omega)
            have n1 := fl_lt hs1 sml0
            have n2 := fl_lt hs2 sml0
            rw [fl_zero] at n1 n2
            clear hc1 hc2 hp hgd hVV
            have heq := eq_flt9
            cases hf : fourB (a, b)
            · have hor : (FloatKind.f64.format.order (fl a) (fl (sg a)) == some .eq) = false ∨ (FloatKind.f64.format.order (fl a) (fl (sg a)) == some .eq) = true ∧ (FloatKind.f64.format.order (fl b) (fl (sg b)) == some .eq) = false := by
                rw [e1, e2]
                unfold fourB at hf
                revert hf
                simp only
                cases decide (a = sg a) <;> cases decide (b = sg b) <;> simp
              have HA := Lib.hid (show ∀ v9, Below w.heap.size w v9 → RBackAns L w (.returned (.tuple #[.slice none 0 0, .bool false])) v9 from fun v9 hb9 => ⟨.inr ⟨by
                unfold okB
                have : L.all fourB = false := by
                  rw [List.all_eq_false]
                  exact ⟨(a, b), List.mem_of_getElem? HP.out, by rw [hf]; simp⟩
                rw [this, Bool.and_false], rfl⟩, hb9⟩)
              clear e1 e2 n1 n2
              rcases hor with e1 | ⟨e1, e2⟩
              all_goals
                go_wp2_with fail
                go_region_held3 (fun w' => w'.cell? ⟨g, (4 * q + r) * 2, none⟩ = some (.float .f64 (fl a)) ∧ w'.cell? ⟨g, (4 * q + r) * 2 + 1, none⟩ = some (.float .f64 (fl b))) (go_keep) (first
                  | (go_at_call 31; (with_reducible refine (rnear_p a b hs1 hs2 _).mono ?_); rintro e v2 ⟨rfl, hv2⟩; have q3 := kept_box hv2 (show wr.drew.cell? _ = _ from d1); have q4 := kept_box hv2 (show wr.drew.cell? _ = _ from d2); have HV2 := Lib.hid (bl_step (bl_drew HBX.out) hv2); clear hv2))
                go_wp2
                go_ret2
                exact HA.out _ HV2.out
            · have h1 : decide (a = sg a) = true := by unfold fourB at hf; rw [Bool.and_eq_true] at hf; exact hf.1
              have h2 : decide (b = sg b) = true := by unfold fourB at hf; rw [Bool.and_eq_true] at hf; exact hf.2
              rw [h1] at e1
              rw [h2] at e2
              have HG2 := Lib.hid (show (L.take (4 * q + (r + 1))).all fourB = true by
                rw [show 4 * q + (r + 1) = 4 * q + r + 1 by omega, List.take_add_one, HP.out, List.all_append, HG.out]
                simp [hf])
              have w2 : IntKind.u8.wrap (4 * (V : Int) + 2) = 4 * (V : Int) + 2 := by
                have : IntKind.u8.wrap (4 * (V : Int) + 2) = (4 * (V : Int) + 2) % 256 := by simp [IntKind.wrap, IntKind.bits, IntKind.signed]
                rw [this]; omega
              have w3 : IntKind.u8.wrap (4 * (V : Int) + 1) = 4 * (V : Int) + 1 := by
                have : IntKind.u8.wrap (4 * (V : Int) + 1) = (4 * (V : Int) + 1) % 256 := by simp [IntKind.wrap, IntKind.bits, IntKind.signed]
                rw [this]; omega
              have w4 : IntKind.u8.wrap (4 * (V : Int) + 2 + 1) = 4 * (V : Int) + 2 + 1 := by
                have : IntKind.u8.wrap (4 * (V : Int) + 2 + 1) = (4 * (V : Int) + 2 + 1) % 256 := by simp [IntKind.wrap, IntKind.bits, IntKind.signed]
                rw [this]; omega
              have w5 : IntKind.i64.wrap (4 * (q : Int) + (r : Int) + 1) = 4 * (q : Int) + (r : Int) + 1 := IntWalk.i64_in _ (by omega)
              have hnb : ∀ z : Int, nb z = if z < 0 then 1 else 0 := fun z => rfl
              clear h1 h2 hf
              by_cases ha : a < 0 <;> by_cases hb : b < 0
              all_goals
                first | rw [decide_eq_true ha] at n1 | rw [decide_eq_false ha] at n1
                first | rw [decide_eq_true hb] at n2 | rw [decide_eq_false hb] at n2
                have HV2 := Lib.hid (show pv L q (r + 1) = 4 * V + (2 * (if a < 0 then 1 else 0) + (if b < 0 then 1 else 0)) from HV.out)
                first | rw [if_pos ha, if_pos hb] at HV2 | rw [if_pos ha, if_neg hb] at HV2 | rw [if_neg ha, if_pos hb] at HV2 | rw [if_neg ha, if_neg hb] at HV2
                clear ha hb hnb
                go_wp2_with fail
                go_region_held3 (fun w' => w'.cell? ⟨g, (4 * q + r) * 2, none⟩ = some (.float .f64 (fl a)) ∧ w'.cell? ⟨g, (4 * q + r) * 2 + 1, none⟩ = some (.float .f64 (fl b))) (go_keep) (first
                  | (go_at_call 31; (with_reducible refine (rnear_p a b hs1 hs2 _).mono ?_); rintro e v2 ⟨rfl, hv2⟩; have q3 := kept_box hv2 (show wr.drew.cell? _ = _ from d1); have q4 := kept_box hv2 (show wr.drew.cell? _ = _ from d2); have HX2 := Lib.hid (bl_step (bl_drew HBX.out) hv2); have HJ2 := Lib.hid (BOwn.later HJ.out (bl_step (bl_drew (Below.refl _ _)) hv2)); clear hv2))
                go_wp2
                go_roundw
                case rel => exact ⟨r + 1, by omega, congrArg (Value.int .u8) (by rw [HV2.out]; push_cast; omega), congrArg (Value.int .i64) (by push_cast; omega), HJ2, HG2, HX2⟩
                case measure => simp [intOf]; omega
          · obtain rfl : r = 4 := by omega
            have hw2 : ¬ 4 * (q : Int) + ((4 : Nat) : Int) < 4 * (q : Int) + 4 := by omega
            have hlen : ((backB L).take q).length = q := by rw [List.length_take, length_backB]; omega
            obtain ⟨A9, c9, rfl⟩ := HJ.out.form
            obtain ⟨g9, cap9, W9, hr9, hq9, hb9, hs9⟩ := HJ.out.step (pv L q 4) (by rw [hlen]; omega)
            rw [hlen] at hr9 hq9
            rw [← backB_succ (by have := H4.out; omega)] at hq9
            have HQ9 := Lib.hid hq9
            have HBW9 := Lib.hid (HBX.out.trans hb9)
            have HR9 := Lib.hid hr9
            have HG9 := Lib.hid (show (L.take (4 * (q + 1))).all fourB = true by rw [show 4 * (q + 1) = 4 * q + 4 by omega]; exact HG.out)
            rw [hlen]
            clear hr9 hq9 hb9 hs9 hlen
            go_wp2_with (at_builtin; refine wpList_run rfl (.tmp 53) (.tmp 55) 44 rfl (.slice A9 q c9) (.slice (some ⟨wr.heap.size, 0, none⟩) 1 1) (by rfl) (by rfl) HR9.out ?_)
            go_roundw
            case rel => exact ⟨q + 1, by omega, congrArg (Value.int .i64) (by push_cast; omega), HQ9, HG9, HBW9⟩
            case measure => simp [intOf]; omega
      · have hi1 : ¬ 4 * (q : Int) < (L.length : Int) := by omega
        have hq1 : q = L.length / 4 := by have := H4.out; omega
        obtain ⟨A9, c9, rfl⟩ := HI.out.form
        have htk : (backB L).take q = backB L := List.take_of_length_le (by rw [length_backB]; omega)
        have htl : L.take (4 * q) = L := List.take_of_length_le (by omega)
        rw [htk] at HI
        rw [htl] at HF
        rw [htk]
        have HA := Lib.hid (show RBackAns L w (.returned (.tuple #[.slice A9 (backB L).length c9, .bool true])) wr from ⟨.inl ⟨by
          unfold okB
          rw [HF.out, H4.out]
          rfl, A9, c9, rfl, HI.out.src⟩, HBW.out⟩)
        clear HI
        go_wp2
        go_ret2
        exact HA.out
  · have g4 : ((L.length : Int) % 4 != 0) = true := by simp; omega
    have HA := Lib.hid (show RBackAns L w (.returned (.tuple #[.slice none 0 0, .bool false])) w from ⟨.inr ⟨by unfold okB; rw [show (L.length % 4 == 0) = false by simpa using h4]; rfl, rfl⟩, Below.refl _ _⟩)
    clear h4
    go_enter Try.func33, Try.ntmps33
    go_wp2
    go_ret2
    exact HA.out
end Go.Proofs.Ytieokmmejdngcaa
