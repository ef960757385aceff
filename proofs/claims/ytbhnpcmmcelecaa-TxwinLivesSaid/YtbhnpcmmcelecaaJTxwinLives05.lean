/-
  How the calls that TxwinLives takes read. TxwinLives: the walk.
-/
import Derived.Test.YtbhnpcmmcelecaaJTxwinLives04
import Derived.Test.YtbhnpcmmcelecaaJTxwinLives01
import Derived.Deep.Slices
import Derived.Deep.SlicePairs
import Derived.Lib.SmallJoins
namespace Go.Proofs.Ytbhnpcmmcelecaa
open Go.ChangeShapes Go.WideShapes Go.ChangeAt Go.RowKit Go.Deep Go.Joins


theorem Try.cellsOp18 : Try.prog.cellsOf 156 = 3 := by kernel_rfl
theorem Try.cells3o : Try.prog.cellsOf 3 = 1 := by kernel_rfl

/-- where calls lie -/
def OSrc (w : World) (A : Option Addr) (l : List (Int × (Int × Int))) : Prop :=
  0 < l.length → ∃ b off, A = some ⟨b, off, none⟩ ∧ ∀ k o, l[k]? = some o → w.cell? ⟨b, off + k * 3, none⟩ = some (.int .i64 o.1) ∧ w.cell? ⟨b, off + k * 3 + 1, none⟩ = some (.int .i64 o.2.1) ∧ w.cell? ⟨b, off + k * 3 + 2, none⟩ = some (.int .i64 o.2.2)

set_option maxRecDepth 100000 in
theorem op_cells {H : Type} {enc : TypeId × Value → H} {W : World} {base fuel : Nat} {sp : Nat → Bool} {held : Bool} {cs : List Value} {x : DataW H × List MemPlace}
    (h : DataW.trod enc Try.prog W base sp held fuel 156 cs = some x) : ∃ a b c : Int, cs = [.int .i64 a, .int .i64 b, .int .i64 c] := by
  obtain ⟨xs, n, _, _, hl, hxs, hf⟩ := DataW.trod_struct Try.underlying156 h
  have h0 := hf 0 _ rfl
  have h1 := hf 1 _ rfl
  have h2 := hf 2 _ rfl
  rw [Try.cellsOp18] at hl
  match cs, hl with
  | [c0, c1, c2], _ =>
    have hxs' : xs.length = 3 := by simpa using hxs
    match xs, hxs' with
    | [y0, y1, y2], _ =>
      have h0' : DataW.trod enc Try.prog W base sp held n 3 (([c0, c1, c2].drop 0).take (Try.prog.cellsOf 3)) = some y0 := h0
      have h1' : DataW.trod enc Try.prog W base sp held n 3 (([c0, c1, c2].drop 1).take (Try.prog.cellsOf 3)) = some y1 := h1
      have h2' : DataW.trod enc Try.prog W base sp held n 3 (([c0, c1, c2].drop 2).take (Try.prog.cellsOf 3)) = some y2 := h2
      rw [Try.cells3o] at h0' h1' h2'
      obtain ⟨a, ea, _, _⟩ := DataW.trod_int Try.underlying3 h0'
      obtain ⟨b, eb, _, _⟩ := DataW.trod_int Try.underlying3 h1'
      obtain ⟨c, ec, _, _⟩ := DataW.trod_int Try.underlying3 h2'
      simp at ea eb ec
      exact ⟨a, b, c, by rw [ea, eb, ec]⟩

set_option maxRecDepth 100000 in
theorem ops_arg {H : Type} {enc : TypeId × Value → H} {W : World} {base : Nat} {v : Value} {d : DataW H} {p : List MemPlace} (hok : Value.okWide Try.prog W .any base 147 v)
    (h : DataW.Trod enc Try.prog W 0 (fun _ => true) true 147 v d p) : ∃ (A : Option Addr) (cap : Nat) (l : List (Int × (Int × Int))), v = .slice A l.length cap ∧ l.length ≤ cap ∧ cap ≤ 9223372036854775807 ∧ OSrc W A l := by
  obtain ⟨a0, len, cap, rfl⟩ := okWide_slice Try.underlying147 hok
  obtain ⟨fuel, hf⟩ := h
  rcases open_slice Try.underlying147 hf with ⟨hcs, _⟩ | ⟨a, len', cap', m, n, D, Pl, hcs, _, hl, hm, hmm, _, hcell⟩
  · have e : Value.slice a0 len cap = .slice none 0 0 := by simpa [Value.cells] using hcs
    rw [e]
    exact ⟨none, 0, [], rfl, Nat.le_refl _, by omega, fun h0 => absurd h0 (by simp)⟩
  · have e : Value.slice a0 len cap = .slice (some a) len' cap' := by simpa [Value.cells] using hcs
    rw [e]
    have hm' : m = cap' := by simpa using hmm
    have each : ∀ i, i < len' → ∃ (t u w : Int), W.cell? (a.add (i * 3)) = some (.int .i64 t) ∧ W.cell? (a.add (i * 3 + 1)) = some (.int .i64 u) ∧ W.cell? (a.add (i * 3 + 2)) = some (.int .i64 w) := by
      intro i hi
      obtain ⟨cs', hc, ht⟩ := hcell i (by omega)
      rw [Try.cellsOp18] at hc
      obtain ⟨t, u, w, rfl⟩ := op_cells ht
      obtain ⟨_, _, hat⟩ := World.cells?_some hc
      have h0 := hat 0 (by omega)
      have h1 := hat 1 (by omega)
      have h2 := hat 2 (by omega)
      rw [add_add] at h0 h1 h2
      exact ⟨t, u, w, h0, h1, h2⟩
    have pick : ∃ f : Nat → Int × (Int × Int), ∀ i, i < len' → W.cell? (a.add (i * 3)) = some (.int .i64 (f i).1) ∧ W.cell? (a.add (i * 3 + 1)) = some (.int .i64 (f i).2.1) ∧ W.cell? (a.add (i * 3 + 2)) = some (.int .i64 (f i).2.2) := by
      refine ⟨fun i => if hi : i < len' then ((each i hi).choose, ((each i hi).choose_spec.choose, (each i hi).choose_spec.choose_spec.choose)) else (0, (0, 0)), fun i hi => ?_⟩
      simp only [dif_pos hi]
      exact (each i hi).choose_spec.choose_spec.choose_spec
    obtain ⟨f, hf'⟩ := pick
    have hlen : ((List.range len').map f).length = len' := by simp
    refine ⟨some a, cap', (List.range len').map f, by rw [hlen], by omega, by unfold maxLen at hm; exact hm, fun h0 => ?_⟩
    rw [hlen] at h0
    obtain ⟨b, off, spot⟩ := a
    have hspot : spot = none := by
      have hc := (hf' 0 (by omega)).1
      simpa [Addr.add] using World.cell?_spot hc
    subst hspot
    refine ⟨b, off, rfl, fun k o ho => ?_⟩
    have hk : k < len' := by
      have h1 := (List.getElem?_eq_some_iff.1 ho).1
      rw [hlen] at h1
      exact h1
    have ho' : o = f k := by
      rw [List.getElem?_map, List.getElem?_range hk] at ho
      simp at ho
      exact ho.symm
    subst ho'
    have h3 := hf' k hk
    rw [add_plain, add_plain, add_plain] at h3
    simpa [Nat.add_assoc] using h3
end Go.Proofs.Ytbhnpcmmcelecaa
namespace Go.Proofs.Ytbhnpcmmcelecaa
open Go.RowKit Go.Maps

section
set_option maxRecDepth 100000 in
set_option maxHeartbeats 1600000 in
theorem lives_bad (A0 : Option Addr) (n0 c0 : Nat) (bits size ask : Int) (W : World) (h : size < 1 ∨ sz bits / 2 < size) : Calls Try.prog 11 #[.int .i64 bits, .int .i64 size, .slice A0 n0 c0, .int .i64 ask] W fun e w' => e = .returned (.bool true) ∧ Below W.heap.size W w' := by
  have HN := Lib.hid (wnew_bad bits size W h)
  have HA := Lib.hid walive_any
  have HS := Lib.hid (fun W => q2size_any bits W)
  have hz := sz_bd bits
  generalize sz bits = N at *
  obtain ⟨hz1, hz2⟩ := hz
  by_cases h1 : size < 1
  · clear h
    by_cases h0 : N = 0
    · have h0b : (N == 0) = true := by simpa using h0
      clear h0
      go_enter Try.func11, Try.ntmps11
      go_wp2_with (first
        | (go_at_call 83; (with_reducible refine HN.out.mono ?_); rintro e w1 ⟨rfl, hb⟩; (have HB1 := Lib.hid hb; clear hb))
        | (go_at_call 84; (with_reducible refine (HS.out _).mono ?_); rintro e w2 ⟨rfl, rfl⟩)
        | (go_at_call 85; (with_reducible refine (HA.out _).mono ?_); rintro e w3 ⟨rfl, hb⟩; (have HB2 := Lib.hid (bl_step HB1.out hb); clear hb)))
      go_ret
      exact ⟨rfl, HB2.out⟩
    · have h0b : (N == 0) = false := by simpa using h0
      clear h0
      go_enter Try.func11, Try.ntmps11
      go_wp2_with (first
        | (go_at_call 83; (with_reducible refine HN.out.mono ?_); rintro e w1 ⟨rfl, hb⟩; (have HB1 := Lib.hid hb; clear hb))
        | (go_at_call 84; (with_reducible refine (HS.out _).mono ?_); rintro e w2 ⟨rfl, rfl⟩)
        | (go_at_call 85; (with_reducible refine (HA.out _).mono ?_); rintro e w3 ⟨rfl, hb⟩; (have HB2 := Lib.hid (bl_step HB1.out hb); clear hb)))
      go_ret
      exact ⟨rfl, HB2.out⟩
  · have h2 : N / 2 < size := by omega
    clear h
    by_cases h0 : N = 0
    · have h0b : (N == 0) = true := by simpa using h0
      clear h0
      go_enter Try.func11, Try.ntmps11
      go_wp2_with (first
        | (go_at_call 83; (with_reducible refine HN.out.mono ?_); rintro e w1 ⟨rfl, hb⟩; (have HB1 := Lib.hid hb; clear hb))
        | (go_at_call 84; (with_reducible refine (HS.out _).mono ?_); rintro e w2 ⟨rfl, rfl⟩)
        | (go_at_call 85; (with_reducible refine (HA.out _).mono ?_); rintro e w3 ⟨rfl, hb⟩; (have HB2 := Lib.hid (bl_step HB1.out hb); clear hb)))
      go_ret
      exact ⟨rfl, HB2.out⟩
    · have h0b : (N == 0) = false := by simpa using h0
      clear h0
      go_enter Try.func11, Try.ntmps11
      go_wp2_with (first
        | (go_at_call 83; (with_reducible refine HN.out.mono ?_); rintro e w1 ⟨rfl, hb⟩; (have HB1 := Lib.hid hb; clear hb))
        | (go_at_call 84; (with_reducible refine (HS.out _).mono ?_); rintro e w2 ⟨rfl, rfl⟩)
        | (go_at_call 85; (with_reducible refine (HA.out _).mono ?_); rintro e w3 ⟨rfl, hb⟩; (have HB2 := Lib.hid (bl_step HB1.out hb); clear hb)))
      go_ret
      exact ⟨rfl, HB2.out⟩
set_option maxRecDepth 100000 in
set_option maxHeartbeats 6400000 in
theorem lives_ok (A0 : Option Addr) (n0 c0 : Nat) (bits size ask : Int) (l0 : List (Int × (Int × Int))) (W : World) (hl0 : l0.length = n0) (hm0 : n0 ≤ 9223372036854775807) (hs0 : OSrc W A0 l0) (ht : rt bits = true) (h1 : 1 ≤ size) (h2 : size ≤ sz bits / 2) :
    Calls Try.prog 11 #[.int .i64 bits, .int .i64 size, .slice A0 n0 c0, .int .i64 ask] W fun e w' => e = .returned (.bool true) ∧ Below W.heap.size W w' := by
  have HN := Lib.hid (wnew_ok bits size W ht h1 h2)
  have HA := Lib.hid walive_any
  have HS := Lib.hid (fun W => q2size_any bits W)
  have HS0 := Lib.hid hs0
  have HL0 := Lib.hid hl0
  have hz := rt_pos ht
  have HRI := Lib.hid (fun (v : World) (y : Nat) (hr : Row v y 154 #[.int .i64 bits, .int .i64 size, .slice none 0 0]) => (⟨⟨none, 0, hr, World.ownsRow_nil _ _ _ _⟩, ht, h1, h2, by simp; omega, by simp, by simp⟩ : RefR v y W.heap.size bits size 0 []))
  have H0 := Lib.hid (show ((0 : Nat) : Int) % sz bits = 0 by simp)
  generalize hN0 : sz bits = N at *
  have HNS := Lib.hid hN0
  obtain ⟨hz1, hz2⟩ := hz
  have h0b : (N == 0) = false := by simp; omega
  clear hs0 hl0 hN0 ht
  go_enter Try.func11, Try.ntmps11
  go_wp2_with (first
    | (go_at_call 83; (with_reducible refine HN.out.mono ?_); rintro e w1 ⟨x, m, rfl, hw, hb, hx, hm⟩; (have HB1 := Lib.hid hb; have HW1 := Lib.hid hw; have HX := Lib.hid (And.intro hx hm); clear hw hb hx hm))
    | (go_at_call 84; (with_reducible refine (HS.out _).mono ?_); rintro e w2 ⟨rfl, rfl⟩))
  have HBY := Lib.hid (bl_alloc HB1.out (.cells #[.int .i64 bits, .int .i64 size, .slice none 0 0] 154))
  have HBO := Lib.hid (show Both (w1.alloc (.cells #[.int .i64 bits, .int .i64 size, .slice none 0 0] 154)) x m w1.heap.size W.heap.size bits size 0 [] from by
    refine ⟨?_, HRI.out _ _ (Row.made w1 _ _), HX.out, HB1.out.size, HBY.out.size⟩
    have := HW1.out.later (bl_alloc (Below.refl _ _) (.cells #[.int .i64 bits, .int .i64 size, .slice none 0 0] 154))
    rw [show ((0 : Nat) : Int) % sz bits = 0 by simp]
    exact this)
  generalize hY : w1.heap.size = y at *
  clear hY
  go_loopw [13] (fun s13 wr => ∃ (i a : Nat) (l : List Bool), i ≤ 60 ∧ i ≤ n0 ∧ s13 = .int .i64 i ∧ Hid (Both wr x m y W.heap.size bits size a l) ∧ Hid (a + l.length ≤ 40 * i) ∧ Hid (Below W.heap.size W wr)) (fun s13 _ => 60 - (intOf s13).toNat)
  case atStart => exact ⟨0, 0, [], by omega, by omega, rfl, HBO, Lib.hid (by simp), HBY⟩
  case round =>
    obtain ⟨i, a, l, hi, hin, rfl, HBr, HAr, HWr⟩ := hrel
    by_cases hlt : i < n0 ∧ i < 60
    · obtain ⟨hlt1, hlt2⟩ := hlt
      have hi1 : (i : Int) < n0 := by omega
      have hi2 : (i : Int) < 60 := by omega
      have hi0 : (0 : Int) ≤ i := by omega
      have HI := Lib.hid (And.intro hlt1 hlt2)
      obtain ⟨o, ho⟩ : ∃ o, l0[i]? = some o := ⟨_, List.getElem?_eq_getElem (by rw [HL0.out]; exact hlt1)⟩
      obtain ⟨bq, off, rfl, hq⟩ := HS0.out (by rw [HL0.out]; omega)
      obtain ⟨q0, q1, q2⟩ := hq i o ho
      have z0 := kept_box HWr.out q0
      have z1 := kept_box HWr.out q1
      have z2 := kept_box HWr.out q2
      obtain ⟨kd, nn, tm⟩ := o
      simp only at z0 z1 z2
      have HOB := Lib.hid (Row.made wr 156 #[.int .i64 kd, .int .i64 nn, .int .i64 tm])
      have HBo := Lib.hid (HBr.out.later (bl_alloc (Below.refl _ _) (.cells #[.int .i64 kd, .int .i64 nn, .int .i64 tm] 156)))
      have HWo := Lib.hid (bl_alloc HWr.out (.cells #[.int .i64 kd, .int .i64 nn, .int .i64 tm] 156))
      clear ho hq q0 q1 q2 hlt1 hlt2 hi hin
      go_wp2
      generalize hOO : wr.heap.size = oo at *
      clear hOO z0 z1 z2
      go_loopw [15] (fun s15 wx => ∃ (k a' : Nat) (l' : List Bool), k ≤ 40 ∧ s15 = .int .i64 k ∧ Hid (Both wx x m y W.heap.size bits size a' l') ∧ Hid (a' + l'.length ≤ 40 * i + k) ∧ Hid (Below W.heap.size W wx) ∧ Hid (Row wx oo 156 #[.int .i64 kd, .int .i64 nn, .int .i64 tm])) (fun s15 _ => 40 - (intOf s15).toNat)
      case atStart => exact ⟨0, a, l, by omega, rfl, HBo, Lib.hid (by have := HAr.out; omega), HWo, HOB⟩
      case round =>
        obtain ⟨k, a', l', hk, rfl, HBx, HAx, HWx, HOx⟩ := hrel
        have d0 := HOx.out.read (i := 0) (x := .int .i64 kd) rfl
        have d1 := HOx.out.read (i := 1) (x := .int .i64 nn) rfl
        have d2 := HOx.out.read (i := 2) (x := .int .i64 tm) rfl
        by_cases hkt : (k : Int) ≤ tm ∧ (k : Int) < 40
        · obtain ⟨hk1, hk2⟩ := hkt
          have HK := Lib.hid hk2
          rcases Classical.em (kd = 0) with hk0 | hk0
          · subst hk0
            obtain ⟨p, q, hbn⟩ := both_next HBx.out (by have := HAx.out; have := HI.out.2; omega)
            have HN1 := Lib.hid hbn
            clear hbn
            go_wp2_with (first
              | (go_at_call 86; (with_reducible refine HN1.out.mono ?_); rintro e w3 ⟨rfl, hkp, hc2⟩; (have HK3 := Lib.hid hkp; have HN2 := Lib.hid hc2; clear hkp hc2))
              | (go_at_call 87; (with_reducible refine HN2.out.mono ?_); rintro e w4 ⟨rfl, hkp, a4, l4, hb4, ha4⟩; (have HK4 := Lib.hid (HK3.out.trans hkp); have HB4 := Lib.hid hb4; have HA4 := Lib.hid (show a4 + l4.length ≤ 40 * i + (k + 1) by have := HAx.out; omega); have HW4 := Lib.hid (HWx.out.trans HK4.out.below); have HO4 := Lib.hid (HK4.out.rows _ _ _ HOx.out (by decide) (by decide) (by decide)); obtain ⟨p2, q2, he1, he2⟩ := both_ends hb4; have HE1 := Lib.hid he1; have HE2 := Lib.hid he2; clear hkp hb4 ha4 he1 he2))
              | (go_at_call 91; (with_reducible refine HE1.out.mono ?_); rintro e w5 ⟨rfl, hb⟩; (have HB5 := Lib.hid hb; clear hb))
              | (go_at_call 92; (with_reducible refine (HE2.out _ HB5.out).mono ?_); rintro e w6 ⟨rfl, hb⟩; (have HB6 := Lib.hid (bl_step HB5.out hb); clear hb)))
            go_roundw
            case rel => exact ⟨k + 1, a4, l4, by have := HK.out; omega, by go_num, Lib.hid (HB4.out.later HB6.out), HA4, Lib.hid (bl_step HW4.out HB6.out), Lib.hid (HO4.out.later HB6.out)⟩
            case measure => have := HK.out; simp [intOf]; omega
          · rcases Classical.em (kd = 1) with hk1e | hk1e
            · subst hk1e
              obtain ⟨q, hbn⟩ := both_ack (HBx.out.later (bl_drew (Below.refl _ _))) nn
              have HN1 := Lib.hid hbn
              have k0 : wr.drew.cell? ⟨oo, 1, none⟩ = some (.int .i64 nn) := HOx.out.drawn.read rfl
              have HOD := Lib.hid HOx.out.drawn
              have HWD := Lib.hid (bl_drew HWx.out)
              clear hbn hk0
              go_wp2
              go_region_held3 (fun w' => w'.cell? ⟨oo, 1, none⟩ = some (.int .i64 nn)) (first | assumption | exact k0 | exact HO3.out.read rfl | exact HO4.out.read rfl | go_keep)
                (first
                  | (go_at_call 88; (with_reducible refine HN1.out.mono ?_); rintro e w3 ⟨rfl, hkp, hc2⟩; (have HK3 := Lib.hid hkp; have HN2 := Lib.hid hc2; have HO3 := Lib.hid (hkp.rows _ _ _ HOD.out (by decide) (by decide) (by decide)); clear hkp hc2))
                  | (go_at_call 89; (with_reducible refine HN2.out.mono ?_); rintro e w4 ⟨rfl, hkp, a4, l4, hb4, ha4⟩; (have HK4 := Lib.hid (HK3.out.trans hkp); have HB4 := Lib.hid hb4; have HA4 := Lib.hid (show a4 + l4.length ≤ 40 * i + (k + 1) by have := HAx.out; omega); have HW4 := Lib.hid (HWD.out.trans HK4.out.below); have HO4 := Lib.hid (HK4.out.rows _ _ _ HOD.out (by decide) (by decide) (by decide)); obtain ⟨p2, q2, he1, he2⟩ := both_ends hb4; have HE1 := Lib.hid he1; have HE2 := Lib.hid he2; clear hkp hb4 ha4 he1 he2)))
              go_wp2_with (first
              | (go_at_call 91; (with_reducible refine HE1.out.mono ?_); rintro e w5 ⟨rfl, hb⟩; (have HB5 := Lib.hid hb; clear hb))
              | (go_at_call 92; (with_reducible refine (HE2.out _ HB5.out).mono ?_); rintro e w6 ⟨rfl, hb⟩; (have HB6 := Lib.hid (bl_step HB5.out hb); clear hb)))
              go_roundw
              case rel => exact ⟨k + 1, a4, l4, by have := HK.out; omega, by go_num, Lib.hid (HB4.out.later HB6.out), HA4, Lib.hid (bl_step HW4.out HB6.out), Lib.hid (HO4.out.later HB6.out)⟩
              case measure => have := HK.out; simp [intOf]; omega
            · rcases Classical.em (kd = 2) with hk2e | hk2e
              · subst hk2e
                have HN1 := Lib.hid (both_reset HBx.out)
                have HYB := Lib.hid HBx.out.hy
                have HWB := Lib.hid HBx.out.hB
                clear hk0 hk1e
                go_wp2_with (first
                  | (go_at_call 90; (with_reducible refine HN1.out.mono ?_); rintro e w3 ⟨rfl, hkp, hw3, A3, k3, c3, hr3⟩; (have HK3 := Lib.hid hkp; obtain ⟨hb4, hk4⟩ := both_anew hw3 hr3 HX.out HYB.out (Nat.le_trans HWB.out hkp.size); have HB4 := Lib.hid hb4; have HK4 := Lib.hid (hkp.trans hk4); have HA4 := Lib.hid (show 0 + ([] : List Bool).length ≤ 40 * i + (k + 1) by simp); have HW4 := Lib.hid (HWx.out.trans HK4.out.below); have HO4 := Lib.hid (HK4.out.rows _ _ _ HOx.out (by decide) (by decide) (by decide)); obtain ⟨p2, q2, he1, he2⟩ := both_ends hb4; have HE1 := Lib.hid he1; have HE2 := Lib.hid he2; have g2 := hr3.read (i := 2) (x := .slice A3 k3 c3) rfl; have f2 := hr3.free 2; clear hkp hw3 hr3 hb4 hk4 he1 he2))
                  | (go_at_call 91; (with_reducible refine HE1.out.mono ?_); rintro e w5 ⟨rfl, hb⟩; (have HB5 := Lib.hid hb; clear hb))
                  | (go_at_call 92; (with_reducible refine (HE2.out _ HB5.out).mono ?_); rintro e w6 ⟨rfl, hb⟩; (have HB6 := Lib.hid (bl_step HB5.out hb); clear hb)))
                go_roundw
                case rel => exact ⟨k + 1, 0, [], by have := HK.out; omega, by go_num, Lib.hid (HB4.out.later HB6.out), HA4, Lib.hid (bl_step HW4.out HB6.out), Lib.hid (HO4.out.later HB6.out)⟩
                case measure => have := HK.out; simp [intOf]; omega
              · have e0 : (kd == 0) = false := by simpa using hk0
                have e1 : (kd == 1) = false := by simpa using hk1e
                have e2 : (kd == 2) = false := by simpa using hk2e
                obtain ⟨p2, q2, he1, he2⟩ := both_ends HBx.out
                have HE1 := Lib.hid he1
                have HE2 := Lib.hid he2
                clear hk0 hk1e hk2e he1 he2
                go_wp2_with (first
                  | (go_at_call 91; (with_reducible refine HE1.out.mono ?_); rintro e w5 ⟨rfl, hb⟩; (have HB5 := Lib.hid hb; clear hb))
                  | (go_at_call 92; (with_reducible refine (HE2.out _ HB5.out).mono ?_); rintro e w6 ⟨rfl, hb⟩; (have HB6 := Lib.hid (bl_step HB5.out hb); clear hb)))
                go_roundw
                case rel => exact ⟨k + 1, a', l', by have := HK.out; omega, by go_num, Lib.hid (HBx.out.later HB6.out), Lib.hid (by have := HAx.out; omega), Lib.hid (bl_step HWx.out HB6.out), Lib.hid (HOx.out.later HB6.out)⟩
                case measure => have := HK.out; simp [intOf]; omega
        · have HST := Lib.hid (wstalled_any HBx.out.c)
          have HST2 := Lib.hid (fun v (hb : Below wr.heap.size wr v) => rstalled_any (HBx.out.r.later hb))
          have HAL := Lib.hid (fun v (hb : Below wr.heap.size wr v) => wall_any (HBx.out.c.later hb))
          have HAL2 := Lib.hid (fun v (hb : Below wr.heap.size wr v) => rall_any (HBx.out.r.later hb))
          have HOP := Lib.hid (fun v (hb : Below wr.heap.size wr v) => wopen_any (HBx.out.c.later hb) ask)
          have HOP2 := Lib.hid (fun v (hb : Below wr.heap.size wr v) => ropen_any (HBx.out.r.later hb) ask)
          have HFR := Lib.hid (fun v (hb : Below wr.heap.size wr v) => wfar_any (HBx.out.c.later hb) ask)
          have HFR2 := Lib.hid (fun v (hb : Below wr.heap.size wr v) => rfar_any2 (HBx.out.r.later hb) ask)
          have HLE := Lib.hid (show (opens (sz bits) ((a' : Int) % sz bits) l').length ≤ 40000 from by have q1 := opens_le (sz bits) ((a' : Int) % sz bits) l'; have q2 := HBx.out.c.hl; have q3 := HBx.out.c.hs2; have q4 := HBx.out.c.pos; omega)
          have HSM := Lib.hid (fun (A1 A2 : Option Addr) (B1 B2 c1 c2 : Nat) (v : World) => wsame_any (A1 := A1) (A2 := A2) (B1 := B1) (B2 := B2) c1 c2 (opens (sz bits) ((a' : Int) % sz bits) l') v rfl (by have := HLE.out; omega))
          generalize opens (sz bits) ((a' : Int) % sz bits) l' = OL at *
          generalize (okn bits ask && opb (sz bits) ((a' : Int) % sz bits) l' ask) = ob at *
          generalize farw bits ((a' : Int) % sz bits) ask = fb at *
          generalize decide ((l'.length : Int) = size) = sb at *
          generalize OL.length = ol at *
          rcases Classical.em ((k : Int) ≤ tm) with hc | hc
          all_goals
            first
              | (have hk1 : ¬ (k : Int) ≤ tm := (by omega))
              | (have hk1 : (k : Int) ≤ tm := (by omega); have hk2 : ¬ (k : Int) < 40 := (by omega))
            clear hkt hc
            go_wp2_with (first
              | (go_at_call 93; (with_reducible refine HST.out.mono ?_); rintro e w3 ⟨rfl, hb⟩; (have HB3 := Lib.hid hb; clear hb))
              | (go_at_call 94; (with_reducible refine (HST2.out _ HB3.out).mono ?_); rintro e w4 ⟨rfl, hb⟩; (have HB4 := Lib.hid (bl_step HB3.out hb); clear hb))
              | (go_at_call 96; (with_reducible refine (HAL.out _ HB4.out).mono ?_); rintro e w5 ⟨A5, rfl, hs5, hb⟩; (have HB5 := Lib.hid (bl_step HB4.out hb); have HS5 := Lib.hid hs5; clear hb hs5))
              | (go_at_call 97; (with_reducible refine (HAL2.out _ HB5.out).mono ?_); rintro e w6 ⟨A6, c6, rfl, hs6, hb⟩; (have HB6 := Lib.hid (bl_step HB5.out hb); have HS6 := Lib.hid hs6; have HS5b := Lib.hid (HS5.out.later hb); clear hb hs6))
              | (go_at_call 95; (with_reducible refine (HSM.out _ _ _ _ _ _ _ HS5b.out HS6.out).mono ?_); rintro e w7 ⟨rfl, hb⟩; (have HB7 := Lib.hid (bl_step HB6.out hb); clear hb))
              | (go_at_call 98; (with_reducible refine (HOP.out _ HB7.out).mono ?_); rintro e w8 ⟨rfl, hb⟩; (have HB8 := Lib.hid (bl_step HB7.out hb); clear hb))
              | (go_at_call 99; (with_reducible refine (HOP2.out _ HB8.out).mono ?_); rintro e w9 ⟨rfl, rfl⟩)
              | (go_at_call 100; (with_reducible refine (HFR.out _ HB8.out).mono ?_); rintro e w10 ⟨rfl, hb⟩; (have HB9 := Lib.hid (bl_step HB8.out hb); clear hb))
              | (go_at_call 101; (with_reducible refine (HFR2.out _ HB9.out).mono ?_); rintro e w11 ⟨rfl, hb⟩; (have HB10 := Lib.hid (bl_step HB9.out hb); clear hb)))
            go_roundw
            case rel => exact ⟨i + 1, a', l', by have := HI.out.2; omega, by have := HI.out.1; omega, by go_num, Lib.hid (HBx.out.later HB10.out), Lib.hid (by have := HAx.out; omega), Lib.hid (bl_step HWx.out HB10.out)⟩
            case measure => have := HI.out.2; simp [intOf]; omega
    · have HB3 := Lib.hid (bl_alloc (Below.refl wr.heap.size wr) (.cells ZW 169))
      have HZ3 := Lib.hid (Row.made wr 169 ZW)
      rcases Nat.lt_or_ge i n0 with hc | hc
      all_goals
        first
          | (have hi1 : (i : Int) < n0 := (by omega); have hi2 : ¬ (i : Int) < 60 := (by omega))
          | (have hi1 : ¬ (i : Int) < n0 := (by omega))
        clear hlt hc hi hin
        go_wp2_with (first
          | (go_at_call 90; (with_reducible refine (wn_reset _).mono ?_); rintro e w4 ⟨rfl, hb⟩; (have HB4 := Lib.hid (bl_step HB3.out hb); have HZ4 := Lib.hid (HZ3.out.later hb); clear hb))
          | (go_at_call 86; (with_reducible refine (wn_next _).mono ?_); rintro e w5 ⟨rfl, hb⟩; (have HB5 := Lib.hid (bl_step HB4.out hb); have HZ5 := Lib.hid (HZ4.out.later hb); clear hb))
          | (go_at_call 86; (with_reducible refine (wz_next HZ5.out).mono ?_); rintro e w6 ⟨rfl, hb⟩; (have HB6 := Lib.hid (bl_step HB5.out hb); have HZ6 := Lib.hid (HZ5.out.later hb); clear hb))
          | (go_at_call 91; (with_reducible refine (wz_ends HZ6.out).mono ?_); rintro e w7 ⟨rfl, hb⟩; (have HB7 := Lib.hid (bl_step HB6.out hb); have HZ7 := Lib.hid (HZ6.out.later hb); clear hb))
          | (go_at_call 85; (with_reducible refine (HA.out _).mono ?_); rintro e w8 ⟨rfl, hb⟩; (have HB8 := Lib.hid (bl_step HB7.out hb); have HZ8 := Lib.hid (HZ7.out.later hb); clear hb))
          | (go_at_call 88; (with_reducible refine (wn_ack 0 _).mono ?_); rintro e w9 ⟨rfl, hb⟩; (have HB9 := Lib.hid (bl_step HB8.out hb); have HZ9 := Lib.hid (HZ8.out.later hb); clear hb))
          | (go_at_call 88; (with_reducible refine (wz_ack HZ9.out 0).mono ?_); rintro e w10 ⟨rfl, hb⟩; (have HB10 := Lib.hid (bl_step HB9.out hb); have HZ10 := Lib.hid (HZ9.out.later hb); clear hb))
          | (go_at_call 98; (with_reducible refine (wn_open 0 _).mono ?_); rintro e w11 ⟨rfl, hb⟩; (have HB11 := Lib.hid (bl_step HB10.out hb); have HZ11 := Lib.hid (HZ10.out.later hb); clear hb))
          | (go_at_call 93; (with_reducible refine (wz_stalled HZ11.out).mono ?_); rintro e w12 ⟨rfl, hb⟩; (have HB12 := Lib.hid (bl_step HB11.out hb); have HZ12 := Lib.hid (HZ11.out.later hb); clear hb))
          | (go_at_call 100; (with_reducible refine (wn_far 0 _).mono ?_); rintro e w13 ⟨rfl, hb⟩; (have HB13 := Lib.hid (bl_step HB12.out hb); have HZ13 := Lib.hid (HZ12.out.later hb); clear hb))
          | (go_at_call 96; (with_reducible refine (wn_all _).mono ?_); rintro e w14 ⟨rfl, hb⟩; (have HB14 := Lib.hid (bl_step HB13.out hb); have HZ14 := Lib.hid (HZ13.out.later hb); clear hb)))
        go_ret
        exact ⟨rfl, bl_step HWr.out HB14.out⟩
theorem lives_every (A0 : Option Addr) (n0 c0 : Nat) (bits size ask : Int) (l0 : List (Int × (Int × Int))) (W : World) (hl0 : l0.length = n0) (hm0 : n0 ≤ 9223372036854775807) (hs0 : OSrc W A0 l0) :
    Calls Try.prog 11 #[.int .i64 bits, .int .i64 size, .slice A0 n0 c0, .int .i64 ask] W fun e w' => e = .returned (.bool true) ∧ Below W.heap.size W w' := by
  by_cases h : size < 1 ∨ sz bits / 2 < size
  · exact lives_bad A0 n0 c0 bits size ask W h
  · have ht : rt bits = true := by
      cases ht : rt bits
      · have := sz_zero ht
        omega
      · rfl
    exact lives_ok A0 n0 c0 bits size ask l0 W hl0 hm0 hs0 ht (by omega) (by omega)
end
end Go.Proofs.Ytbhnpcmmcelecaa
