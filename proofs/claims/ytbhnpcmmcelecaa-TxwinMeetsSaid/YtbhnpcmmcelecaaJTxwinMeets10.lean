/-
  How lists of numbers of 16 bits that a statement draws read. TxwinMeets: the walk. A law's row follows from its walk: the call returns true, and below the heap's old size the world is as it was; then every argument reads as it did.
-/
import Derived.Test.YtbhnpcmmcelecaaJTxwinMeets09
import Derived.Test.YtbhnpcmmcelecaaJTxwinMeets03
import Derived.Test.YtbhnpcmmcelecaaRows
import Derived.WalkKit
import Derived.ProofKit
import Derived.OpenShut
namespace Go.Proofs.Ytbhnpcmmcelecaa
open Go.ChangeShapes Go.WideShapes Go.ChangeAt Go.RowKit Go.Deep

theorem Try.cells140 : Try.prog.cellsOf 140 = 1 := by kernel_rfl
/-- numbers of 16 bits as values -/
def u16v (l : List Nat) : List Value := l.map fun b : Nat => .int .u16 b
theorem length_u16v (l : List Nat) : (u16v l).length = l.length := by simp [u16v]
theorem u16v_at {l : List Nat} {i b : Nat} (h : l[i]? = some b) : (u16v l)[i]? = some (.int .u16 b) := by simp [u16v, h]
theorem nums_src16 {W : World} {a : Addr} {cap len : Nat} {zs : List Int} (hl : len ≤ cap) (hz : zs.length = cap) (hc : ∀ j, j < cap → W.cell? (a.add j) = some (.int .u16 (zs.getD j 0))) (hw : ∀ n ∈ zs, (Lit.int .u16 n).wf = true) :
    ((zs.take len).map Int.toNat).length = len ∧ Src W (some a) (u16v ((zs.take len).map Int.toNat)) ∧ ∀ b ∈ (zs.take len).map Int.toNat, b < 65536 := by
  have hlen : ((zs.take len).map Int.toNat).length = len := by rw [List.length_map, List.length_take]; omega
  refine ⟨hlen, fun h0 => ⟨a, rfl, fun j u hu => ?_⟩, fun b hb => ?_⟩
  · have hj : j < len := by
      have h1 := (List.getElem?_eq_some_iff.1 hu).1
      rw [length_u16v, hlen] at h1
      exact h1
    have h2 := hc j (by omega)
    rw [h2]
    have hjz : j < zs.length := by omega
    have hww := bounds_u16 (hw zs[j] (List.getElem_mem hjz))
    have h3 : ((zs.take len).map Int.toNat)[j]? = some zs[j].toNat := by
      rw [List.getElem?_map, List.getElem?_take, if_pos hj, List.getElem?_eq_getElem hjz]
      rfl
    have h4 := u16v_at h3
    rw [h4] at hu
    injection hu with hu
    rw [← hu, List.getD_eq_getElem?_getD, List.getElem?_eq_getElem hjz]
    simp only [Option.getD_some]
    rw [Int.toNat_of_nonneg hww.1]
  · rw [List.mem_map] at hb
    obtain ⟨z, hz2, rfl⟩ := hb
    have hww := bounds_u16 (hw z (List.mem_of_mem_take hz2))
    omega
set_option maxRecDepth 100000 in
theorem u16s_arg {H : Type} {enc : TypeId × Value → H} {W : World} {base : Nat} {v : Value} {d : DataW H} {p : List MemPlace} (hok : Value.okWide Try.prog W .any base 136 v)
    (h : DataW.Trod enc Try.prog W 0 (fun _ => true) true 136 v d p) : ∃ (A : Option Addr) (cap : Nat) (l : List Nat), v = .slice A l.length cap ∧ l.length ≤ cap ∧ cap ≤ 9223372036854775807 ∧ Src W A (u16v l) ∧ ∀ b ∈ l, b < 65536 := by
  obtain ⟨a0, len, cap, rfl⟩ := okWide_slice Try.underlying136 hok
  obtain ⟨fuel, hf⟩ := h
  rcases open_ints Try.underlying136 Try.underlying140 Try.cells140 hf with ⟨hcs, _⟩ | ⟨a, len', cap', zs, hcs, _, hl, hm, hz, _, hcell, hwz⟩
  · simp only [Value.cells] at hcs
    have e : Value.slice a0 len cap = .slice none 0 0 := by simpa using hcs
    rw [e]
    exact ⟨none, 0, [], rfl, Nat.le_refl _, by omega, fun h0 => absurd h0 (by simp [u16v]), fun b hb => by cases hb⟩
  · have e : Value.slice a0 len cap = .slice (some a) len' cap' := by simpa [Value.cells] using hcs
    rw [e]
    have hz' : zs.length = cap' := by simpa using hz
    obtain ⟨h1, h2, h3⟩ := nums_src16 (W := W) (a := a) hl hz' (fun j hj => hcell j (by omega)) hwz
    exact ⟨some a, cap', _, by rw [h1], by omega, by unfold maxLen at hm; exact hm, h2, h3⟩
end Go.Proofs.Ytbhnpcmmcelecaa
namespace Go.Proofs.Ytbhnpcmmcelecaa
open Go.RowKit Go.Maps

theorem tx_cell {W w : World} {A : Option Addr} {xs : List Value} {j : Nat} {u : Value} (h : Src W A xs) (hb : Below W.heap.size W w) (hj : xs[j]? = some u) : ∃ ad, A = some ad ∧ w.cell? (ad.add j) = some u := by
  obtain ⟨ad, rfl, hc⟩ := h (by have := (List.getElem?_eq_some_iff.1 hj).1; omega)
  exact ⟨ad, rfl, cell_below hb (hc j u hj)⟩
theorem and63 : ∀ b : Nat, b < 256 → ∃ q : Nat, bits BinOp.and IntKind.u8 (b : Int) 63 = (q : Int) ∧ q ≤ 63 := by
  have h : ∀ b : Fin 256, ∃ q : Fin 64, bits BinOp.and IntKind.u8 ((b : Nat) : Int) 63 = ((q : Nat) : Int) := by decide +kernel
  intro b hb
  obtain ⟨q, hq⟩ := h ⟨b, hb⟩
  exact ⟨q, hq, by have := q.2; omega⟩
section
variable {w v : World} {x m B : Nat} {b size f n : Int} {l r : List Bool} {k : Nat}
theorem mt_next (h : WinR w x m b size f l) (hh : l.head? ≠ some true) : Calls Try.prog 86 #[.pointer (some ⟨x, 0, none⟩)] w fun e w' => ∃ (a er : Int) (l' : List Bool), e = .returned (.tuple #[.int .i64 a, .int .i64 er]) ∧ (er = 0 ∨ er = 11) ∧ WinR w' x m b size f l' ∧ l'.head? ≠ some true ∧ Only (XM x m) w w' := by
  by_cases hl : (l.length : Int) = size
  · refine (wnext_full h hl).mono ?_
    rintro e w' ⟨rfl, hb⟩
    exact ⟨_, _, l, rfl, .inr rfl, h.later hb, hh, .of_below hb⟩
  · refine (wnext_ok h (by have := h.hl; omega)).mono ?_
    rintro e w' ⟨rfl, hw, ho⟩
    refine ⟨_, _, _, rfl, .inl rfl, hw, ?_, ho⟩
    match l with
    | [] => simp
    | true :: _ => exact absurd rfl hh
    | false :: _ => simp
theorem mt_ack {i : Nat} (h : WinR w x m b size f l) (hv : (opens (sz b) f l)[i]? = some n) : Calls Try.prog 88 #[.pointer (some ⟨x, 0, none⟩), .int .i64 n] w fun e w' => e = .returned (.int .i64 0) ∧ WinR w' x m b size (nrm (sz b) f (l.set (ix (sz b) f n) true)).1 (nrm (sz b) f (l.set (ix (sz b) f n) true)).2 ∧ Only (XM x m) w w' := by
  obtain ⟨j, hj, rfl, hlj⟩ := opens_mem hv
  have h1 := h.hs2
  have h2 := h.hl
  have h3 := h.pos
  exact wack_ok h (okn_mod h.rt _) (opb_of (by rw [ix_at (by omega)]; exact hlj))
theorem mt_nil (h : WinR w x m b size f []) : (f + (([] : List Bool).length : Nat)) % sz b = f := by
  have := okn_true h.hf
  simp
  exact Int.emod_eq_of_lt this.1 this.2
theorem mt_first (h : WinR w x m b size f (false :: r)) : opens (sz b) f (false :: r) = f :: opens (sz b) ((f + 1) % sz b) r := by
  have := okn_true h.hf
  rw [opens_cons, Int.emod_eq_of_lt this.1 this.2]
  rfl
theorem mt_ne (h : WinR w x m b size f (false :: r)) : f ≠ (f + ((false :: r).length : Nat)) % sz b := by
  intro e
  have h0 := okn_true h.hf
  have h1 := (at_end h (k := 0) (by simp)).1 (by rw [← e]; simp; exact Int.emod_eq_of_lt h0.1 h0.2)
  simp at h1
theorem slat_xm {B : Nat} {A : Option Addr} {xs : List Value} (h : SlAt B 3 w A xs) (hw : WinR w x m b size f l) (ho : Only (XM x m) w v) : SlAt B 3 v A xs :=
  h.only ho (fun g cs hr _ hg => by
    rcases hg with rfl | rfl
    · exact Row.apart hr hw.row (by decide) rfl
    · exact hw.set.row_ne hr rfl)
theorem mt_len (h : WinR w x m b size f l) : ((opens (sz b) f l).length : Int) ≤ size ∧ (opens (sz b) f l).length ≤ 40000 := by
  have h1 := opens_le (sz b) f l
  have h2 := h.hl
  have h3 := h.hs2
  have h4 := h.pos
  omega
set_option maxRecDepth 100000 in
set_option maxHeartbeats 1600000 in
theorem meets_no1 (A0 A1 : Option Addr) (n0 c0 n1 c1 : Nat) (bits size : Int) (w : World) (h : rt bits = false) : Calls Try.prog 12 #[.int .i64 bits, .int .i64 size, .slice A0 n0 c0, .slice A1 n1 c1] w fun e w' => e = .returned (.bool true) ∧ Below w.heap.size w w' := by
  have HN := Lib.hid (wnew_bad bits size w (by rw [sz_zero h]; omega))
  have HA := Lib.hid walive_any
  have h1 := rt_false h
  clear h
  by_cases hb : bits < 1
  all_goals
    first | (have hb2 : 16 < bits := by omega) | skip
    clear h1
    go_enter Try.func12, Try.ntmps12
    go_wp2_with (first
      | (go_at_call 83; (with_reducible refine HN.out.mono ?_); rintro e w1 ⟨rfl, hb⟩; (have HB1 := Lib.hid hb; clear hb))
      | (go_at_call 85; (with_reducible refine (HA.out _).mono ?_); rintro e w2 ⟨rfl, hb⟩; (have HB2 := Lib.hid (bl_step HB1.out hb); clear hb)))
    go_ret
    exact ⟨rfl, HB2.out⟩
set_option maxRecDepth 100000 in
set_option maxHeartbeats 1600000 in
theorem meets_no2 (A0 A1 : Option Addr) (n0 c0 n1 c1 : Nat) (bits size : Int) (w : World) (ht : rt bits = true) (h : (size < 1 ∨ sz bits / 2 < size)) : Calls Try.prog 12 #[.int .i64 bits, .int .i64 size, .slice A0 n0 c0, .slice A1 n1 c1] w fun e w' => e = .returned (.bool true) ∧ Below w.heap.size w w' := by
  have HN := Lib.hid (wnew_bad bits size w h)
  have HA := Lib.hid walive_any
  obtain ⟨hb1, hb2⟩ := rt_true ht
  by_cases h1 : size < 1
  · clear h ht
    go_enter Try.func12, Try.ntmps12
    go_wp2_with (first
      | (go_at_call 83; (with_reducible refine HN.out.mono ?_); rintro e w1 ⟨rfl, hb⟩; (have HB1 := Lib.hid hb; clear hb))
      | (go_at_call 85; (with_reducible refine (HA.out _).mono ?_); rintro e w2 ⟨rfl, hb⟩; (have HB2 := Lib.hid (bl_step HB1.out hb); clear hb)))
    go_ret
    exact ⟨rfl, HB2.out⟩
  · have hs : wrap64 (2 ^ (bits.toNat - 1)) = sz bits / 2 := by
      obtain h | h | h | h | h | h | h | h | h | h | h | h | h | h | h | h : bits = 1 ∨ bits = 2 ∨ bits = 3 ∨ bits = 4 ∨ bits = 5 ∨ bits = 6 ∨ bits = 7 ∨ bits = 8 ∨ bits = 9 ∨ bits = 10 ∨ bits = 11 ∨ bits = 12 ∨ bits = 13 ∨ bits = 14 ∨ bits = 15 ∨ bits = 16 := by omega
      all_goals subst h; decide +kernel
    have h2 : sz bits / 2 < size := by omega
    generalize sz bits / 2 = hf at *
    clear h ht
    go_enter Try.func12, Try.ntmps12
    go_wp2_with (first
      | (go_at_call 83; (with_reducible refine HN.out.mono ?_); rintro e w1 ⟨rfl, hb⟩; (have HB1 := Lib.hid hb; clear hb))
      | (go_at_call 85; (with_reducible refine (HA.out _).mono ?_); rintro e w2 ⟨rfl, hb⟩; (have HB2 := Lib.hid (bl_step HB1.out hb); clear hb)))
    go_ret
    exact ⟨rfl, HB2.out⟩
set_option maxRecDepth 100000 in
set_option maxHeartbeats 6400000 in
theorem meets_ok (A0 A1 : Option Addr) (n0 c0 n1 c1 : Nat) (bits size : Int) (l0 l1 : List Nat) (W : World) (hl0 : l0.length = n0) (hl1 : l1.length = n1) (hm0 : n0 ≤ 9223372036854775807) (hm1 : n1 ≤ 9223372036854775807) (hs0 : Src W A0 (bts l0)) (hs1 : Src W A1 (u16v l1)) (hb0 : ∀ b ∈ l0, b < 256) (hb1 : ∀ b ∈ l1, b < 65536)
    (ht : rt bits = true) (h1 : 1 ≤ size) (h2 : size ≤ sz bits / 2) : Calls Try.prog 12 #[.int .i64 bits, .int .i64 size, .slice A0 n0 c0, .slice A1 n1 c1] W fun e w' => e = .returned (.bool true) ∧ Below W.heap.size W w' := by
  have HN := Lib.hid (wnew_ok bits size W ht h1 h2)
  have HA := Lib.hid walive_any
  have HS0 := Lib.hid hs0
  have HS1 := Lib.hid hs1
  have HL0 := Lib.hid hl0
  have HL1 := Lib.hid hl1
  have HV0 := Lib.hid hb0
  have HV1 := Lib.hid hb1
  clear hs0 hs1 hl0 hl1 hb0 hb1 ht h2
  go_enter Try.func12, Try.ntmps12
  go_wp2_with (go_at_call 83; (with_reducible refine HN.out.mono ?_); rintro e w1 ⟨x, m, rfl, hw, hb, hx, hm⟩; (have HB1 := Lib.hid hb; have HW1 := Lib.hid hw; have HX := Lib.hid (And.intro hx hm); clear hw hb hx hm))
  go_loopw [11] (fun s11 wr => ∃ (i : Nat) (f : Int) (l : List Bool), i ≤ 40 ∧ i ≤ n0 ∧ s11 = .int .i64 i ∧ Hid (WinR wr x m bits size f l) ∧ Hid (l.head? ≠ some true) ∧ Hid (Below W.heap.size W wr)) (fun s11 _ => 40 - (intOf s11).toNat)
  case atStart => exact ⟨0, 0, [], by omega, by omega, rfl, HW1, Lib.hid (by simp), HB1⟩
  case round =>
    obtain ⟨i, f, l, hi, hin, rfl, HWr, HHr, HBr⟩ := hrel
    by_cases hlt : i < n0 ∧ i < 40
    · obtain ⟨hlt1, hlt2⟩ := hlt
      have hi1 : (i : Int) < n0 := by omega
      have hi2 : (i : Int) < 40 := by omega
      have HI := Lib.hid (And.intro hlt1 hlt2)
      obtain ⟨u, hu⟩ : ∃ u, l0[i]? = some u := ⟨_, List.getElem?_eq_getElem (by rw [HL0.out]; exact hlt1)⟩
      obtain ⟨a0, rfl, _⟩ := tx_cell HS0.out HBr.out (bts_at hu)
      obtain ⟨q, hq, hq63⟩ := and63 u (HV0.out u (List.mem_of_getElem? hu))
      have HC0 := Lib.hid (fun wx (hb : Below W.heap.size W wx) => by obtain ⟨ad, e, hc⟩ := tx_cell HS0.out hb (bts_at hu); cases e; exact hc)
      have hi0 : (0 : Int) ≤ i := by omega
      clear hu hlt1 hlt2
      go_wp2
      go_loopw [12] (fun s12 wx => ∃ (k : Nat) (f : Int) (l : List Bool), k ≤ q ∧ s12 = .int .i64 k ∧ Hid (WinR wx x m bits size f l) ∧ Hid (l.head? ≠ some true) ∧ Hid (Below W.heap.size W wx)) (fun s12 _ => q - (intOf s12).toNat)
      case atStart => exact ⟨0, f, l, by omega, rfl, HWr, HHr, HBr⟩
      case round =>
        obtain ⟨k, f2, l2, hk, rfl, HWx, HHx, HBx⟩ := hrel
        have c0 := HC0.out wr HBx.out
        by_cases hkq : k < q
        · have hkqi : (k : Int) < q := by omega
          have HNX := Lib.hid (mt_next HWx.out HHx.out)
          go_wp2_with (go_at_call 86; (with_reducible refine HNX.out.mono ?_); rintro e w2 ⟨a2, er, l3, rfl, her, hw, hh, ho⟩; (have HW2 := Lib.hid hw; have HH2 := Lib.hid hh; have HB2 := Lib.hid (HBx.out.trans (ho.below HBx.out.size (XM_old HX.out))); have hee : ((er == 0) == (er == 11)) = false := (by rcases her with rfl | rfl <;> rfl); clear hw hh ho her))
          go_roundw
          case rel => exact ⟨k + 1, f2, l3, by omega, by go_num, HW2, HH2, HB2⟩
          case measure => simp [intOf]; omega
        · have hkqi : ¬ (k : Int) < q := by omega
          clear hk hkq
          have HEN := Lib.hid (fun wx (hb : Below wr.heap.size wr wx) => wends_any (HWx.out.later hb))
          have HAL := Lib.hid (wall_any HWx.out)
          have HLE := Lib.hid (mt_len HWx.out)
          match l2, HWx, HHx, HEN, HAL, HLE with
          | true :: r, _, hh, _, _, _ => exact absurd rfl hh.out
          | [], HWx, HHx, HEN, HAL, _ =>
            rw [mt_nil HWx.out] at HEN
            simp only [show opens (sz bits) f2 [] = [] from rfl, List.length_nil] at HAL
            go_wp2_with (first
              | (go_at_call 96; (with_reducible refine HAL.out.mono ?_); rintro e w3 ⟨A, rfl, _, hb⟩; (have HB3 := Lib.hid hb; clear hb))
              | (go_at_call 91; (with_reducible refine (HEN.out _ HB3.out).mono ?_); rintro e w4 ⟨rfl, hb⟩; (have HB4 := Lib.hid (bl_step HB3.out hb); clear hb)))
            go_roundw
            case rel => exact ⟨i + 1, f2, [], by have := HI.out.2; omega, by have := HI.out.1; omega, by go_num, Lib.hid (HWx.out.later HB4.out), HHx, Lib.hid (bl_step HBx.out HB4.out)⟩
            case measure => have := HI.out.2; simp [intOf]; omega
          | false :: r, HWx, HHx, HEN, HAL, HLE =>
            have HNE := Lib.hid (mt_ne HWx.out)
            generalize (f2 + ((false :: r).length : Nat)) % sz bits = nx at *
            have hne1 : (f2 != nx) = true := by have := HNE.out; simpa using this
            have hne2 : (f2 == nx) = false := by have := HNE.out; simpa using this
            have HF := Lib.hid (mt_first HWx.out)
            have HAC := Lib.hid (fun wx (hb : Below wr.heap.size wr wx) (n : Int) (t : Nat) (h : (opens (sz bits) f2 (false :: r))[t]? = some n) => mt_ack (HWx.out.later hb) h)
            generalize hK : (opens (sz bits) f2 (false :: r)).length = K at *
            have HK := Lib.hid hK
            have hK1 : (1 : Int) ≤ K := by rw [← hK, HF.out]; simp; omega
            obtain ⟨hKs, hK4⟩ := HLE.out
            have hK0 : ((K : Int) == 0) = false := (by have : (K : Int) ≠ 0 := (by omega); simpa using this)
            clear hK
            by_cases hord : i < n1
            · have hordi : (i : Int) < n1 := by omega
              obtain ⟨g1, hg1⟩ : ∃ g1, l1[i]? = some g1 := ⟨_, List.getElem?_eq_getElem (by rw [HL1.out]; exact hord)⟩
              obtain ⟨a1, rfl, _⟩ := tx_cell HS1.out HBr.out (u16v_at hg1)
              have HC1 := Lib.hid (fun wx (hb : Below W.heap.size W wx) => by obtain ⟨ad, e, hc⟩ := tx_cell HS1.out hb (u16v_at hg1); cases e; exact hc)
              have hgb := HV1.out g1 (List.mem_of_getElem? hg1)
              obtain ⟨t, ht, htk⟩ : ∃ t : Nat, (g1 : Int) % (K : Int) = (t : Int) ∧ t < K := ⟨g1 % K, by omega, Nat.mod_lt _ (by omega)⟩
              obtain ⟨n, hn⟩ : ∃ n, (opens (sz bits) f2 (false :: r))[t]? = some n := ⟨_, List.getElem?_eq_getElem (by rw [HK.out]; exact htk)⟩
              have HN2 := Lib.hid hn
              have HT1 := Lib.hid (show (ints (opens (sz bits) f2 (false :: r)))[t]? = some (.int .i64 n) by unfold ints; rw [List.getElem?_map, hn]; rfl)
              have HT0 := Lib.hid (show (ints (opens (sz bits) f2 (false :: r)))[0]? = some (.int .i64 f2) by unfold ints; rw [HF.out]; rfl)
              have htki : (t : Int) < K := by omega
              have ht0 : (0 : Int) ≤ t := by omega
              clear hn hg1 hord htk
              go_wp2_with (first
                | (go_at_call 96; (with_reducible refine HAL.out.mono ?_); rintro e w3 ⟨A, rfl, hsl, hb⟩; (have HB3 := Lib.hid hb; obtain ⟨gb, rfl, z0⟩ := hsl.cell HT0.out; have HSL := Lib.hid hsl; clear hb hsl))
                | (go_at_call 91; (with_reducible refine (HEN.out _ HB3.out).mono ?_); rintro e w4 ⟨rfl, hb⟩; (have HB4 := Lib.hid (bl_step HB3.out hb); have HSL4 := Lib.hid (HSL.out.later hb); clear z0; have z0 : w4.cell? ⟨gb, 0, none⟩ = some (.int .i64 f2) := (by obtain ⟨g', e, hc⟩ := HSL4.out.cell HT0.out; cases e; exact hc); have zt : w4.cell? ⟨gb, t, none⟩ = some (.int .i64 n) := (by obtain ⟨g', e, hc⟩ := HSL4.out.cell HT1.out; cases e; exact hc); have c1 := HC1.out w4 (bl_step HBx.out HB4.out); have HAK := Lib.hid (HAC.out w4 HB4.out n t HN2.out); clear hb))
                | (go_at_call 88; (with_reducible refine HAK.out.mono ?_); rintro e w5 ⟨rfl, hw, ho⟩; (have HW5 := Lib.hid hw; have HB5 := Lib.hid ((bl_step HBx.out HB4.out).trans (ho.below (bl_step HBx.out HB4.out).size (XM_old HX.out))); clear hw ho)))
              go_roundw
              case rel => exact ⟨i + 1, _, _, by have := HI.out.2; omega, by have := HI.out.1; omega, by go_num, HW5, Lib.hid (nrm_head _ _ _), HB5⟩
              case measure => have := HI.out.2; simp [intOf]; omega
            · have hordi : ¬ (i : Int) < n1 := by omega
              have HT0 := Lib.hid (show (ints (opens (sz bits) f2 (false :: r)))[0]? = some (.int .i64 f2) by unfold ints; rw [HF.out]; rfl)
              go_wp2_with (first
                | (go_at_call 96; (with_reducible refine HAL.out.mono ?_); rintro e w3 ⟨A, rfl, hsl, hb⟩; (have HB3 := Lib.hid hb; obtain ⟨gb, rfl, z0⟩ := hsl.cell HT0.out; have HSL := Lib.hid hsl; clear hb hsl))
                | (go_at_call 91; (with_reducible refine (HEN.out _ HB3.out).mono ?_); rintro e w4 ⟨rfl, hb⟩; (have HB4 := Lib.hid (bl_step HB3.out hb); have HSL4 := Lib.hid (HSL.out.later hb); clear z0; have z0 : w4.cell? ⟨gb, 0, none⟩ = some (.int .i64 f2) := (by obtain ⟨g', e, hc⟩ := HSL4.out.cell HT0.out; cases e; exact hc); clear hb)))
              go_roundw
              case rel => exact ⟨i + 1, f2, _, by have := HI.out.2; omega, by have := HI.out.1; omega, by go_num, Lib.hid (HWx.out.later HB4.out), HHx, Lib.hid (bl_step HBx.out HB4.out)⟩
              case measure => have := HI.out.2; simp [intOf]; omega
    · have HAL := Lib.hid (wall_any HWr.out)
      have HTA := Lib.hid (List.take_of_length_le (Nat.le_refl (opens (sz bits) f l).length))
      have HLN := Lib.hid (show (opens (sz bits) f l).length = (opens (sz bits) f l).length from rfl)
      have hK4 := (mt_len HWr.out).2
      have HOP := Lib.hid (show opens (sz bits) f l = opens (sz bits) f l from rfl)
      generalize hL : opens (sz bits) f l = L at HTA HAL
      generalize hK : L.length = K at *
      have HK := Lib.hid hK
      have HLO := Lib.hid hL
      rw [hL] at hK4 HLN
      rw [hK] at hK4
      clear hL hK HLN HOP
      rcases Nat.lt_or_ge i n0 with hcase | hcase
      all_goals
        first
          | (have hc1 : (i : Int) < n0 := (by omega); have hc2 : ¬ (i : Int) < 40 := (by omega))
          | (have hc1 : ¬ (i : Int) < n0 := (by omega))
        clear hlt hcase
        go_wp2_with (go_at_call 96; (with_reducible refine HAL.out.mono ?_); rintro e w3 ⟨A, rfl, hsl, hb⟩; (have HB3 := Lib.hid (bl_step HBr.out hb); have HW3 := Lib.hid (HWr.out.later hb); have HSL := Lib.hid hsl; clear hb hsl))
        go_loopw [19] (fun s19 wy => ∃ (c : Nat) (j f' : Int) (l' : List Bool), c ≤ K ∧ Hid (j = (c : Int) - 1) ∧ -1 ≤ j ∧ j ≤ 40000 ∧ s19 = .int .i64 j ∧ Hid (WinR wy x m bits size f' l') ∧ Hid (l'.head? ≠ some true) ∧ Hid (opens (sz bits) f' l' = L.take c) ∧ Hid (SlAt wr.heap.size 3 wy A (ints L)) ∧ Hid (Below W.heap.size W wy)) (fun s19 _ => (intOf s19 + 1).toNat)
        case atStart => exact ⟨K, (K : Int) - 1, f, l, by omega, Lib.hid rfl, by omega, by omega, by first | rfl | go_num, HW3, HHr, Lib.hid (by rw [HTA.out]; exact HLO.out), HSL, HB3⟩
        case round =>
          obtain ⟨c, j, f', l', hc, HJ, hj0, hj1, rfl, HWy, HHy, HOy, HSy, HBy⟩ := hrel
          rcases c with _ | c
          · have hjn : ¬ (0 : Int) ≤ j := by have := HJ.out; omega
            obtain rfl : l' = [] := opens_none (by have := HOy.out; rw [List.take_zero] at this; exact this) HHy.out
            have HEN := Lib.hid (wends_any HWy.out)
            rw [mt_nil HWy.out] at HEN
            have HAL2 := Lib.hid (fun W (hb : Below wr.heap.size wr W) => wall_any (HWy.out.later hb))
            simp only [show opens (sz bits) f' [] = [] from rfl, List.length_nil] at HAL2
            have HST := Lib.hid (fun W (hb : Below wr.heap.size wr W) => by have h9 := wstalled_any (HWy.out.later hb); rw [decide_eq_false (show ¬ ((([] : List Bool).length : Nat) : Int) = size by simp; omega)] at h9; exact h9)
            clear hc
            go_wp2_with (first
              | (go_at_call 91; (with_reducible refine HEN.out.mono ?_); rintro e w4 ⟨rfl, hb⟩; (have HB4 := Lib.hid hb; clear hb))
              | (go_at_call 85; (with_reducible refine (HA.out _).mono ?_); rintro e w5 ⟨rfl, hb⟩; (have HB5 := Lib.hid (bl_step HB4.out hb); clear hb))
              | (go_at_call 96; (with_reducible refine (HAL2.out _ HB5.out).mono ?_); rintro e w6 ⟨A2, rfl, _, hb⟩; (have HB6 := Lib.hid (bl_step HB5.out hb); clear hb))
              | (go_at_call 93; (with_reducible refine (HST.out _ HB6.out).mono ?_); rintro e w7 ⟨rfl, hb⟩; (have HB7 := Lib.hid (bl_step HB6.out hb); clear hb)))
            go_ret
            exact ⟨rfl, bl_step HBy.out HB7.out⟩
          · obtain rfl : j = (c : Int) := by have := HJ.out; omega
            have hci : (c : Int) < K := by omega
            have hc0 : (0 : Int) ≤ c := by omega
            obtain ⟨n, hn⟩ : ∃ n, L[c]? = some n := ⟨_, List.getElem?_eq_getElem (by rw [HK.out]; omega)⟩
            have HT1 := Lib.hid (show (ints L)[c]? = some (.int .i64 n) by unfold ints; rw [List.getElem?_map, hn]; rfl)
            have ho : opens (sz bits) f' l' = L.take c ++ [n] := by
              rw [HOy.out, List.take_add_one, hn]; rfl
            have HAK := Lib.hid (mt_ack (i := c) (n := n) HWy.out (by rw [ho, List.getElem?_append_right (by rw [List.length_take]; omega)]; rw [List.length_take, Nat.min_eq_left (by rw [HK.out]; omega)]; simp))
            have HNO := Lib.hid (show opens (sz bits) (nrm (sz bits) f' (l'.set (ix (sz bits) f' n) true)).1 (nrm (sz bits) f' (l'.set (ix (sz bits) f' n) true)).2 = L.take c by rw [opens_nrm]; exact opens_last ho (by have h7 := HWy.out.hl; have h8 := HWy.out.hs2; have h9 := HWy.out.pos; omega))
            have HSX := Lib.hid (fun v (hv : Only (XM x m) wr v) => slat_xm HSy.out HWy.out hv)
            obtain ⟨gb, rfl, zc⟩ := HSy.out.cell HT1.out
            clear hn ho
            go_wp2_with (go_at_call 88; (with_reducible refine HAK.out.mono ?_); rintro e w5 ⟨rfl, hw, ho⟩; (have HW5 := Lib.hid hw; have HS5 := Lib.hid (HSX.out _ ho); have HB5 := Lib.hid (HBy.out.trans (ho.below HBy.out.size (XM_old HX.out))); clear hw ho))
            go_roundw
            case rel => exact ⟨c, (c : Int) - 1, _, _, by omega, Lib.hid rfl, by omega, by omega, by go_num, HW5, Lib.hid (nrm_head _ _ _), HNO, HS5, HB5⟩
            case measure => simp [intOf]
theorem meets_every (A0 A1 : Option Addr) (n0 c0 n1 c1 : Nat) (bits size : Int) (l0 l1 : List Nat) (W : World) (hl0 : l0.length = n0) (hl1 : l1.length = n1) (hm0 : n0 ≤ 9223372036854775807) (hm1 : n1 ≤ 9223372036854775807) (hs0 : Src W A0 (bts l0)) (hs1 : Src W A1 (u16v l1)) (hb0 : ∀ b ∈ l0, b < 256) (hb1 : ∀ b ∈ l1, b < 65536) :
    Calls Try.prog 12 #[.int .i64 bits, .int .i64 size, .slice A0 n0 c0, .slice A1 n1 c1] W fun e w' => e = .returned (.bool true) ∧ Below W.heap.size W w' := by
  cases ht : rt bits
  · exact meets_no1 A0 A1 n0 c0 n1 c1 bits size W ht
  · by_cases h : size < 1 ∨ sz bits / 2 < size
    · exact meets_no2 A0 A1 n0 c0 n1 c1 bits size W ht h
    · exact meets_ok A0 A1 n0 c0 n1 c1 bits size l0 l1 W hl0 hl1 hm0 hm1 hs0 hs1 hb0 hb1 ht (by omega) (by omega)
end
end Go.Proofs.Ytbhnpcmmcelecaa
namespace Go.Proofs.Ytbhnpcmmcelecaa
open Go.ChangeShapes Go.WideShapes Go.ChangeAt Go.RowKit

theorem lawOwn : ownKnob Try.prog.godebug = none := by kernel_rfl
theorem lawLaid : laidOutB Try.prog = true := by kernel_rfl

section
variable {H : Type} {enc : TypeId × Value → H} {P : Program}
/-- what was read in the old world is read in the new one -/
theorem args_stay (hl : laidOutB P = true) {W W' : World} (hb : Below W.heap.size W W') : ∀ (ts : List TypeId) (vs : List Value) (ds : List (DataW H)) (ps : List MemPlace),
    (∀ t ∈ ts, P.readableRec t = true ∧ t < P.types.size) → DataW.TrodAll enc P W 0 (fun _ => true) true ts vs ds ps → (∀ x ∈ ps, x.block < W.heap.size) →
    DataW.TrodAll enc P W' 0 (fun b => decide (b < W.heap.size)) true ts vs ds ps := by
  intro ts
  induction ts with
  | nil =>
    intro vs ds ps _ h _
    obtain ⟨rfl, rfl, rfl⟩ := trodAll_nil h
    exact trodAll_mk0
  | cons t ts ih =>
    intro vs ds ps hr h hlt
    obtain ⟨v, vs', d, ds', p, q, rfl, rfl, rfl, h1, h2⟩ := trodAll_cons h
    have ht := hr t (List.mem_cons_self ..)
    exact trodAll_cons_mk (Below.trod hl ht.1 ht.2 h1 hb fun x hx => hlt x (List.mem_append_left _ hx))
      (ih vs' ds' q (fun u hu => hr u (List.mem_cons_of_mem _ hu)) h2 fun x hx => hlt x (List.mem_append_right _ hx))

theorem law_post {f : Func} {s : ChangeSpec} {W W' : World} {args : Array Value} {ds gs : List (DataW H)} {before : List MemPlace} {B : TypeId}
    (hl : laidOutB P = true) (hr : f.params.toList.all (fun t => P.readableRec t && decide (t < P.types.size)) = true) (hv : s.vars = [])
    (hW : DataW.Whole enc P f.params.toList s.vars false W args.toList ds gs before)
    (hs : s.fn H (ds ++ gs) = { results := [.lit (.bool true)], args := ds }) (ht : f.resultTypes = #[B]) (hB : P.underlying B = some .bool)
    (hb : Below W.heap.size W W') : s.post enc P f false true false false W args (.bool true) W' := by
  have hW' := hW
  obtain ⟨p, q, hA, hV, rfl, _, _⟩ := hW
  rw [hv] at hV
  obtain ⟨rfl, rfl⟩ := trodVars_none hV
  refine ⟨ds, [], p ++ [], [], p, [], hW', ?_, ?_, ?_, hb.frame _, fun h => by cases h⟩
  · rw [hs, ht]
    exact trodAll_mk1 (shut_bool hB true)
  · rw [hs]
    exact args_stay hl hb _ _ _ _ (fun t h => by have := List.all_eq_true.1 hr t h; simpa using this) hA fun x hx => hW'.lt x (List.mem_append_left _ hx)
  · rw [hs, hv]
    exact rfl
end
end Go.Proofs.Ytbhnpcmmcelecaa
