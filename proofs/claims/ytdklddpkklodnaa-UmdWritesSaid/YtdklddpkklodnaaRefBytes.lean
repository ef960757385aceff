/-
  The document's answer for bits as bytes.
-/
import Derived.Test.YtdklddpkklodnaaRefPut
import Derived.Shelf.Bytes.SlSmallAll
namespace Go.Proofs.Ytdklddpkklodnaa
open Go.RowKit

/-- where the elements of a slice of bits lie -/
def SrcB (w : World) (A : Option Addr) (xs : List Value) : Prop := 0 < xs.length → ∃ b off, A = some ⟨b, off, none⟩ ∧ ∀ j u, xs[j]? = some u → w.cell? ⟨b, off + j, none⟩ = some u
theorem SrcB.later {w v : World} {A : Option Addr} {xs : List Value} (h : SrcB w A xs) (hb : Below w.heap.size w v) : SrcB v A xs := by
  intro h0
  obtain ⟨b, off, hA, hc⟩ := h h0
  exact ⟨b, off, hA, fun j u hu => kept_box hb (hc j u hu)⟩
theorem OwnB.src {B : Nat} {w : World} {A : Option Addr} {n c : Nat} {bl : List Bool} (h : OwnB B w (.slice A n c) bl) : SrcB w A (bls bl) := by
  intro h0
  rw [length_bls] at h0
  obtain ⟨g, cap, e, _, _⟩ := h.1.form h0
  injection e with e1 e2 _
  subst e1
  refine ⟨g, 0, rfl, fun j u hu => ?_⟩
  have h1 := h.1.cells (g := g) rfl j u hu
  rw [add_zero_addr] at h1
  rw [Nat.zero_add]
  exact h1

theorem conv_own {w : World} {B : Nat} {x : Value} {n : Nat} {l : List Nat} (h : w.ownsRow B 5 1 x n (bts l)) (hb : ∀ b ∈ l, b < 256) :
    (convert 30 9 x).run Try.prog w = .ok (.string (strOf l)) w := by
  have hl : l.length = n := by
    have := h.1
    rw [length_bts, Nat.mul_one] at this
    exact this
  rcases h.2 with ⟨rfl, h0⟩ | ⟨g, cap, cur, rfl, _⟩
  · have e : l = [] := List.eq_nil_of_length_eq_zero (by omega)
    subst e
    exact run_convert_bytes_nil w 30 5 Try.underlying30 Try.underlying5 0 0 9 Try.underlying9
  · have hx := run_convert_bytes_back (P := Try.prog) w 30 9 5 ⟨g, 0, none⟩ cap (l.map UInt8.ofNat) Try.underlying30 Try.underlying5 Try.underlying9 (fun j hj => by
      have hj' : j < l.length := by simpa using hj
      have h1 : (bts l)[j]? = some (.int .u8 (l[j] : Nat)) := bts_at (List.getElem?_eq_getElem hj')
      rw [h.cells (g := g) rfl j _ h1, List.getElem_map]
      have h3 : (UInt8.ofNat l[j]).toNat = l[j] := UInt8.toNat_ofNat_of_lt' (hb _ (List.getElem_mem hj'))
      rw [h3])
    rw [List.length_map, hl] at hx
    exact hx

/-- the first bytes; the first bits of one -/
def packTo (bl : List Bool) (m : Nat) : List Nat := (List.range m).map (byteAt bl)
theorem packTo_succ (bl : List Bool) (m : Nat) : packTo bl (m + 1) = packTo bl m ++ [byteAt bl m] := by simp [packTo, List.range_succ]
def eightTo (bl : List Bool) (m k : Nat) : List Bool := (List.range k).map fun j => bl.getD (8 * m + j) false
theorem eightTo_succ (bl : List Bool) (m k : Nat) : val (eightTo bl m (k + 1)) = 2 * val (eightTo bl m k) + (bl.getD (8 * m + k) false).toNat := by
  unfold eightTo
  rw [List.range_succ, List.map_append, List.map_singleton, val_snoc]
theorem eightTo_lt (bl : List Bool) (m k : Nat) (h : k < 8) : val (eightTo bl m k) < 128 := by
  have h1 := val_lt (eightTo bl m k)
  have h2 : (eightTo bl m k).length = k := by simp [eightTo]
  rw [h2] at h1
  exact Nat.lt_of_lt_of_le h1 (Nat.le_trans (Nat.pow_le_pow_right (by omega) (show k ≤ 7 by omega)) (by decide))

set_option maxRecDepth 100000 in
set_option maxHeartbeats 3200000 in
theorem refbytes_any {w : World} {A : Option Addr} {bl : List Bool} (c : Nat) (hs : SrcB w A (bls bl)) (hn : bl.length ≤ 65536) :
    Calls Try.prog 52 #[.slice A bl.length c] w fun e w' => ∃ x', e = .returned x' ∧ w'.ownsRow w.heap.size 5 1 x' (packLen bl.length) (bts (pack bl)) ∧ Below w.heap.size w w' := by
  obtain ⟨i0, hi, hi0, hi1, hi2⟩ := info5_parts
  have HS := Lib.hid hs
  clear hs
  go_enter Try.func52, Try.ntmps52
  go_wp2
  go_loopw [3, 4] (fun o i wr => ∃ m : Nat, 8 * m < bl.length + 8 ∧ i = .int .i64 (8 * (m : Int)) ∧ wr.ownsRow w.heap.size 5 1 o m (bts (packTo bl m)) ∧ Below w.heap.size w wr) (fun _ i _ => bl.length + 8 - (intOf i).toNat)
  case atStart => exact ⟨0, by omega, rfl, World.ownsRow_nil _ _ _ _, Below.refl _ _⟩
  case round =>
    obtain ⟨m, hm, rfl, hown, hbr⟩ := hrel
    have HO := Lib.hid hown
    have HB := Lib.hid hbr
    clear hown hbr
    obtain ⟨w1, rfl⟩ : ∃ w1, w1 = wr := ⟨wr, rfl⟩
    by_cases hlt : 8 * m < bl.length
    · have hdec : 8 * (m : Int) < (bl.length : Int) := by omega
      go_wp2
      go_loopw [5, 6] (fun y i wq => ∃ k : Nat, k ≤ 8 ∧ y = .int .u8 ((val (eightTo bl m k) : Nat) : Int) ∧ i = .int .i64 k ∧ w1 = wq) (fun _ i _ => 8 - (intOf i).toNat)
      case atStart => exact ⟨0, by omega, rfl, rfl, rfl⟩
      case round =>
        obtain ⟨k, hk, rfl, rfl, rfl⟩ := hrel
        rcases Nat.lt_or_ge k 8 with hk8 | hk8
        · have hv := eightTo_lt bl m k hk8
          have hnx := eightTo_succ bl m k
          generalize val (eightTo bl m k) = q at *
          by_cases hin : 8 * m + k < bl.length
          · obtain ⟨b, off, rfl, hc⟩ := HS.out (by rw [length_bls]; omega)
            have hget : bl[8 * m + k]? = some bl[8 * m + k] := List.getElem?_eq_getElem hin
            rw [List.getD_eq_getElem?_getD, hget, Option.getD_some] at hnx
            have hcell := kept_box HB.out (hc _ _ (bls_at hget))
            generalize bl[8 * m + k] = bit at *
            have HN := Lib.hid hnx
            clear hnx hget hc
            cases bit
            · go_wp2
              go_roundw
              case rel => exact ⟨k + 1, by omega, by rw [HN.out]; go_num, by go_num, trivial⟩
              case measure => simp [intOf]; omega
            · go_wp2
              go_roundw
              case rel => exact ⟨k + 1, by omega, by rw [HN.out]; go_num, by go_num, trivial⟩
              case measure => simp [intOf]; omega
          · rw [List.getD_eq_getElem?_getD, List.getElem?_eq_none (by omega), Option.getD_none] at hnx
            have HN := Lib.hid hnx
            clear hnx
            go_wp2
            go_roundw
            case rel => exact ⟨k + 1, by omega, by rw [HN.out]; go_num, by go_num, trivial⟩
            case measure => simp [intOf]; omega
        · obtain rfl : k = 8 := by omega
          have hlt8 := byteAt_lt bl m
          rw [show val (eightTo bl m 8) = byteAt bl m from rfl]
          have hpk := Lib.hid (packTo_succ bl m)
          generalize byteAt bl m = q at *
          go_wp2_with (at_builtin; go_loud (refine wpList_append_lies _ rfl _ _ _ (by rfl) w.heap.size 5 i0 (.int .u8 0) 1 1 Try.underlying30 hi hi0 hi1 hi2 rfl (by omega) u3 m _ (by rfl) (HO.out.alloc _) ⟨w1.heap.size, 0, none⟩ 1 1 [.int .u8 q] (by rfl) (by rfl) (cell_one_new _ _ _) (fun u hu => by simp at hu; subst hu; rfl) (by omega) (by unfold maxLen; omega) (by omega) (by have := HB.out.size; simp; omega) (w1.heap.size + 1) (by simp) ?_))
          intro g cap w2 hown2 hgrow _ _
          have hb2 : Below w.heap.size w w2 := (HB.out.alloc HB.out.size _).grown hgrow (by have := HB.out.size; simp; omega) (fun r hr => (HO.out.lt r hr).1)
          have hown3 : w2.ownsRow w.heap.size 5 1 (.slice (some ⟨g, 0, none⟩) (m + 1) cap) (m + 1) (bts (packTo bl (m + 1))) := by rw [hpk.out, bts_append]; exact hown2
          have H2 := Lib.hid (And.intro hown3 hb2)
          clear hown2 hgrow hown3 hb2
          go_wp2
          go_roundw
          case rel => exact ⟨m + 1, by omega, by go_num, H2.out⟩
          case measure => simp [intOf]; omega
    · go_wp2
      go_ret
      refine ⟨_, rfl, ?_, HB.out⟩
      have hmp : packLen bl.length = m := by unfold packLen; omega
      rw [hmp]
      have hpp : pack bl = packTo bl m := by rw [← hmp]; rfl
      rw [hpp]
      exact HO.out
end Go.Proofs.Ytdklddpkklodnaa
