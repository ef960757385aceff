/-
  The document's answer for bits as bytes. The document's answer for what is got: bytes as bits, and the number of the next of them. The document's Write. Rows of bytes as they came in; how they are gone through. A text is pushed: whatever comes of it.
-/
import Derived.Test.YtbcjfdhphpckfaaJPlainLives08
import Derived.Shelf.Bytes.SlSmallAll
import Derived.StillTailTactics
import Derived.Test.YtbcjfdhphpckfaaJPlainLives04
import Derived.Test.YtbcjfdhphpckfaaJPlainLives03
namespace Go.Proofs.Ytbcjfdhphpckfaa
open Go.RowKit

/-- where the elements of a slice of bits lie -/
def SrcB (w : World) (A : Option Addr) (xs : List Value) : Prop := 0 < xs.length → ∃ b off, A = some ⟨b, off, none⟩ ∧ ∀ j u, xs[j]? = some u → w.cell? ⟨b, off + j, none⟩ = some u
theorem SrcB.later {w v : World} {A : Option Addr} {xs : List Value} (h : SrcB w A xs) (hb : Below w.heap.size w v) : SrcB v A xs := by
  intro h0
  obtain ⟨b, off, hA, hc⟩ := h h0
  exact ⟨b, off, hA, fun j u hu => kept_box hb (hc j u hu)⟩
theorem OwnB.src {B : Nat} {w : World} {A : Option Addr} {n c : Nat} {bl : List Bool} (h : OwnB B w (.slice A n c) bl) : SrcB w A (bls bl) := by
  intro h0
  rw [length_bls] at h0
  obtain ⟨g, cap, e, _, _⟩ := h.1.form h0
  injection e with e1 e2 _
  subst e1
  refine ⟨g, 0, rfl, fun j u hu => ?_⟩
  have h1 := h.1.cells (g := g) rfl j u hu
  rw [add_zero_addr] at h1
  rw [Nat.zero_add]
  exact h1

theorem conv_own {w : World} {B : Nat} {x : Value} {n : Nat} {l : List Nat} (h : w.ownsRow B 5 1 x n (bts l)) (hb : ∀ b ∈ l, b < 256) :
    (convert 34 9 x).run Try.prog w = .ok (.string (strOf l)) w := by
  have hl : l.length = n := by
    have := h.1
    rw [length_bts, Nat.mul_one] at this
    exact this
  rcases h.2 with ⟨rfl, h0⟩ | ⟨g, cap, cur, rfl, _⟩
  · have e : l = [] := List.eq_nil_of_length_eq_zero (by omega)
    subst e
    exact run_convert_bytes_nil w 34 5 Try.underlying34 Try.underlying5 0 0 9 Try.underlying9
  · have hx := run_convert_bytes_back (P := Try.prog) w 34 9 5 ⟨g, 0, none⟩ cap (l.map UInt8.ofNat) Try.underlying34 Try.underlying5 Try.underlying9 (fun j hj => by
      have hj' : j < l.length := by simpa using hj
      have h1 : (bts l)[j]? = some (.int .u8 (l[j] : Nat)) := bts_at (List.getElem?_eq_getElem hj')
      rw [h.cells (g := g) rfl j _ h1, List.getElem_map]
      have h3 : (UInt8.ofNat l[j]).toNat = l[j] := UInt8.toNat_ofNat_of_lt' (hb _ (List.getElem_mem hj'))
      rw [h3])
    rw [List.length_map, hl] at hx
    exact hx

/-- the first bytes; the first bits of one -/
def packTo (bl : List Bool) (m : Nat) : List Nat := (List.range m).map (byteAt bl)
theorem packTo_succ (bl : List Bool) (m : Nat) : packTo bl (m + 1) = packTo bl m ++ [byteAt bl m] := by simp [packTo, List.range_succ]
def eightTo (bl : List Bool) (m k : Nat) : List Bool := (List.range k).map fun j => bl.getD (8 * m + j) false
theorem eightTo_succ (bl : List Bool) (m k : Nat) : val (eightTo bl m (k + 1)) = 2 * val (eightTo bl m k) + (bl.getD (8 * m + k) false).toNat := by
  unfold eightTo
  rw [List.range_succ, List.map_append, List.map_singleton, val_snoc]
theorem eightTo_lt (bl : List Bool) (m k : Nat) (h : k < 8) : val (eightTo bl m k) < 128 := by
  have h1 := val_lt (eightTo bl m k)
  have h2 : (eightTo bl m k).length = k := by simp [eightTo]
  rw [h2] at h1
  exact Nat.lt_of_lt_of_le h1 (Nat.le_trans (Nat.pow_le_pow_right (by omega) (show k ≤ 7 by omega)) (by decide))

set_option maxRecDepth 100000 in
set_option maxHeartbeats 3200000 in
theorem refbytes_any {w : World} {A : Option Addr} {bl : List Bool} (c : Nat) (hs : SrcB w A (bls bl)) (hn : bl.length ≤ 65536) :
    Calls Try.prog 149 #[.slice A bl.length c] w fun e w' => ∃ x', e = .returned x' ∧ w'.ownsRow w.heap.size 5 1 x' (packLen bl.length) (bts (pack bl)) ∧ Below w.heap.size w w' := by
  obtain ⟨i0, hi, hi0, hi1, hi2⟩ := info5_parts
  have HS := Lib.hid hs
  clear hs
  go_enter Try.func149, Try.ntmps149
  go_wp2
  go_loopw [3, 4] (fun o i wr => ∃ m : Nat, 8 * m < bl.length + 8 ∧ i = .int .i64 (8 * (m : Int)) ∧ wr.ownsRow w.heap.size 5 1 o m (bts (packTo bl m)) ∧ Below w.heap.size w wr) (fun _ i _ => bl.length + 8 - (intOf i).toNat)
  case atStart => exact ⟨0, by omega, rfl, World.ownsRow_nil _ _ _ _, Below.refl _ _⟩
  case round =>
    obtain ⟨m, hm, rfl, hown, hbr⟩ := hrel
    have HO := Lib.hid hown
    have HB := Lib.hid hbr
    clear hown hbr
    obtain ⟨w1, rfl⟩ : ∃ w1, w1 = wr := ⟨wr, rfl⟩
    by_cases hlt : 8 * m < bl.length
    · have hdec : 8 * (m : Int) < (bl.length : Int) := by omega
      go_wp2
      go_loopw [5, 6] (fun y i wq => ∃ k : Nat, k ≤ 8 ∧ y = .int .u8 ((val (eightTo bl m k) : Nat) : Int) ∧ i = .int .i64 k ∧ w1 = wq) (fun _ i _ => 8 - (intOf i).toNat)
      case atStart => exact ⟨0, by omega, rfl, rfl, rfl⟩
      case round =>
        obtain ⟨k, hk, rfl, rfl, rfl⟩ := hrel
        rcases Nat.lt_or_ge k 8 with hk8 | hk8
        · have hv := eightTo_lt bl m k hk8
          have hnx := eightTo_succ bl m k
          generalize val (eightTo bl m k) = q at *
          by_cases hin : 8 * m + k < bl.length
          · obtain ⟨b, off, rfl, hc⟩ := HS.out (by rw [length_bls]; omega)
            have hget : bl[8 * m + k]? = some bl[8 * m + k] := List.getElem?_eq_getElem hin
            rw [List.getD_eq_getElem?_getD, hget, Option.getD_some] at hnx
            have hcell := kept_box HB.out (hc _ _ (bls_at hget))
            generalize bl[8 * m + k] = bit at *
            have HN := Lib.hid hnx
            clear hnx hget hc
            cases bit
            · go_wp2
              go_roundw
              case rel => exact ⟨k + 1, by omega, by rw [HN.out]; go_num, by go_num, trivial⟩
              case measure => simp [intOf]; omega
            · go_wp2
              go_roundw
              case rel => exact ⟨k + 1, by omega, by rw [HN.out]; go_num, by go_num, trivial⟩
              case measure => simp [intOf]; omega
          · rw [List.getD_eq_getElem?_getD, List.getElem?_eq_none (by omega), Option.getD_none] at hnx
            have HN := Lib.hid hnx
            clear hnx
            go_wp2
            go_roundw
            case rel => exact ⟨k + 1, by omega, by rw [HN.out]; go_num, by go_num, trivial⟩
            case measure => simp [intOf]; omega
        · obtain rfl : k = 8 := by omega
          have hlt8 := byteAt_lt bl m
          rw [show val (eightTo bl m 8) = byteAt bl m from rfl]
          have hpk := Lib.hid (packTo_succ bl m)
          generalize byteAt bl m = q at *
          go_wp2_with (at_builtin; go_loud (refine wpList_append_lies _ rfl _ _ _ (by rfl) w.heap.size 5 i0 (.int .u8 0) 1 1 Try.underlying34 hi hi0 hi1 hi2 rfl (by omega) u3 m _ (by rfl) (HO.out.alloc _) ⟨w1.heap.size, 0, none⟩ 1 1 [.int .u8 q] (by rfl) (by rfl) (cell_one_new _ _ _) (fun u hu => by simp at hu; subst hu; rfl) (by omega) (by unfold maxLen; omega) (by omega) (by have := HB.out.size; simp; omega) (w1.heap.size + 1) (by simp) ?_))
          intro g cap w2 hown2 hgrow _ _
          have hb2 : Below w.heap.size w w2 := (HB.out.alloc HB.out.size _).grown hgrow (by have := HB.out.size; simp; omega) (fun r hr => (HO.out.lt r hr).1)
          have hown3 : w2.ownsRow w.heap.size 5 1 (.slice (some ⟨g, 0, none⟩) (m + 1) cap) (m + 1) (bts (packTo bl (m + 1))) := by rw [hpk.out, bts_append]; exact hown2
          have H2 := Lib.hid (And.intro hown3 hb2)
          clear hown2 hgrow hown3 hb2
          go_wp2
          go_roundw
          case rel => exact ⟨m + 1, by omega, by go_num, H2.out⟩
          case measure => simp [intOf]; omega
    · go_wp2
      go_ret
      refine ⟨_, rfl, ?_, HB.out⟩
      have hmp : packLen bl.length = m := by unfold packLen; omega
      rw [hmp]
      have hpp : pack bl = packTo bl m := by rw [← hmp]; rfl
      rw [hpp]
      exact HO.out
end Go.Proofs.Ytbcjfdhphpckfaa
namespace Go.Proofs.Ytbcjfdhphpckfaa
open Go.RowKit

theorem bitsOf_take {bs : List Nat} {i : Nat} (h : i < bs.length) : bitsOf (bs.take (i + 1)) = bitsOf (bs.take i) ++ unval bs[i] 8 := by
  have h1 : ∀ a b, bitsOf (a ++ b) = bitsOf a ++ bitsOf b := fun a b => by simp [bitsOf]
  have h2 : ∀ b, bitsOf [b] = unval b 8 := fun b => by simp [bitsOf]
  rw [List.take_succ_eq_append_getElem h, h1, h2]
theorem unval_take {b k : Nat} (h : k < 8) : (unval b 8).take (k + 1) = (unval b 8).take k ++ [b / 2 ^ (7 - k) % 2 == 1] := by
  have hl : k < (unval b 8).length := by rw [length_unval]; exact h
  rw [List.take_succ_eq_append_getElem hl]
  have h1 := unval_at b 8 k h
  rw [List.getElem?_eq_getElem hl] at h1
  injection h1 with h1
  rw [h1]
theorem half_down {k : Nat} (h : k < 8) : 128 / 2 ^ k = 2 ^ (7 - k) ∧ 0 < 128 / 2 ^ k ∧ 128 / 2 ^ k ≤ 128 := by
  obtain rfl | rfl | rfl | rfl | rfl | rfl | rfl | rfl : k = 0 ∨ k = 1 ∨ k = 2 ∨ k = 3 ∨ k = 4 ∨ k = 5 ∨ k = 6 ∨ k = 7 := by omega
  all_goals decide
theorem div_bit (b p : Nat) : (((b : Int) / (p : Int)) % 2 == 1) = (b / p % 2 == 1) := by
  rw [Bool.eq_iff_iff, beq_iff_eq, beq_iff_eq, ← Int.natCast_ediv]
  omega

/-- one more bit behind a list of the call's own -/
theorem OwnB.more {B g cap : Nat} {w0 w w2 : World} {x : Value} {bl : List Bool} {bit : Bool} {o : Obj} (h : OwnB B w x bl) (hb : Below B w0 w) (hB : B ≤ w.heap.size) (hown : w2.ownsRow B 4 1 (.slice (some ⟨g, 0, none⟩) (bl.length + 1) cap) (bl.length + 1) (bls bl ++ [.bool bit]))
    (hgrow : (w.alloc o).grownBy w2 x.ownBlock) : OwnB B w2 (.slice (some ⟨g, 0, none⟩) (bl.length + 1) cap) (bl ++ [bit]) ∧ Below B w0 w2 := by
  refine ⟨⟨?_, fun h => by simp at h⟩, (hb.alloc hB _).grown hgrow (by simp; omega) (fun r hr => (h.1.lt r hr).1)⟩
  rw [List.length_append, bls_append]
  exact hown

theorem bitAt_get {bs : List Nat} {i : Nat} (h : i < 8 * bs.length) : (bitsOf bs)[i]? = some (bitAt bs i) := by
  have hl : i < (bitsOf bs).length := by rw [length_bitsOf]; exact h
  unfold bitAt
  rw [List.getD_eq_getElem?_getD, List.getElem?_eq_getElem hl]
  rfl

end Go.Proofs.Ytbcjfdhphpckfaa
namespace Go.Proofs.Ytbcjfdhphpckfaa
open Go.RowKit

theorem own_down {B B' : Nat} {e : TypeId} {size n : Nat} {w : World} {x : Value} {xs : List Value} (h : w.ownsRow B e size x n xs) (hb : B' ≤ B) : w.ownsRow B' e size x n xs := by
  refine ⟨h.1, ?_⟩
  rcases h.2 with h0 | ⟨g, cap, cur, rfl, h1, h2⟩
  · exact .inl h0
  · exact .inr ⟨g, cap, cur, rfl, Nat.le_trans hb h1, h2⟩

set_option maxRecDepth 100000 in
set_option maxHeartbeats 3200000 in
theorem refwrite_11 {A : Option Addr} {l : List Int} (n cap : Nat) (w : World) (hn : l.length = n) (hm : n ≤ maxLen) (hs : Src w A (ins l)) :
    Calls Try.prog 207 #[.slice A n cap, .int .i64 11] w fun e w' => ((faultF l 11 = 0 ∧ ∃ x, e = .returned (.tuple #[x, .int .i64 0]) ∧ w'.ownsRow w.heap.size 5 1 x (packLen (n * (11 + 1))) (bts (pack (wbl 11 (l.map Int.toNat))))) ∨ (faultF l 11 ≠ 0 ∧ e = .returned (.tuple #[.slice none 0 0, .int .i64 (faultF l 11)]))) ∧ Below w.heap.size w w' := by
  obtain ⟨i0, hi, hi0, hi1, hi2⟩ := info_parts Try.info4
  have HS := Lib.hid hs
  have HN := Lib.hid hn
  unfold maxLen at hm
  clear hs hn
  rcases Nat.eq_zero_or_pos n with h0 | h0
  · have HF := Lib.hid (show faultF l 11 = 4 by unfold faultF; rw [HN.out, if_pos h0])
    subst h0
    go_enter Try.func207, Try.ntmps207
    go_wp2
    exact bodyPost_ret (v := .tuple #[.slice none 0 0, .int .i64 4]) (by simp [results, Try.results207, go_sem]) rfl ⟨.inr (by rw [HF.out]; exact ⟨by decide, rfl⟩), Below.refl _ _⟩
  · have hz : ((n : Int) == 0) = false := by simp; omega
    rcases Nat.lt_or_ge 23 n with h1 | h1
    · have HF := Lib.hid (show faultF l 11 = 2 by unfold faultF; rw [HN.out, if_neg (by omega), if_pos h1])
      have h1' : (23 : Int) < (n : Int) := by omega
      go_enter Try.func207, Try.ntmps207
      go_wp2
      exact bodyPost_ret (v := .tuple #[.slice none 0 0, .int .i64 2]) (by simp [results, Try.results207, go_sem]) rfl ⟨.inr (by rw [HF.out]; exact ⟨by decide, rfl⟩), Below.refl _ _⟩
    · have h1' : ¬ (23 : Int) < (n : Int) := by omega
      have HF := Lib.hid (show faultF l 11 = if l.all (mayL 11) then 0 else 1 by unfold faultF; rw [HN.out, if_neg (by omega), if_neg (by omega)])
      have HWB := Lib.hid (wbk_all 11 (l.map Int.toNat))
      rw [List.length_map, HN.out] at HWB
      have HTP := Lib.hid (fun W => (show Calls Try.prog 247 #[.int .i64 11] W fun e w' => e = .returned (.int .i64 2048) ∧ W = w' from top_ok 11 (by omega) W))
      go_enter Try.func207, Try.ntmps207
      go_wp2
      go_loopw [6, 7] (fun o i wr => ∃ k : Nat, k ≤ n ∧ i = .int .i64 k ∧ Hid ((l.take k).all (mayL 11) = true) ∧ Hid (OwnB w.heap.size wr o (wbk 11 (l.map Int.toNat) k)) ∧ Hid (Below w.heap.size w wr)) (fun _ i _ => n - (intOf i).toNat)
      case atStart => exact ⟨0, by omega, rfl, Lib.hid rfl, Lib.hid (OwnB.nil _ _), Lib.hid (Below.refl _ _)⟩
      case round =>
        obtain ⟨k, hk, rfl, HK, HO, HB⟩ := hrel
        obtain ⟨A6, c6, rfl⟩ := HO.out.form
        have hbl : (wbk 11 (l.map Int.toNat) k).length ≤ 400 := by
          rw [length_wbk]
          have := Nat.mul_le_mul_right (11 + 1) hk
          omega
        by_cases hlt : k < n
        · have hkl : k < l.length := by have := HN.out; omega
          have hx : l[k]? = some l[k] := List.getElem?_eq_getElem hkl
          obtain ⟨ad, rfl, hc⟩ := HS.out (by rw [length_ins]; omega)
          have hcell0 := hc _ _ (ins_at hx)
          have hcell := cell_below HB.out hcell0
          have htk : (l.take (k + 1)).all (mayL 11) = mayL 11 l[k] := by
            rw [List.take_succ_eq_append_getElem hkl, List.all_append, HK.out]
            simp
          have hall : mayL 11 l[k] = false → l.all (mayL 11) = false := fun h => by
            rw [← Bool.not_eq_true, List.all_eq_true]
            intro hh
            rw [hh l[k] (List.getElem_mem hkl)] at h
            cases h
          have HX := Lib.hid (show wbk 11 (l.map Int.toNat) (k + 1) = (wbk 11 (l.map Int.toNat) k ++ [decide (k + 1 < n)]) ++ unval l[k].toNat 11 by
            rw [wbk, List.getD_eq_getElem?_getD, List.getElem?_map, hx, List.length_map, HN.out]
            simp)
          generalize l[k] = x at *
          have HT := Lib.hid htk
          have HA := Lib.hid hall
          have hlt2 : (k : Int) < (n : Int) := by omega
          have hk0 : (0 : Int) ≤ (k : Int) := by omega
          have HC0 := Lib.hid hcell0
          clear hc hx htk hall hcell0
          by_cases h2 : x < 1
          · have HE := Lib.hid (HA.out (by unfold mayL; rw [decide_eq_false (by omega)]; rfl))
            have h2d : decide (x < 1) = true := decide_eq_true h2
            go_wp2_with fail
            go_quiet (fail)
            go_wp2_with fail
            exact bodyPost_ret (v := .tuple #[.slice none 0 0, .int .i64 1]) (by simp [results, Try.results207, go_sem]) rfl ⟨.inr (by rw [HF.out, HE.out]; exact ⟨by decide, rfl⟩), below_drewN HB.out _⟩
          · have h2d : decide (x < 1) = false := decide_eq_false h2
            by_cases h3 : 2048 ≤ x
            · have HE := Lib.hid (HA.out (by unfold mayL; rw [decide_eq_false (show ¬ x < 2 ^ 11 by simp only [show (2 : Int) ^ 11 = 2048 from rfl]; omega)]; simp))
              go_wp2_with fail
              refine wp_region_still_lit (by kernel_rfl) (by kernel_rfl) ?_
              change wpStill _ _ wr.drew (fun b => _) _ _
              have d0 : wr.drew.cell? (ad.add k) = some (.int .i64 x) := hcell
              clear hcell
              generalize wr.drew = w9 at d0 ⊢
              repeat still_step
              still_call ((HTP.out w9).mono fun _ _ h => ⟨h.1, h.2.symm⟩)
              repeat still_step
              refine wpStill_nil ?_
              go_wp2_with fail
              exact bodyPost_ret (v := .tuple #[.slice none 0 0, .int .i64 1]) (by simp [results, Try.results207, go_sem]) rfl ⟨.inr (by rw [HF.out, HE.out]; exact ⟨by decide, rfl⟩), bl_drew HB.out⟩
            · obtain ⟨y, rfl⟩ : ∃ y : Nat, x = y := ⟨x.toNat, by omega⟩
              have HE := Lib.hid (show mayL 11 (y : Int) = true by unfold mayL; rw [decide_eq_true (show (1 : Int) ≤ y by omega), decide_eq_true (show (y : Int) < 2 ^ 11 by simp only [show (2 : Int) ^ 11 = 2048 from rfl]; omega)]; rfl)
              have h3d : decide ((2048 : Int) ≤ (y : Int)) = false := decide_eq_false (by omega)
              have HY15 := Lib.hid (show y < 2048 by omega)
              clear h3
              have hcellD : wr.drew.cell? (ad.add k) = some (.int .i64 y) := hcell
              have hyw : IntKind.u64.wrap (y : Int) = (y : Int) := by rw [IntKind.wrap_u64]; have := HY15.out; omega
              have HOD := Lib.hid (show OwnB w.heap.size wr.drew (.slice A6 (wbk 11 (l.map Int.toNat) k).length c6) (wbk 11 (l.map Int.toNat) k) from HO.out.later (bl_drew (Below.refl _ _)))
              have HBD := Lib.hid (bl_drew HB.out)
              rw [Int.toNat_natCast] at HX
              generalize hbits : wbk 11 (l.map Int.toNat) k = bits at *
              have hbd : decide ((k : Int) + 1 < (n : Int)) = decide (k + 1 < n) := by
                apply decide_eq_decide.2
                omega
              have HBD2 := Lib.hid hbd
              clear hbd hbits
              go_wp2_with fail
              refine wp_region_still_lit (by kernel_rfl) (by kernel_rfl) ?_
              change wpStill _ _ wr.drew (fun b => _) _ _
              have d0 : wr.drew.cell? (ad.add k) = some (.int .i64 y) := hcell
              clear hcell
              generalize wr.drew = w9 at d0 ⊢
              repeat still_step
              still_call ((HTP.out w9).mono fun _ _ h => ⟨h.1, h.2.symm⟩)
              repeat still_step
              refine wpStill_nil ?_
              go_wp2_with (at_builtin; go_loud (refine wpList_append_lies _ rfl _ _ _ (by rfl) w.heap.size 4 i0 (.bool false) 1 1 Try.underlying31 hi hi0 hi1 hi2 rfl (by omega) (.slice A6 bits.length c6) bits.length _ (by rfl) (HOD.out.1.alloc _) ⟨wr.drew.heap.size, 0, none⟩ 1 1 [.bool (decide ((k : Int) + 1 < (n : Int)))] (by rfl) (by rfl) (cell_one_new _ _ _) (fun u hu => by simp at hu; subst hu; rfl) (by omega) (by unfold maxLen; omega) (by omega) (by have := HBD.out.size; simp at this ⊢; omega) (wr.drew.heap.size + 1) (by simp) ?_))
              intro g cap2 w2 hown2 hgrow _ _
              have H2 := Lib.hid (OwnB.more HOD.out HBD.out HBD.out.size hown2 hgrow)
              have hc2 := cell_below H2.out.2 HC0.out
              have HK2 := Lib.hid (show (l.take (k + 1)).all (mayL 11) = true by rw [HT.out, HE.out])
              rw [HBD2.out] at H2
              generalize decide (k + 1 < n) = nx at *
              have HPU := Lib.hid (show Calls Try.prog 147 #[.slice (some ⟨g, 0, none⟩) (bits.length + 1) cap2, .int .u64 y, .int .i64 11] w2 fun e w' => ∃ x', e = .returned (.tuple #[x', .int .i64 0]) ∧ OwnB w2.heap.size w' x' ((bits ++ [nx]) ++ unval y 11) ∧ Below w2.heap.size w2 w' from refput_ok y 11 H2.out.1 (by omega) (Nat.lt_of_lt_of_le HY15.out (by decide)) (by simp; omega) (by have := HY15.out; omega))
              clear hown2 hgrow
              go_wp2_with (go_at_call 147; refine HPU.out.mono ?_; rintro e w3 ⟨x3, rfl, ho3, hb3⟩; have HO3 := Lib.hid ho3; have HB3 := Lib.hid (H2.out.2.trans (hb3.mono H2.out.2.size)); clear ho3 hb3)
              go_roundw
              case rel => exact ⟨k + 1, by omega, by go_num, HK2, Lib.hid (by rw [HX.out]; exact ⟨own_down HO3.out.1 (H2.out.2.size), HO3.out.2⟩), HB3⟩
              case measure => simp [intOf]; omega
        · obtain rfl : k = n := by omega
          have HK2 := Lib.hid (show l.all (mayL 11) = true by have := HK.out; rwa [← HN.out, List.take_length] at this)
          have HBL := Lib.hid (length_wbk 11 (l.map Int.toNat) k)
          rw [HWB.out] at HO HBL hbl ⊢
          generalize hbits : wbl 11 (l.map Int.toNat) = bits at *
          have HBI := Lib.hid hbits
          have HBY := Lib.hid (refbytes_any c6 HO.out.src (by omega))
          clear hbits hbl hlt hk
          go_wp2_with (go_at_call 149; refine HBY.out.mono ?_; rintro e w6 ⟨x6, rfl, ho6, hb6⟩; have HO6 := Lib.hid ho6; have HB6 := Lib.hid hb6; clear ho6 hb6)
          refine bodyPost_ret (v := .tuple #[x6, .int .i64 0]) (by simp [results, Try.results207, go_sem]) rfl ⟨.inl ⟨by rw [HF.out, HK2.out]; rfl, x6, rfl, ?_⟩, bl_step' HB.out (HB6.out.mono HB.out.size)⟩
          have h9 := HO6.out
          rw [HBL.out, ← HBI.out] at h9
          exact own_down h9 HB.out.size

set_option maxRecDepth 100000 in
set_option maxHeartbeats 3200000 in
theorem refwrite_15 {A : Option Addr} {l : List Int} (n cap : Nat) (w : World) (hn : l.length = n) (hm : n ≤ maxLen) (hs : Src w A (ins l)) :
    Calls Try.prog 207 #[.slice A n cap, .int .i64 15] w fun e w' => ((faultF l 15 = 0 ∧ ∃ x, e = .returned (.tuple #[x, .int .i64 0]) ∧ w'.ownsRow w.heap.size 5 1 x (packLen (n * (15 + 1))) (bts (pack (wbl 15 (l.map Int.toNat))))) ∨ (faultF l 15 ≠ 0 ∧ e = .returned (.tuple #[.slice none 0 0, .int .i64 (faultF l 15)]))) ∧ Below w.heap.size w w' := by
  obtain ⟨i0, hi, hi0, hi1, hi2⟩ := info_parts Try.info4
  have HS := Lib.hid hs
  have HN := Lib.hid hn
  unfold maxLen at hm
  clear hs hn
  rcases Nat.eq_zero_or_pos n with h0 | h0
  · have HF := Lib.hid (show faultF l 15 = 4 by unfold faultF; rw [HN.out, if_pos h0])
    subst h0
    go_enter Try.func207, Try.ntmps207
    go_wp2
    exact bodyPost_ret (v := .tuple #[.slice none 0 0, .int .i64 4]) (by simp [results, Try.results207, go_sem]) rfl ⟨.inr (by rw [HF.out]; exact ⟨by decide, rfl⟩), Below.refl _ _⟩
  · have hz : ((n : Int) == 0) = false := by simp; omega
    rcases Nat.lt_or_ge 23 n with h1 | h1
    · have HF := Lib.hid (show faultF l 15 = 2 by unfold faultF; rw [HN.out, if_neg (by omega), if_pos h1])
      have h1' : (23 : Int) < (n : Int) := by omega
      go_enter Try.func207, Try.ntmps207
      go_wp2
      exact bodyPost_ret (v := .tuple #[.slice none 0 0, .int .i64 2]) (by simp [results, Try.results207, go_sem]) rfl ⟨.inr (by rw [HF.out]; exact ⟨by decide, rfl⟩), Below.refl _ _⟩
    · have h1' : ¬ (23 : Int) < (n : Int) := by omega
      have HF := Lib.hid (show faultF l 15 = if l.all (mayL 15) then 0 else 1 by unfold faultF; rw [HN.out, if_neg (by omega), if_neg (by omega)])
      have HWB := Lib.hid (wbk_all 15 (l.map Int.toNat))
      rw [List.length_map, HN.out] at HWB
      have HTP := Lib.hid (fun W => (show Calls Try.prog 247 #[.int .i64 15] W fun e w' => e = .returned (.int .i64 32768) ∧ W = w' from top_ok 15 (by omega) W))
      go_enter Try.func207, Try.ntmps207
      go_wp2
      go_loopw [6, 7] (fun o i wr => ∃ k : Nat, k ≤ n ∧ i = .int .i64 k ∧ Hid ((l.take k).all (mayL 15) = true) ∧ Hid (OwnB w.heap.size wr o (wbk 15 (l.map Int.toNat) k)) ∧ Hid (Below w.heap.size w wr)) (fun _ i _ => n - (intOf i).toNat)
      case atStart => exact ⟨0, by omega, rfl, Lib.hid rfl, Lib.hid (OwnB.nil _ _), Lib.hid (Below.refl _ _)⟩
      case round =>
        obtain ⟨k, hk, rfl, HK, HO, HB⟩ := hrel
        obtain ⟨A6, c6, rfl⟩ := HO.out.form
        have hbl : (wbk 15 (l.map Int.toNat) k).length ≤ 400 := by
          rw [length_wbk]
          have := Nat.mul_le_mul_right (15 + 1) hk
          omega
        by_cases hlt : k < n
        · have hkl : k < l.length := by have := HN.out; omega
          have hx : l[k]? = some l[k] := List.getElem?_eq_getElem hkl
          obtain ⟨ad, rfl, hc⟩ := HS.out (by rw [length_ins]; omega)
          have hcell0 := hc _ _ (ins_at hx)
          have hcell := cell_below HB.out hcell0
          have htk : (l.take (k + 1)).all (mayL 15) = mayL 15 l[k] := by
            rw [List.take_succ_eq_append_getElem hkl, List.all_append, HK.out]
            simp
          have hall : mayL 15 l[k] = false → l.all (mayL 15) = false := fun h => by
            rw [← Bool.not_eq_true, List.all_eq_true]
            intro hh
            rw [hh l[k] (List.getElem_mem hkl)] at h
            cases h
          have HX := Lib.hid (show wbk 15 (l.map Int.toNat) (k + 1) = (wbk 15 (l.map Int.toNat) k ++ [decide (k + 1 < n)]) ++ unval l[k].toNat 15 by
            rw [wbk, List.getD_eq_getElem?_getD, List.getElem?_map, hx, List.length_map, HN.out]
            simp)
          generalize l[k] = x at *
          have HT := Lib.hid htk
          have HA := Lib.hid hall
          have hlt2 : (k : Int) < (n : Int) := by omega
          have hk0 : (0 : Int) ≤ (k : Int) := by omega
          have HC0 := Lib.hid hcell0
          clear hc hx htk hall hcell0
          by_cases h2 : x < 1
          · have HE := Lib.hid (HA.out (by unfold mayL; rw [decide_eq_false (by omega)]; rfl))
            have h2d : decide (x < 1) = true := decide_eq_true h2
            go_wp2_with fail
            go_quiet (fail)
            go_wp2_with fail
            exact bodyPost_ret (v := .tuple #[.slice none 0 0, .int .i64 1]) (by simp [results, Try.results207, go_sem]) rfl ⟨.inr (by rw [HF.out, HE.out]; exact ⟨by decide, rfl⟩), below_drewN HB.out _⟩
          · have h2d : decide (x < 1) = false := decide_eq_false h2
            by_cases h3 : 32768 ≤ x
            · have HE := Lib.hid (HA.out (by unfold mayL; rw [decide_eq_false (show ¬ x < 2 ^ 15 by simp only [show (2 : Int) ^ 15 = 32768 from rfl]; omega)]; simp))
              go_wp2_with fail
              refine wp_region_still_lit (by kernel_rfl) (by kernel_rfl) ?_
              change wpStill _ _ wr.drew (fun b => _) _ _
              have d0 : wr.drew.cell? (ad.add k) = some (.int .i64 x) := hcell
              clear hcell
              generalize wr.drew = w9 at d0 ⊢
              repeat still_step
              still_call ((HTP.out w9).mono fun _ _ h => ⟨h.1, h.2.symm⟩)
              repeat still_step
              refine wpStill_nil ?_
              go_wp2_with fail
              exact bodyPost_ret (v := .tuple #[.slice none 0 0, .int .i64 1]) (by simp [results, Try.results207, go_sem]) rfl ⟨.inr (by rw [HF.out, HE.out]; exact ⟨by decide, rfl⟩), bl_drew HB.out⟩
            · obtain ⟨y, rfl⟩ : ∃ y : Nat, x = y := ⟨x.toNat, by omega⟩
              have HE := Lib.hid (show mayL 15 (y : Int) = true by unfold mayL; rw [decide_eq_true (show (1 : Int) ≤ y by omega), decide_eq_true (show (y : Int) < 2 ^ 15 by simp only [show (2 : Int) ^ 15 = 32768 from rfl]; omega)]; rfl)
              have h3d : decide ((32768 : Int) ≤ (y : Int)) = false := decide_eq_false (by omega)
              have HY15 := Lib.hid (show y < 32768 by omega)
              clear h3
              have hcellD : wr.drew.cell? (ad.add k) = some (.int .i64 y) := hcell
              have hyw : IntKind.u64.wrap (y : Int) = (y : Int) := by rw [IntKind.wrap_u64]; have := HY15.out; omega
              have HOD := Lib.hid (show OwnB w.heap.size wr.drew (.slice A6 (wbk 15 (l.map Int.toNat) k).length c6) (wbk 15 (l.map Int.toNat) k) from HO.out.later (bl_drew (Below.refl _ _)))
              have HBD := Lib.hid (bl_drew HB.out)
              rw [Int.toNat_natCast] at HX
              generalize hbits : wbk 15 (l.map Int.toNat) k = bits at *
              have hbd : decide ((k : Int) + 1 < (n : Int)) = decide (k + 1 < n) := by
                apply decide_eq_decide.2
                omega
              have HBD2 := Lib.hid hbd
              clear hbd hbits
              go_wp2_with fail
              refine wp_region_still_lit (by kernel_rfl) (by kernel_rfl) ?_
              change wpStill _ _ wr.drew (fun b => _) _ _
              have d0 : wr.drew.cell? (ad.add k) = some (.int .i64 y) := hcell
              clear hcell
              generalize wr.drew = w9 at d0 ⊢
              repeat still_step
              still_call ((HTP.out w9).mono fun _ _ h => ⟨h.1, h.2.symm⟩)
              repeat still_step
              refine wpStill_nil ?_
              go_wp2_with (at_builtin; go_loud (refine wpList_append_lies _ rfl _ _ _ (by rfl) w.heap.size 4 i0 (.bool false) 1 1 Try.underlying31 hi hi0 hi1 hi2 rfl (by omega) (.slice A6 bits.length c6) bits.length _ (by rfl) (HOD.out.1.alloc _) ⟨wr.drew.heap.size, 0, none⟩ 1 1 [.bool (decide ((k : Int) + 1 < (n : Int)))] (by rfl) (by rfl) (cell_one_new _ _ _) (fun u hu => by simp at hu; subst hu; rfl) (by omega) (by unfold maxLen; omega) (by omega) (by have := HBD.out.size; simp at this ⊢; omega) (wr.drew.heap.size + 1) (by simp) ?_))
              intro g cap2 w2 hown2 hgrow _ _
              have H2 := Lib.hid (OwnB.more HOD.out HBD.out HBD.out.size hown2 hgrow)
              have hc2 := cell_below H2.out.2 HC0.out
              have HK2 := Lib.hid (show (l.take (k + 1)).all (mayL 15) = true by rw [HT.out, HE.out])
              rw [HBD2.out] at H2
              generalize decide (k + 1 < n) = nx at *
              have HPU := Lib.hid (show Calls Try.prog 147 #[.slice (some ⟨g, 0, none⟩) (bits.length + 1) cap2, .int .u64 y, .int .i64 15] w2 fun e w' => ∃ x', e = .returned (.tuple #[x', .int .i64 0]) ∧ OwnB w2.heap.size w' x' ((bits ++ [nx]) ++ unval y 15) ∧ Below w2.heap.size w2 w' from refput_ok y 15 H2.out.1 (by omega) (Nat.lt_of_lt_of_le HY15.out (by decide)) (by simp; omega) (by have := HY15.out; omega))
              clear hown2 hgrow
              go_wp2_with (go_at_call 147; refine HPU.out.mono ?_; rintro e w3 ⟨x3, rfl, ho3, hb3⟩; have HO3 := Lib.hid ho3; have HB3 := Lib.hid (H2.out.2.trans (hb3.mono H2.out.2.size)); clear ho3 hb3)
              go_roundw
              case rel => exact ⟨k + 1, by omega, by go_num, HK2, Lib.hid (by rw [HX.out]; exact ⟨own_down HO3.out.1 (H2.out.2.size), HO3.out.2⟩), HB3⟩
              case measure => simp [intOf]; omega
        · obtain rfl : k = n := by omega
          have HK2 := Lib.hid (show l.all (mayL 15) = true by have := HK.out; rwa [← HN.out, List.take_length] at this)
          have HBL := Lib.hid (length_wbk 15 (l.map Int.toNat) k)
          rw [HWB.out] at HO HBL hbl ⊢
          generalize hbits : wbl 15 (l.map Int.toNat) = bits at *
          have HBI := Lib.hid hbits
          have HBY := Lib.hid (refbytes_any c6 HO.out.src (by omega))
          clear hbits hbl hlt hk
          go_wp2_with (go_at_call 149; refine HBY.out.mono ?_; rintro e w6 ⟨x6, rfl, ho6, hb6⟩; have HO6 := Lib.hid ho6; have HB6 := Lib.hid hb6; clear ho6 hb6)
          refine bodyPost_ret (v := .tuple #[x6, .int .i64 0]) (by simp [results, Try.results207, go_sem]) rfl ⟨.inl ⟨by rw [HF.out, HK2.out]; rfl, x6, rfl, ?_⟩, bl_step' HB.out (HB6.out.mono HB.out.size)⟩
          have h9 := HO6.out
          rw [HBL.out, ← HBI.out] at h9
          exact own_down h9 HB.out.size

set_option maxHeartbeats 400000 in
theorem refwrite_kind (v : Value) {x : Int} (w : World) (h : okW x = false) :
    Calls Try.prog 207 #[v, .int .i64 x] w fun e w' => e = .returned (.tuple #[.slice none 0 0, .int .i64 9]) ∧ w = w' := by
  obtain ⟨h1, h2⟩ := okW_not h
  have h3 : (x != 11) = true := by simpa using h1
  have h4 : (x != 15) = true := by simpa using h2
  clear h h1 h2
  go_enter Try.func207, Try.ntmps207
  go_wp2
  exact bodyPost_ret (v := .tuple #[.slice none 0 0, .int .i64 9]) (by simp [results, Try.results207, go_sem]) rfl ⟨rfl, rfl⟩
end Go.Proofs.Ytbcjfdhphpckfaa
namespace Go.Proofs.Ytbcjfdhphpckfaa
open Go.RowKit


/-- bytes that lie in a row of rows -/
structure RowB where
  A : Option Addr
  cap : Nat
  bs : List Nat
def RowB.ok (W : World) (r : RowB) : Prop := Src W r.A (bts r.bs) ∧ r.bs.length ≤ r.cap ∧ r.cap ≤ 9223372036854775807 ∧ ∀ b ∈ r.bs, b < 256
def RowB.v (r : RowB) : Value := .slice r.A r.bs.length r.cap
def RSrc (W : World) (A : Option Addr) (L : List RowB) : Prop :=
  0 < L.length → ∃ ad, A = some ad ∧ ∀ k r, L[k]? = some r → W.cell? (ad.add k) = some r.v ∧ r.ok W
def lens (L : List RowB) : List Nat := L.map fun r => r.bs.length
def texts (L : List RowB) : List (List Nat) := L.map fun r => r.bs
theorem length_lens (L : List RowB) : (lens L).length = L.length := by simp [lens]
theorem lens_at {L : List RowB} {k : Nat} {r : RowB} (h : L[k]? = some r) : (lens L)[k]? = some r.bs.length := by simp [lens, h]
theorem src_later {w v : World} {A : Option Addr} {xs : List Value} (h : Src w A xs) (hb : Below w.heap.size w v) : Src v A xs := by
  intro h0
  obtain ⟨ad, rfl, hc⟩ := h h0
  exact ⟨ad, rfl, fun j u hu => cell_below hb (hc j u hu)⟩
theorem RowB.ok.later {w v : World} {r : RowB} (h : r.ok w) (hb : Below w.heap.size w v) : r.ok v := ⟨src_later h.1 hb, h.2⟩
theorem RSrc.later {w v : World} {A : Option Addr} {L : List RowB} (h : RSrc w A L) (hb : Below w.heap.size w v) : RSrc v A L := by
  intro h0
  obtain ⟨ad, hA, hc⟩ := h h0
  exact ⟨ad, hA, fun k r hr => ⟨cell_below hb (hc k r hr).1, (hc k r hr).2.later hb⟩⟩
theorem RSrc.take {w : World} {A : Option Addr} {L : List RowB} (h : RSrc w A L) (n : Nat) : RSrc w A (L.take n) := by
  intro h0
  obtain ⟨ad, hA, hc⟩ := h (by rw [List.length_take] at h0; omega)
  refine ⟨ad, hA, fun k r hr => hc k r ?_⟩
  rw [List.getElem?_take] at hr
  split at hr
  · exact hr
  · cases hr

theorem enters {f : FuncId} {fn : Func} {c : Code} (hf : Try.prog.funcs[f]? = some fn) (hname : (fn.name == "runtime.NumGoroutine") = false) (hb : fn.body = some c) (args : Array Value) (w : World) :
    (callFunc f args).run Try.prog w = .ok (.enter f args) w := by
  have h1 : fn.name ≠ "runtime.NumGoroutine" := by simpa using hname
  simp [callFunc, hf, h1, hb]
theorem addr_zero (ad : Addr) : ad.add 0 = ad := by simp [Addr.add]

set_option maxRecDepth 100000 in
set_option maxHeartbeats 1600000 in
theorem each_any {K : Nat} {caps : Array Value} {A : Option Addr} {L : List RowB} (n cap : Nat) (hcf : ∀ (args : Array Value) (w : World), (callFunc K args).run Try.prog w = .ok (.enter K args) w) (Inv : Nat → World → Prop) (Stop : World → Prop) (w : World) (hL : L.length = n) (hn : n ≤ 9223372036854775807) (h0 : Inv 0 w)
    (hsrc : ∀ k W, Inv k W → RSrc W A L)
    (hstep : ∀ k W r, L[k]? = some r → Inv k W → Calls Try.prog K (#[.int .i64 k, .slice r.A r.bs.length r.cap] ++ caps) W fun e W' => (e = .returned (.bool true) ∧ Inv (k + 1) W') ∨ (e = .returned (.bool false) ∧ Stop W')) :
    Calls Try.prog 214 #[.slice A n cap, .func (.func K) #[] caps] w fun e w' => (e = .returned (.bool true) ∧ Inv n w') ∨ (e = .returned (.bool false) ∧ Stop w') := by
  have HR := Lib.hid hsrc
  have HS := Lib.hid hstep
  have H0 := Lib.hid h0
  have HL := Lib.hid hL
  clear hsrc hstep h0 hL
  go_enter Try.func214, Try.ntmps214
  go_wp2
  refine wp_scope_jumps 0 (fun a' w' => ∃ k : Nat, k ≤ n ∧ Fr [some (.slice A n cap), some (.func (.func K) #[] caps), none, none, some (.bool false), some (.int .i64 k), none, none, none, none, none, none, none, none, none, none, none, none, none, none] a' ∧ Inv k w') (fun a' _ => n - (intOf (a'.tmps.getD 5 undef)).toNat) rfl ?_ ?_
  · rcases Nat.eq_zero_or_pos n with hk0 | hk0
    · subst hk0
      go_wp2
      go_step3
      go_wp2
      simp only [Exit.jump]
      go_ret
      exact .inl ⟨rfl, H0.out⟩
    · obtain ⟨ad, rfl, hcell⟩ := HR.out 0 w H0.out (by rw [HL.out]; exact hk0)
      obtain ⟨r, hy⟩ : ∃ r, L[0]? = some r := ⟨_, List.getElem?_eq_getElem (by rw [HL.out]; exact hk0)⟩
      have c0 : w.cell? ad = some (.slice r.A r.bs.length r.cap) := by have h9 := (hcell 0 r hy).1; rw [addr_zero] at h9; exact h9
      have HC := Lib.hid (HS.out 0 w r hy H0.out)
      have hk0i : (0 : Int) < (n : Int) := by omega
      clear hcell hy
      skip
      all_goals
        go_wp2
        go_step3
        go_wp2_with fail
        refine (HC.out).mono ?_
        rintro e w1 (⟨rfl, hi⟩ | ⟨rfl, hs⟩)
        · go_wp2_with fail
          go_step3
          refine ⟨rfl, 1, by omega, ?_, hi⟩
          simp only [Fr, Holes]
          repeat apply Exists.intro
          rfl
        · go_wp2_with fail
          simp only [Exit.jump]
          go_ret
          exact .inr ⟨rfl, hs⟩
  · rintro a' w' ⟨k, hk, hfr, hinv⟩
    simp only [Fr, Holes] at hfr
    repeat (obtain ⟨_, hfr⟩ := hfr)
    rcases Nat.lt_or_ge k n with hlt | hge
    · obtain ⟨ad, rfl, hcell⟩ := HR.out k w' hinv (by rw [HL.out]; omega)
      obtain ⟨r, hy⟩ : ∃ r, L[k]? = some r := ⟨_, List.getElem?_eq_getElem (by rw [HL.out]; exact hlt)⟩
      have c0 : w'.cell? (ad.add k) = some (.slice r.A r.bs.length r.cap) := (hcell k r hy).1
      have HC := Lib.hid (HS.out k w' r hy hinv)
      have HI := Lib.hid hinv
      clear hcell hy hinv
      skip
      all_goals
        go_wp2_with fail
        refine (HC.out).mono ?_
        rintro e w1 (⟨rfl, hi⟩ | ⟨rfl, hs⟩)
        · go_wp2_with fail
          go_step3
          refine ⟨rfl, ⟨k + 1, by omega, ?_, hi⟩, ?_⟩
          · simp only [Fr, Holes]
            repeat apply Exists.intro
            rfl
          · simp [intOf]
            omega
        · go_wp2_with fail
          simp only [Exit.jump]
          go_ret
          exact .inr ⟨rfl, hs⟩
    · obtain rfl : k = n := by omega
      go_wp2
      simp only [Exit.jump]
      go_ret
      exact .inl ⟨rfl, hinv⟩
end Go.Proofs.Ytbcjfdhphpckfaa
namespace Go.Proofs.Ytbcjfdhphpckfaa
open Go.RowKit

theorem src_qsrc {W : World} {A : Option Addr} {l : List Nat} (h : Src W A (bts l)) : QSrcB W A (qbts l) := by
  intro h0
  obtain ⟨ad, rfl, hc⟩ := h h0
  obtain ⟨b, off, spot⟩ := ad
  have hspot : spot = none := by
    have h1 := hc 0 _ (List.getElem?_eq_getElem h0)
    simpa [Addr.add] using World.cell?_spot h1
  subst hspot
  refine ⟨b, off, rfl, fun j u hu => ?_⟩
  have h2 := hc j u hu
  have e : (⟨b, off, none⟩ : Addr).add j = ⟨b, off + j, none⟩ := by
    unfold Addr.add
    split
    · rename_i h; rw [h]; rfl
    · rfl
  rwa [e] at h2
theorem qsrc_src {W : World} {A : Option Addr} {l : List Nat} (h : QSrcB W A (qbts l)) : Src W A (bts l) := by
  intro h0
  obtain ⟨b, off, rfl, hc⟩ := h h0
  refine ⟨_, rfl, fun j u hu => ?_⟩
  have e : (⟨b, off, none⟩ : Addr).add j = ⟨b, off + j, none⟩ := by
    unfold Addr.add
    split
    · rename_i h; rw [h]; rfl
    · rfl
  rw [e]
  exact hc j u hu
/-- whatever is pushed: refused, or the last text -/
def PushAny (B p last : Nat) (room : Int) (ts : List Txt) (l : List Nat) (w : World) (e : Ending) (w' : World) : Prop :=
  ∃ (nid : Nat) (er : Int), e = .returned (.tuple #[.int .u64 nid, .int .i64 er]) ∧ QOnly B w w' ∧
    ((er = 0 ∧ nid = last + 1 ∧ 0 < l.length ∧ l.length ≤ 1000 ∧ ts.length < 64 ∧ (bytesF ts : Int) + l.length ≤ room ∧ ∃ t : Txt, t.id = last + 1 ∧ t.bs = l ∧ t.bg = false ∧ QRep B w' p room (last + 1) (ts ++ [t])) ∨
     (er ≠ 0 ∧ nid = 0 ∧ QRep B w' p room last ts ∧ (er = if l.length = 0 then 1 else if 1000 < l.length then 2 else 5) ∧ (0 < l.length → l.length ≤ 1000 → ts.length = 64 ∨ room < (bytesF ts : Int) + l.length)))
theorem push_all {B p last : Nat} {room : Int} {ts : List Txt} {w : World} (A : Option Addr) (l : List Nat) (c : Nat) (h : QRep B w p room last ts) (hr : 0 < room) (hr2 : room ≤ 20000) (hb : (bytesF ts : Int) ≤ room) (hts : ts.length ≤ 64) (hll : l.length ≤ 9223372036854775807) (hlast : last ≤ 1000000000)
    (hsrc : ∀ W, QOnly B w W → QSrcB W A (qbts l)) :
    Calls Try.prog 15 #[.pointer (some ⟨p, 0, none⟩), .slice A l.length c] w (PushAny B p last room ts l w) := by
  rcases Nat.eq_zero_or_pos l.length with h0 | h0
  · rw [h0]
    refine (push_arg A c h hr).mono ?_
    rintro e w' ⟨rfl, rfl⟩
    exact ⟨0, 1, rfl, QOnly.refl _ _, .inr ⟨by omega, rfl, h, by rw [if_pos h0], fun _ _ => by omega⟩⟩
  · rcases Nat.lt_or_ge 1000 l.length with h1 | h1
    · refine (push_long A l.length c h hr h1 hll).mono ?_
      rintro e w' ⟨rfl, rfl⟩
      exact ⟨0, 2, rfl, QOnly.refl _ _, .inr ⟨by omega, rfl, h, by rw [if_neg (by omega), if_pos h1], fun _ _ => by omega⟩⟩
    · by_cases hf : ts.length = 64 ∨ room < (bytesF ts : Int) + l.length
      · refine (push_full A l.length c h hr hr2 hb h0 h1 hts hf).mono ?_
        rintro e w' ⟨rfl, hbl⟩
        exact ⟨0, 5, rfl, QOnly.of_below hbl, .inr ⟨by omega, rfl, h.later hbl, by rw [if_neg (by omega), if_neg (by omega)], fun _ _ => hf⟩⟩
      · refine (push_ok A l c h hr hr2 h0 h1 (by omega) (by omega) hlast hsrc).mono ?_
        rintro e w' ⟨rfl, ⟨t, h2, h3, h4, h5⟩, h6⟩
        exact ⟨last + 1, 0, by simp, h6, .inl ⟨rfl, rfl, h0, h1, by omega, by omega, t, h2, h3, h4, h5⟩⟩
/-- the same; the text lies in new memory -/
def PushAnyG (B p last : Nat) (room : Int) (ts : List Txt) (l : List Nat) (w : World) (e : Ending) (w' : World) : Prop :=
  ∃ (nid : Nat) (er : Int), e = .returned (.tuple #[.int .u64 nid, .int .i64 er]) ∧ QOnly B w w' ∧
    ((er = 0 ∧ nid = last + 1 ∧ 0 < l.length ∧ l.length ≤ 1000 ∧ ts.length < 64 ∧ (bytesF ts : Int) + l.length ≤ room ∧ ∃ t : Txt, t.id = last + 1 ∧ t.bs = l ∧ t.bg = false ∧ w.heap.size ≤ t.g ∧ QRep B w' p room (last + 1) (ts ++ [t])) ∨
     (er ≠ 0 ∧ nid = 0 ∧ QRep B w' p room last ts ∧ (er = if l.length = 0 then 1 else if 1000 < l.length then 2 else 5) ∧ (0 < l.length → l.length ≤ 1000 → ts.length = 64 ∨ room < (bytesF ts : Int) + l.length)))
theorem push_allg {B p last : Nat} {room : Int} {ts : List Txt} {w : World} (A : Option Addr) (l : List Nat) (c : Nat) (h : QRep B w p room last ts) (hr : 0 < room) (hr2 : room ≤ 20000) (hb : (bytesF ts : Int) ≤ room) (hts : ts.length ≤ 64) (hll : l.length ≤ 9223372036854775807) (hlast : last ≤ 1000000000)
    (hsrc : ∀ W, QOnly B w W → QSrcB W A (qbts l)) :
    Calls Try.prog 15 #[.pointer (some ⟨p, 0, none⟩), .slice A l.length c] w (PushAnyG B p last room ts l w) := by
  rcases Nat.eq_zero_or_pos l.length with h0 | h0
  · rw [h0]
    refine (push_arg A c h hr).mono ?_
    rintro e w' ⟨rfl, rfl⟩
    exact ⟨0, 1, rfl, QOnly.refl _ _, .inr ⟨by omega, rfl, h, by rw [if_pos h0], fun _ _ => by omega⟩⟩
  · rcases Nat.lt_or_ge 1000 l.length with h1 | h1
    · refine (push_long A l.length c h hr h1 hll).mono ?_
      rintro e w' ⟨rfl, rfl⟩
      exact ⟨0, 2, rfl, QOnly.refl _ _, .inr ⟨by omega, rfl, h, by rw [if_neg (by omega), if_pos h1], fun _ _ => by omega⟩⟩
    · by_cases hf : ts.length = 64 ∨ room < (bytesF ts : Int) + l.length
      · refine (push_full A l.length c h hr hr2 hb h0 h1 hts hf).mono ?_
        rintro e w' ⟨rfl, hbl⟩
        exact ⟨0, 5, rfl, QOnly.of_below hbl, .inr ⟨by omega, rfl, h.later hbl, by rw [if_neg (by omega), if_neg (by omega)], fun _ _ => hf⟩⟩
      · refine (push_okg A l c h hr hr2 h0 h1 (by omega) (by omega) hlast hsrc).mono ?_
        rintro e w' ⟨rfl, ⟨t, h2, h3, h4, h45, h5⟩, h6⟩
        exact ⟨last + 1, 0, by simp, h6, .inl ⟨rfl, rfl, h0, h1, by omega, by omega, t, h2, h3, h4, h45, h5⟩⟩
/-- bytes from below a queue's memory -/
theorem src_q {B : Nat} {w0 w W : World} {A : Option Addr} {xs : List Value} (h0 : QSrcB w0 A xs) (hbw : Below w0.heap.size w0 w) (hB : w0.heap.size ≤ B) (hBw : B ≤ w.heap.size) (hq : QOnly B w W) : QSrcB W A xs :=
  h0.later (hbw.trans ((hq.below hBw).mono hB))
end Go.Proofs.Ytbcjfdhphpckfaa
