/-
  The document's answer for bits as bytes. The document's answer for what is got: bytes as bits, and the number of the next of them. The document's Write.
-/
import Derived.Test.YtgdpjaojlhdhdaaJAmdWrites05
import Derived.Shelf.Bytes.SlSmallAll
import Derived.StillTailTactics
namespace Go.Proofs.Ytgdpjaojlhdhdaa
open Go.RowKit

/-- where the elements of a slice of bits lie -/
def SrcB (w : World) (A : Option Addr) (xs : List Value) : Prop := 0 < xs.length → ∃ b off, A = some ⟨b, off, none⟩ ∧ ∀ j u, xs[j]? = some u → w.cell? ⟨b, off + j, none⟩ = some u
theorem SrcB.later {w v : World} {A : Option Addr} {xs : List Value} (h : SrcB w A xs) (hb : Below w.heap.size w v) : SrcB v A xs := by
  intro h0
  obtain ⟨b, off, hA, hc⟩ := h h0
  exact ⟨b, off, hA, fun j u hu => kept_box hb (hc j u hu)⟩
theorem OwnB.src {B : Nat} {w : World} {A : Option Addr} {n c : Nat} {bl : List Bool} (h : OwnB B w (.slice A n c) bl) : SrcB w A (bls bl) := by
  intro h0
  rw [length_bls] at h0
  obtain ⟨g, cap, e, _, _⟩ := h.1.form h0
  injection e with e1 e2 _
  subst e1
  refine ⟨g, 0, rfl, fun j u hu => ?_⟩
  have h1 := h.1.cells (g := g) rfl j u hu
  rw [add_zero_addr] at h1
  rw [Nat.zero_add]
  exact h1

theorem conv_own {w : World} {B : Nat} {x : Value} {n : Nat} {l : List Nat} (h : w.ownsRow B 5 1 x n (bts l)) (hb : ∀ b ∈ l, b < 256) :
    (convert 30 9 x).run Try.prog w = .ok (.string (strOf l)) w := by
  have hl : l.length = n := by
    have := h.1
    rw [length_bts, Nat.mul_one] at this
    exact this
  rcases h.2 with ⟨rfl, h0⟩ | ⟨g, cap, cur, rfl, _⟩
  · have e : l = [] := List.eq_nil_of_length_eq_zero (by omega)
    subst e
    exact run_convert_bytes_nil w 30 5 Try.underlying30 Try.underlying5 0 0 9 Try.underlying9
  · have hx := run_convert_bytes_back (P := Try.prog) w 30 9 5 ⟨g, 0, none⟩ cap (l.map UInt8.ofNat) Try.underlying30 Try.underlying5 Try.underlying9 (fun j hj => by
      have hj' : j < l.length := by simpa using hj
      have h1 : (bts l)[j]? = some (.int .u8 (l[j] : Nat)) := bts_at (List.getElem?_eq_getElem hj')
      rw [h.cells (g := g) rfl j _ h1, List.getElem_map]
      have h3 : (UInt8.ofNat l[j]).toNat = l[j] := UInt8.toNat_ofNat_of_lt' (hb _ (List.getElem_mem hj'))
      rw [h3])
    rw [List.length_map, hl] at hx
    exact hx

/-- the first bytes; the first bits of one -/
def packTo (bl : List Bool) (m : Nat) : List Nat := (List.range m).map (byteAt bl)
theorem packTo_succ (bl : List Bool) (m : Nat) : packTo bl (m + 1) = packTo bl m ++ [byteAt bl m] := by simp [packTo, List.range_succ]
def eightTo (bl : List Bool) (m k : Nat) : List Bool := (List.range k).map fun j => bl.getD (8 * m + j) false
theorem eightTo_succ (bl : List Bool) (m k : Nat) : val (eightTo bl m (k + 1)) = 2 * val (eightTo bl m k) + (bl.getD (8 * m + k) false).toNat := by
  unfold eightTo
  rw [List.range_succ, List.map_append, List.map_singleton, val_snoc]
theorem eightTo_lt (bl : List Bool) (m k : Nat) (h : k < 8) : val (eightTo bl m k) < 128 := by
  have h1 := val_lt (eightTo bl m k)
  have h2 : (eightTo bl m k).length = k := by simp [eightTo]
  rw [h2] at h1
  exact Nat.lt_of_lt_of_le h1 (Nat.le_trans (Nat.pow_le_pow_right (by omega) (show k ≤ 7 by omega)) (by decide))

set_option maxRecDepth 100000 in
set_option maxHeartbeats 3200000 in
theorem refbytes_any {w : World} {A : Option Addr} {bl : List Bool} (c : Nat) (hs : SrcB w A (bls bl)) (hn : bl.length ≤ 65536) :
    Calls Try.prog 191 #[.slice A bl.length c] w fun e w' => ∃ x', e = .returned x' ∧ w'.ownsRow w.heap.size 5 1 x' (packLen bl.length) (bts (pack bl)) ∧ Below w.heap.size w w' := by
  obtain ⟨i0, hi, hi0, hi1, hi2⟩ := info5_parts
  have HS := Lib.hid hs
  clear hs
  go_enter Try.func191, Try.ntmps191
  go_wp2
  go_loopw [3, 4] (fun o i wr => ∃ m : Nat, 8 * m < bl.length + 8 ∧ i = .int .i64 (8 * (m : Int)) ∧ wr.ownsRow w.heap.size 5 1 o m (bts (packTo bl m)) ∧ Below w.heap.size w wr) (fun _ i _ => bl.length + 8 - (intOf i).toNat)
  case atStart => exact ⟨0, by omega, rfl, World.ownsRow_nil _ _ _ _, Below.refl _ _⟩
  case round =>
    obtain ⟨m, hm, rfl, hown, hbr⟩ := hrel
    have HO := Lib.hid hown
    have HB := Lib.hid hbr
    clear hown hbr
    obtain ⟨w1, rfl⟩ : ∃ w1, w1 = wr := ⟨wr, rfl⟩
    by_cases hlt : 8 * m < bl.length
    · have hdec : 8 * (m : Int) < (bl.length : Int) := by omega
      go_wp2
      go_loopw [5, 6] (fun y i wq => ∃ k : Nat, k ≤ 8 ∧ y = .int .u8 ((val (eightTo bl m k) : Nat) : Int) ∧ i = .int .i64 k ∧ w1 = wq) (fun _ i _ => 8 - (intOf i).toNat)
      case atStart => exact ⟨0, by omega, rfl, rfl, rfl⟩
      case round =>
        obtain ⟨k, hk, rfl, rfl, rfl⟩ := hrel
        rcases Nat.lt_or_ge k 8 with hk8 | hk8
        · have hv := eightTo_lt bl m k hk8
          have hnx := eightTo_succ bl m k
          generalize val (eightTo bl m k) = q at *
          by_cases hin : 8 * m + k < bl.length
          · obtain ⟨b, off, rfl, hc⟩ := HS.out (by rw [length_bls]; omega)
            have hget : bl[8 * m + k]? = some bl[8 * m + k] := List.getElem?_eq_getElem hin
            rw [List.getD_eq_getElem?_getD, hget, Option.getD_some] at hnx
            have hcell := kept_box HB.out (hc _ _ (bls_at hget))
            generalize bl[8 * m + k] = bit at *
            have HN := Lib.hid hnx
            clear hnx hget hc
            cases bit
            · go_wp2
              go_roundw
              case rel => exact ⟨k + 1, by omega, by rw [HN.out]; go_num, by go_num, trivial⟩
              case measure => simp [intOf]; omega
            · go_wp2
              go_roundw
              case rel => exact ⟨k + 1, by omega, by rw [HN.out]; go_num, by go_num, trivial⟩
              case measure => simp [intOf]; omega
          · rw [List.getD_eq_getElem?_getD, List.getElem?_eq_none (by omega), Option.getD_none] at hnx
            have HN := Lib.hid hnx
            clear hnx
            go_wp2
            go_roundw
            case rel => exact ⟨k + 1, by omega, by rw [HN.out]; go_num, by go_num, trivial⟩
            case measure => simp [intOf]; omega
        · obtain rfl : k = 8 := by omega
          have hlt8 := byteAt_lt bl m
          rw [show val (eightTo bl m 8) = byteAt bl m from rfl]
          have hpk := Lib.hid (packTo_succ bl m)
          generalize byteAt bl m = q at *
          go_wp2_with (at_builtin; go_loud (refine wpList_append_lies _ rfl _ _ _ (by rfl) w.heap.size 5 i0 (.int .u8 0) 1 1 Try.underlying30 hi hi0 hi1 hi2 rfl (by omega) u3 m _ (by rfl) (HO.out.alloc _) ⟨w1.heap.size, 0, none⟩ 1 1 [.int .u8 q] (by rfl) (by rfl) (cell_one_new _ _ _) (fun u hu => by simp at hu; subst hu; rfl) (by omega) (by unfold maxLen; omega) (by omega) (by have := HB.out.size; simp; omega) (w1.heap.size + 1) (by simp) ?_))
          intro g cap w2 hown2 hgrow _ _
          have hb2 : Below w.heap.size w w2 := (HB.out.alloc HB.out.size _).grown hgrow (by have := HB.out.size; simp; omega) (fun r hr => (HO.out.lt r hr).1)
          have hown3 : w2.ownsRow w.heap.size 5 1 (.slice (some ⟨g, 0, none⟩) (m + 1) cap) (m + 1) (bts (packTo bl (m + 1))) := by rw [hpk.out, bts_append]; exact hown2
          have H2 := Lib.hid (And.intro hown3 hb2)
          clear hown2 hgrow hown3 hb2
          go_wp2
          go_roundw
          case rel => exact ⟨m + 1, by omega, by go_num, H2.out⟩
          case measure => simp [intOf]; omega
    · go_wp2
      go_ret
      refine ⟨_, rfl, ?_, HB.out⟩
      have hmp : packLen bl.length = m := by unfold packLen; omega
      rw [hmp]
      have hpp : pack bl = packTo bl m := by rw [← hmp]; rfl
      rw [hpp]
      exact HO.out
end Go.Proofs.Ytgdpjaojlhdhdaa
namespace Go.Proofs.Ytgdpjaojlhdhdaa
open Go.RowKit

theorem bitsOf_take {bs : List Nat} {i : Nat} (h : i < bs.length) : bitsOf (bs.take (i + 1)) = bitsOf (bs.take i) ++ unval bs[i] 8 := by
  have h1 : ∀ a b, bitsOf (a ++ b) = bitsOf a ++ bitsOf b := fun a b => by simp [bitsOf]
  have h2 : ∀ b, bitsOf [b] = unval b 8 := fun b => by simp [bitsOf]
  rw [List.take_succ_eq_append_getElem h, h1, h2]
theorem unval_take {b k : Nat} (h : k < 8) : (unval b 8).take (k + 1) = (unval b 8).take k ++ [b / 2 ^ (7 - k) % 2 == 1] := by
  have hl : k < (unval b 8).length := by rw [length_unval]; exact h
  rw [List.take_succ_eq_append_getElem hl]
  have h1 := unval_at b 8 k h
  rw [List.getElem?_eq_getElem hl] at h1
  injection h1 with h1
  rw [h1]
theorem half_down {k : Nat} (h : k < 8) : 128 / 2 ^ k = 2 ^ (7 - k) ∧ 0 < 128 / 2 ^ k ∧ 128 / 2 ^ k ≤ 128 := by
  obtain rfl | rfl | rfl | rfl | rfl | rfl | rfl | rfl : k = 0 ∨ k = 1 ∨ k = 2 ∨ k = 3 ∨ k = 4 ∨ k = 5 ∨ k = 6 ∨ k = 7 := by omega
  all_goals decide
theorem div_bit (b p : Nat) : (((b : Int) / (p : Int)) % 2 == 1) = (b / p % 2 == 1) := by
  rw [Bool.eq_iff_iff, beq_iff_eq, beq_iff_eq, ← Int.natCast_ediv]
  omega

/-- one more bit behind a list of the call's own -/
theorem OwnB.more {B g cap : Nat} {w0 w w2 : World} {x : Value} {bl : List Bool} {bit : Bool} {o : Obj} (h : OwnB B w x bl) (hb : Below B w0 w) (hB : B ≤ w.heap.size) (hown : w2.ownsRow B 4 1 (.slice (some ⟨g, 0, none⟩) (bl.length + 1) cap) (bl.length + 1) (bls bl ++ [.bool bit]))
    (hgrow : (w.alloc o).grownBy w2 x.ownBlock) : OwnB B w2 (.slice (some ⟨g, 0, none⟩) (bl.length + 1) cap) (bl ++ [bit]) ∧ Below B w0 w2 := by
  refine ⟨⟨?_, fun h => by simp at h⟩, (hb.alloc hB _).grown hgrow (by simp; omega) (fun r hr => (h.1.lt r hr).1)⟩
  rw [List.length_append, bls_append]
  exact hown

set_option maxRecDepth 100000 in
set_option maxHeartbeats 3200000 in
theorem refbits_any {w : World} {A : Option Addr} {bs : List Nat} (c : Nat) (hs : SrcB w A (bts bs)) (hn : bs.length ≤ 8000) (hb : ∀ b ∈ bs, b < 256) :
    Calls Try.prog 176 #[.slice A bs.length c] w fun e w' => ∃ x', e = .returned x' ∧ OwnB w.heap.size w' x' (bitsOf bs) ∧ Below w.heap.size w w' := by
  obtain ⟨i0, hi, hi0, hi1, hi2⟩ := info_parts Try.info4
  have HS := Lib.hid hs
  have HV := Lib.hid hb
  clear hs hb
  go_enter Try.func176, Try.ntmps176
  go_wp2
  go_loopw [3, 4] (fun o i wr => ∃ m : Nat, m ≤ bs.length ∧ i = .int .i64 m ∧ OwnB w.heap.size wr o (bitsOf (bs.take m)) ∧ Below w.heap.size w wr) (fun _ i _ => bs.length - (intOf i).toNat)
  case atStart => exact ⟨0, by omega, rfl, OwnB.nil _ _, Below.refl _ _⟩
  case round =>
    obtain ⟨m, hm, rfl, hown, hbr⟩ := hrel
    have HO := Lib.hid hown
    have HB := Lib.hid hbr
    clear hown hbr
    by_cases hlt : m < bs.length
    · obtain ⟨b, off, rfl, hc⟩ := HS.out (by rw [length_bts]; omega)
      have hx : bs[m]? = some bs[m] := List.getElem?_eq_getElem hlt
      have d0 := Lib.hid (hc _ _ (bts_at hx))
      have hbyte := HV.out bs[m] (List.getElem_mem hlt)
      have htk := Lib.hid (bitsOf_take hlt)
      generalize bs[m] = byte at *
      have hlen : (bitsOf (bs.take m)).length = 8 * m := by rw [length_bitsOf, List.length_take]; omega
      have hdec : (m : Int) < (bs.length : Int) := by omega
      have hdec2 : (m : Int) < 8192 := by omega
      have hm0 : (0 : Int) ≤ (m : Int) := by omega
      have HST := Lib.hid (show OwnB w.heap.size wr u3 (bitsOf (bs.take m) ++ (unval byte 8).take 0) from by rw [List.take_zero, List.append_nil]; exact HO.out)
      have HB0 := Lib.hid HB.out
      clear hc hx HO HB
      go_wp2
      go_loopw [3, 5] (fun o y wr => ∃ k : Nat, k ≤ 8 ∧ y = .int .u8 ((128 / 2 ^ k : Nat) : Int) ∧ OwnB w.heap.size wr o (bitsOf (bs.take m) ++ (unval byte 8).take k) ∧ Below w.heap.size w wr) (fun _ y _ => (intOf y).toNat)
      case atStart => exact ⟨0, by omega, rfl, HST.out, HB0.out⟩
      case round =>
        obtain ⟨k, hk, rfl, hown, hbr⟩ := hrel
        have HO := Lib.hid hown
        have HB := Lib.hid hbr
        clear hown hbr HST HB0
        rcases Nat.lt_or_ge k 8 with hk8 | hk8
        · obtain ⟨hp1, hp2, hp3⟩ := half_down hk8
          have hhalf := Lib.hid (half_pow 128 k)
          have hcell := kept_box HB.out d0.out
          have hnx : (bitsOf (bs.take m) ++ (unval byte 8).take k) ++ [byte / (128 / 2 ^ k) % 2 == 1] = bitsOf (bs.take m) ++ (unval byte 8).take (k + 1) := by
            rw [List.append_assoc, hp1, ← unval_take hk8]
          have hll : (bitsOf (bs.take m) ++ (unval byte 8).take k).length < 65536 := by
            rw [List.length_append, List.length_take, length_unval]
            omega
          have hdb := div_bit byte (128 / 2 ^ k)
          generalize 128 / 2 ^ k = p at *
          generalize bitsOf (bs.take m) ++ (unval byte 8).take k = cur at *
          have HN := Lib.hid hnx
          clear hnx hp1
          go_wp2_with (at_builtin; go_loud (refine wpList_append_lies _ rfl _ _ _ (by rfl) w.heap.size 4 i0 (.bool false) 1 1 Try.underlying95 hi hi0 hi1 hi2 rfl (by omega) u3 cur.length _ (by rfl) (HO.out.1.alloc _) ⟨wr.heap.size, 0, none⟩ 1 1 [.bool (byte / p % 2 == 1)] (by rfl) (by rfl) (cell_one_new _ _ _) (fun u hu => by simp at hu; subst hu; rfl) (by omega) (by unfold maxLen; omega) (by omega) (by have := HB.out.size; simp; omega) (wr.heap.size + 1) (by simp) ?_))
          intro g cap w2 hown2 hgrow _ _
          have H2 := Lib.hid (OwnB.more HO.out HB.out HB.out.size hown2 hgrow)
          clear hown2 hgrow
          go_wp2
          go_roundw
          case rel => exact ⟨k + 1, by omega, by rw [← hhalf.out]; go_num, by rw [← HN.out]; exact H2.out.1, H2.out.2⟩
          case measure => simp [intOf]; omega
        · obtain rfl : k = 8 := by omega
          have hnext : OwnB w.heap.size wr u3 (bitsOf (bs.take (m + 1))) := by
            have h1 := HO.out
            rw [show (unval byte 8).take 8 = unval byte 8 from List.take_of_length_le (by rw [length_unval]; omega)] at h1
            rw [htk.out]
            exact h1
          have HN := Lib.hid hnext
          clear hnext
          go_wp2
          go_roundw
          case rel => exact ⟨m + 1, by omega, by go_num, HN.out, HB.out⟩
          case measure => simp [intOf]; omega
    · obtain rfl : m = bs.length := by omega
      rw [List.take_length] at HO
      go_wp2
      go_ret
      exact ⟨_, rfl, HO.out, HB.out⟩

set_option maxHeartbeats 400000 in
theorem refget_arg (x : Value) (a n : Int) (w : World) (h : n < 0 ∨ 64 < n) : Calls Try.prog 284 #[x, .int .i64 a, .int .i64 n] w fun e w' => e = .returned (.tuple #[.int .u64 0, .int .i64 a, .int .i64 1]) ∧ w = w' := by
  by_cases h1 : n < 0
  · clear h
    go_enter Try.func284, Try.ntmps284
    go_wp2
    exact bodyPost_ret (v := .tuple #[.int .u64 0, .int .i64 a, .int .i64 1]) (by simp [results, Try.results284, go_sem]) rfl ⟨rfl, rfl⟩
  · have h2 : 64 < n := by omega
    clear h
    go_enter Try.func284, Try.ntmps284
    go_wp2
    exact bodyPost_ret (v := .tuple #[.int .u64 0, .int .i64 a, .int .i64 1]) (by simp [results, Try.results284, go_sem]) rfl ⟨rfl, rfl⟩

set_option maxHeartbeats 400000 in
theorem refget_short (A : Option Addr) (L c a n : Nat) (w : World) (hn : n ≤ 64) (hL : L ≤ 65536) (ha : a ≤ L) (h : L - a < n) : Calls Try.prog 284 #[.slice A L c, .int .i64 a, .int .i64 n] w fun e w' => e = .returned (.tuple #[.int .u64 0, .int .i64 a, .int .i64 8]) ∧ w = w' := by
  go_enter Try.func284, Try.ntmps284
  go_wp2
  exact bodyPost_ret (v := .tuple #[.int .u64 0, .int .i64 a, .int .i64 8]) (by simp [results, Try.results284, go_sem]) rfl ⟨rfl, rfl⟩

theorem bitAt_get {bs : List Nat} {i : Nat} (h : i < 8 * bs.length) : (bitsOf bs)[i]? = some (bitAt bs i) := by
  have hl : i < (bitsOf bs).length := by rw [length_bitsOf]; exact h
  unfold bitAt
  rw [List.getD_eq_getElem?_getD, List.getElem?_eq_getElem hl]
  rfl

set_option maxRecDepth 100000 in
set_option maxHeartbeats 1600000 in
theorem refget_ok {bs : List Nat} (A : Option Addr) (L c a n : Nat) (w : World) (hs : SrcB w A (bls (bitsOf bs))) (hL : L = 8 * bs.length) (hb : bs.length ≤ 8000) (hn : n ≤ 64) (h : a + n ≤ L) :
    Calls Try.prog 284 #[.slice A L c, .int .i64 a, .int .i64 n] w fun e w' => e = .returned (.tuple #[.int .u64 (val (seg bs a n)), .int .i64 ((a + n : Nat) : Int), .int .i64 0]) ∧ w = w' := by
  have HS := Lib.hid hs
  have HL := Lib.hid hL
  have hLL : L ≤ 65536 := by omega
  clear hs hL hb
  go_enter Try.func284, Try.ntmps284
  go_wp2
  go_loopw [9, 10] (fun y i wr => ∃ q : Nat, a ≤ q ∧ q ≤ a + n ∧ y = .int .u64 ((val (seg bs a (q - a)) : Nat) : Int) ∧ i = .int .i64 q ∧ w = wr) (fun _ i _ => a + n - (intOf i).toNat)
  case atStart => exact ⟨a, by omega, by omega, by rw [Nat.sub_self, seg_zero, val_nil]; rfl, rfl, rfl⟩
  case round =>
    obtain ⟨q, hq1, hq2, rfl, rfl, rfl⟩ := hrel
    by_cases hlt : q < a + n
    · have hqL : q < 8 * bs.length := by have := HL.out; omega
      obtain ⟨b, off, rfl, hc⟩ := HS.out (by rw [length_bls, length_bitsOf]; omega)
      have hcell := hc _ _ (bls_at (bitAt_get hqL))
      have hstep := val_seg_succ (bs := bs) (i := a) (m := q - a) (by omega)
      have e1 : a + (q - a) = q := by omega
      have e2 : q - a + 1 = q + 1 - a := by omega
      have hV := val_small (l := seg bs a (q - a)) (by rw [length_seg (by omega)]; omega)
      rw [e1, e2] at hstep
      generalize val (seg bs a (q - a)) = V at *
      generalize bitAt bs q = bit at *
      have HST := Lib.hid hstep
      have hi0 : (0 : Int) ≤ (q : Int) := by omega
      have hi1 : (q : Int) < (L : Int) := by omega
      clear hc hstep e1 e2
      cases bit
      · go_wp2
        go_roundw
        case rel => exact ⟨q + 1, by omega, by omega, by rw [HST.out]; go_num, by go_num, trivial⟩
        case measure => simp [intOf]; omega
      · go_wp2
        go_roundw
        case rel => exact ⟨q + 1, by omega, by omega, by rw [HST.out]; go_num, by go_num, trivial⟩
        case measure => simp [intOf]; omega
    · obtain rfl : q = a + n := by omega
      rw [Nat.add_sub_cancel_left]
      go_wp2
      exact bodyPost_ret (v := .tuple #[.int .u64 (val (seg bs a n)), .int .i64 ((a + n : Nat) : Int), .int .i64 0]) (by simp [results, Try.results284, go_sem]) rfl ⟨rfl, rfl⟩
end Go.Proofs.Ytgdpjaojlhdhdaa
namespace Go.Proofs.Ytgdpjaojlhdhdaa
open Go.RowKit

theorem own_down {B B' : Nat} {e : TypeId} {size n : Nat} {w : World} {x : Value} {xs : List Value} (h : w.ownsRow B e size x n xs) (hb : B' ≤ B) : w.ownsRow B' e size x n xs := by
  refine ⟨h.1, ?_⟩
  rcases h.2 with h0 | ⟨g, cap, cur, rfl, h1, h2⟩
  · exact .inl h0
  · exact .inr ⟨g, cap, cur, rfl, Nat.le_trans hb h1, h2⟩

set_option maxRecDepth 100000 in
set_option maxHeartbeats 3200000 in
theorem refwrite_11 {A : Option Addr} {l : List Int} (n cap : Nat) (w : World) (hn : l.length = n) (hm : n ≤ maxLen) (hs : Src w A (ins l)) :
    Calls Try.prog 297 #[.slice A n cap, .int .i64 11] w fun e w' => ((faultF l 11 = 0 ∧ ∃ x, e = .returned (.tuple #[x, .int .i64 0]) ∧ w'.ownsRow w.heap.size 5 1 x (packLen (n * (11 + 1))) (bts (pack (wbl 11 (l.map Int.toNat))))) ∨ (faultF l 11 ≠ 0 ∧ e = .returned (.tuple #[.slice none 0 0, .int .i64 (faultF l 11)]))) ∧ Below w.heap.size w w' := by
  obtain ⟨i0, hi, hi0, hi1, hi2⟩ := info_parts Try.info4
  have HS := Lib.hid hs
  have HN := Lib.hid hn
  unfold maxLen at hm
  clear hs hn
  rcases Nat.eq_zero_or_pos n with h0 | h0
  · have HF := Lib.hid (show faultF l 11 = 4 by unfold faultF; rw [HN.out, if_pos h0])
    subst h0
    go_enter Try.func297, Try.ntmps297
    go_wp2
    exact bodyPost_ret (v := .tuple #[.slice none 0 0, .int .i64 4]) (by simp [results, Try.results297, go_sem]) rfl ⟨.inr (by rw [HF.out]; exact ⟨by decide, rfl⟩), Below.refl _ _⟩
  · have hz : ((n : Int) == 0) = false := by simp; omega
    rcases Nat.lt_or_ge 23 n with h1 | h1
    · have HF := Lib.hid (show faultF l 11 = 2 by unfold faultF; rw [HN.out, if_neg (by omega), if_pos h1])
      have h1' : (23 : Int) < (n : Int) := by omega
      go_enter Try.func297, Try.ntmps297
      go_wp2
      exact bodyPost_ret (v := .tuple #[.slice none 0 0, .int .i64 2]) (by simp [results, Try.results297, go_sem]) rfl ⟨.inr (by rw [HF.out]; exact ⟨by decide, rfl⟩), Below.refl _ _⟩
    · have h1' : ¬ (23 : Int) < (n : Int) := by omega
      have HF := Lib.hid (show faultF l 11 = if l.all (mayL 11) then 0 else 1 by unfold faultF; rw [HN.out, if_neg (by omega), if_neg (by omega)])
      have HWB := Lib.hid (wbk_all 11 (l.map Int.toNat))
      rw [List.length_map, HN.out] at HWB
      have HTP := Lib.hid (fun W => (show Calls Try.prog 328 #[.int .i64 11] W fun e w' => e = .returned (.int .i64 2048) ∧ W = w' from top_ok 11 (by omega) W))
      go_enter Try.func297, Try.ntmps297
      go_wp2
      go_loopw [6, 7] (fun o i wr => ∃ k : Nat, k ≤ n ∧ i = .int .i64 k ∧ Hid ((l.take k).all (mayL 11) = true) ∧ Hid (OwnB w.heap.size wr o (wbk 11 (l.map Int.toNat) k)) ∧ Hid (Below w.heap.size w wr)) (fun _ i _ => n - (intOf i).toNat)
      case atStart => exact ⟨0, by omega, rfl, Lib.hid rfl, Lib.hid (OwnB.nil _ _), Lib.hid (Below.refl _ _)⟩
      case round =>
        obtain ⟨k, hk, rfl, HK, HO, HB⟩ := hrel
        obtain ⟨A6, c6, rfl⟩ := HO.out.form
        have hbl : (wbk 11 (l.map Int.toNat) k).length ≤ 400 := by
          rw [length_wbk]
          have := Nat.mul_le_mul_right (11 + 1) hk
          omega
        by_cases hlt : k < n
        · have hkl : k < l.length := by have := HN.out; omega
          have hx : l[k]? = some l[k] := List.getElem?_eq_getElem hkl
          obtain ⟨ad, rfl, hc⟩ := HS.out (by rw [length_ins]; omega)
          have hcell0 := hc _ _ (ins_at hx)
          have hcell := cell_below HB.out hcell0
          have htk : (l.take (k + 1)).all (mayL 11) = mayL 11 l[k] := by
            rw [List.take_succ_eq_append_getElem hkl, List.all_append, HK.out]
            simp
          have hall : mayL 11 l[k] = false → l.all (mayL 11) = false := fun h => by
            rw [← Bool.not_eq_true, List.all_eq_true]
            intro hh
            rw [hh l[k] (List.getElem_mem hkl)] at h
            cases h
          have HX := Lib.hid (show wbk 11 (l.map Int.toNat) (k + 1) = (wbk 11 (l.map Int.toNat) k ++ [decide (k + 1 < n)]) ++ unval l[k].toNat 11 by
            rw [wbk, List.getD_eq_getElem?_getD, List.getElem?_map, hx, List.length_map, HN.out]
            simp)
          generalize l[k] = x at *
          have HT := Lib.hid htk
          have HA := Lib.hid hall
          have hlt2 : (k : Int) < (n : Int) := by omega
          have hk0 : (0 : Int) ≤ (k : Int) := by omega
          have HC0 := Lib.hid hcell0
          clear hc hx htk hall hcell0
          by_cases h2 : x < 1
          · have HE := Lib.hid (HA.out (by unfold mayL; rw [decide_eq_false (by omega)]; rfl))
            have h2d : decide (x < 1) = true := decide_eq_true h2
            go_wp2_with fail
            go_quiet (fail)
            go_wp2_with fail
            exact bodyPost_ret (v := .tuple #[.slice none 0 0, .int .i64 1]) (by simp [results, Try.results297, go_sem]) rfl ⟨.inr (by rw [HF.out, HE.out]; exact ⟨by decide, rfl⟩), below_drewN HB.out _⟩
          · have h2d : decide (x < 1) = false := decide_eq_false h2
            by_cases h3 : 2048 ≤ x
            · have HE := Lib.hid (HA.out (by unfold mayL; rw [decide_eq_false (show ¬ x < 2 ^ 11 by simp only [show (2 : Int) ^ 11 = 2048 from rfl]; omega)]; simp))
              go_wp2_with fail
              refine wp_region_still_lit (by kernel_rfl) (by kernel_rfl) ?_
              change wpStill _ _ wr.drew (fun b => _) _ _
              have d0 : wr.drew.cell? (ad.add k) = some (.int .i64 x) := hcell
              clear hcell
              generalize wr.drew = w9 at d0 ⊢
              repeat still_step
              still_call ((HTP.out w9).mono fun _ _ h => ⟨h.1, h.2.symm⟩)
              repeat still_step
              refine wpStill_nil ?_
              go_wp2_with fail
              exact bodyPost_ret (v := .tuple #[.slice none 0 0, .int .i64 1]) (by simp [results, Try.results297, go_sem]) rfl ⟨.inr (by rw [HF.out, HE.out]; exact ⟨by decide, rfl⟩), bl_drew HB.out⟩
            · obtain ⟨y, rfl⟩ : ∃ y : Nat, x = y := ⟨x.toNat, by omega⟩
              have HE := Lib.hid (show mayL 11 (y : Int) = true by unfold mayL; rw [decide_eq_true (show (1 : Int) ≤ y by omega), decide_eq_true (show (y : Int) < 2 ^ 11 by simp only [show (2 : Int) ^ 11 = 2048 from rfl]; omega)]; rfl)
              have h3d : decide ((2048 : Int) ≤ (y : Int)) = false := decide_eq_false (by omega)
              have HY15 := Lib.hid (show y < 2048 by omega)
              clear h3
              have hcellD : wr.drew.cell? (ad.add k) = some (.int .i64 y) := hcell
              have hyw : IntKind.u64.wrap (y : Int) = (y : Int) := by rw [IntKind.wrap_u64]; have := HY15.out; omega
              have HOD := Lib.hid (show OwnB w.heap.size wr.drew (.slice A6 (wbk 11 (l.map Int.toNat) k).length c6) (wbk 11 (l.map Int.toNat) k) from HO.out.later (bl_drew (Below.refl _ _)))
              have HBD := Lib.hid (bl_drew HB.out)
              rw [Int.toNat_natCast] at HX
              generalize hbits : wbk 11 (l.map Int.toNat) k = bits at *
              have hbd : decide ((k : Int) + 1 < (n : Int)) = decide (k + 1 < n) := by
                apply decide_eq_decide.2
                omega
              have HBD2 := Lib.hid hbd
              clear hbd hbits
              go_wp2_with fail
              refine wp_region_still_lit (by kernel_rfl) (by kernel_rfl) ?_
              change wpStill _ _ wr.drew (fun b => _) _ _
              have d0 : wr.drew.cell? (ad.add k) = some (.int .i64 y) := hcell
              clear hcell
              generalize wr.drew = w9 at d0 ⊢
              repeat still_step
              still_call ((HTP.out w9).mono fun _ _ h => ⟨h.1, h.2.symm⟩)
              repeat still_step
              refine wpStill_nil ?_
              go_wp2_with (at_builtin; go_loud (refine wpList_append_lies _ rfl _ _ _ (by rfl) w.heap.size 4 i0 (.bool false) 1 1 Try.underlying95 hi hi0 hi1 hi2 rfl (by omega) (.slice A6 bits.length c6) bits.length _ (by rfl) (HOD.out.1.alloc _) ⟨wr.drew.heap.size, 0, none⟩ 1 1 [.bool (decide ((k : Int) + 1 < (n : Int)))] (by rfl) (by rfl) (cell_one_new _ _ _) (fun u hu => by simp at hu; subst hu; rfl) (by omega) (by unfold maxLen; omega) (by omega) (by have := HBD.out.size; simp at this ⊢; omega) (wr.drew.heap.size + 1) (by simp) ?_))
              intro g cap2 w2 hown2 hgrow _ _
              have H2 := Lib.hid (OwnB.more HOD.out HBD.out HBD.out.size hown2 hgrow)
              have hc2 := cell_below H2.out.2 HC0.out
              have HK2 := Lib.hid (show (l.take (k + 1)).all (mayL 11) = true by rw [HT.out, HE.out])
              rw [HBD2.out] at H2
              generalize decide (k + 1 < n) = nx at *
              have HPU := Lib.hid (show Calls Try.prog 189 #[.slice (some ⟨g, 0, none⟩) (bits.length + 1) cap2, .int .u64 y, .int .i64 11] w2 fun e w' => ∃ x', e = .returned (.tuple #[x', .int .i64 0]) ∧ OwnB w2.heap.size w' x' ((bits ++ [nx]) ++ unval y 11) ∧ Below w2.heap.size w2 w' from refput_ok y 11 H2.out.1 (by omega) (Nat.lt_of_lt_of_le HY15.out (by decide)) (by simp; omega) (by have := HY15.out; omega))
              clear hown2 hgrow
              go_wp2_with (go_at_call 189; refine HPU.out.mono ?_; rintro e w3 ⟨x3, rfl, ho3, hb3⟩; have HO3 := Lib.hid ho3; have HB3 := Lib.hid (H2.out.2.trans (hb3.mono H2.out.2.size)); clear ho3 hb3)
              go_roundw
              case rel => exact ⟨k + 1, by omega, by go_num, HK2, Lib.hid (by rw [HX.out]; exact ⟨own_down HO3.out.1 (H2.out.2.size), HO3.out.2⟩), HB3⟩
              case measure => simp [intOf]; omega
        · obtain rfl : k = n := by omega
          have HK2 := Lib.hid (show l.all (mayL 11) = true by have := HK.out; rwa [← HN.out, List.take_length] at this)
          have HBL := Lib.hid (length_wbk 11 (l.map Int.toNat) k)
          rw [HWB.out] at HO HBL hbl ⊢
          generalize hbits : wbl 11 (l.map Int.toNat) = bits at *
          have HBI := Lib.hid hbits
          have HBY := Lib.hid (refbytes_any c6 HO.out.src (by omega))
          clear hbits hbl hlt hk
          go_wp2_with (go_at_call 191; refine HBY.out.mono ?_; rintro e w6 ⟨x6, rfl, ho6, hb6⟩; have HO6 := Lib.hid ho6; have HB6 := Lib.hid hb6; clear ho6 hb6)
          refine bodyPost_ret (v := .tuple #[x6, .int .i64 0]) (by simp [results, Try.results297, go_sem]) rfl ⟨.inl ⟨by rw [HF.out, HK2.out]; rfl, x6, rfl, ?_⟩, bl_step' HB.out (HB6.out.mono HB.out.size)⟩
          have h9 := HO6.out
          rw [HBL.out, ← HBI.out] at h9
          exact own_down h9 HB.out.size

set_option maxRecDepth 100000 in
set_option maxHeartbeats 3200000 in
theorem refwrite_15 {A : Option Addr} {l : List Int} (n cap : Nat) (w : World) (hn : l.length = n) (hm : n ≤ maxLen) (hs : Src w A (ins l)) :
    Calls Try.prog 297 #[.slice A n cap, .int .i64 15] w fun e w' => ((faultF l 15 = 0 ∧ ∃ x, e = .returned (.tuple #[x, .int .i64 0]) ∧ w'.ownsRow w.heap.size 5 1 x (packLen (n * (15 + 1))) (bts (pack (wbl 15 (l.map Int.toNat))))) ∨ (faultF l 15 ≠ 0 ∧ e = .returned (.tuple #[.slice none 0 0, .int .i64 (faultF l 15)]))) ∧ Below w.heap.size w w' := by
  obtain ⟨i0, hi, hi0, hi1, hi2⟩ := info_parts Try.info4
  have HS := Lib.hid hs
  have HN := Lib.hid hn
  unfold maxLen at hm
  clear hs hn
  rcases Nat.eq_zero_or_pos n with h0 | h0
  · have HF := Lib.hid (show faultF l 15 = 4 by unfold faultF; rw [HN.out, if_pos h0])
    subst h0
    go_enter Try.func297, Try.ntmps297
    go_wp2
    exact bodyPost_ret (v := .tuple #[.slice none 0 0, .int .i64 4]) (by simp [results, Try.results297, go_sem]) rfl ⟨.inr (by rw [HF.out]; exact ⟨by decide, rfl⟩), Below.refl _ _⟩
  · have hz : ((n : Int) == 0) = false := by simp; omega
    rcases Nat.lt_or_ge 23 n with h1 | h1
    · have HF := Lib.hid (show faultF l 15 = 2 by unfold faultF; rw [HN.out, if_neg (by omega), if_pos h1])
      have h1' : (23 : Int) < (n : Int) := by omega
      go_enter Try.func297, Try.ntmps297
      go_wp2
      exact bodyPost_ret (v := .tuple #[.slice none 0 0, .int .i64 2]) (by simp [results, Try.results297, go_sem]) rfl ⟨.inr (by rw [HF.out]; exact ⟨by decide, rfl⟩), Below.refl _ _⟩
    · have h1' : ¬ (23 : Int) < (n : Int) := by omega
      have HF := Lib.hid (show faultF l 15 = if l.all (mayL 15) then 0 else 1 by unfold faultF; rw [HN.out, if_neg (by omega), if_neg (by omega)])
      have HWB := Lib.hid (wbk_all 15 (l.map Int.toNat))
      rw [List.length_map, HN.out] at HWB
      have HTP := Lib.hid (fun W => (show Calls Try.prog 328 #[.int .i64 15] W fun e w' => e = .returned (.int .i64 32768) ∧ W = w' from top_ok 15 (by omega) W))
      go_enter Try.func297, Try.ntmps297
      go_wp2
      go_loopw [6, 7] (fun o i wr => ∃ k : Nat, k ≤ n ∧ i = .int .i64 k ∧ Hid ((l.take k).all (mayL 15) = true) ∧ Hid (OwnB w.heap.size wr o (wbk 15 (l.map Int.toNat) k)) ∧ Hid (Below w.heap.size w wr)) (fun _ i _ => n - (intOf i).toNat)
      case atStart => exact ⟨0, by omega, rfl, Lib.hid rfl, Lib.hid (OwnB.nil _ _), Lib.hid (Below.refl _ _)⟩
      case round =>
        obtain ⟨k, hk, rfl, HK, HO, HB⟩ := hrel
        obtain ⟨A6, c6, rfl⟩ := HO.out.form
        have hbl : (wbk 15 (l.map Int.toNat) k).length ≤ 400 := by
          rw [length_wbk]
          have := Nat.mul_le_mul_right (15 + 1) hk
          omega
        by_cases hlt : k < n
        · have hkl : k < l.length := by have := HN.out; omega
          have hx : l[k]? = some l[k] := List.getElem?_eq_getElem hkl
          obtain ⟨ad, rfl, hc⟩ := HS.out (by rw [length_ins]; omega)
          have hcell0 := hc _ _ (ins_at hx)
          have hcell := cell_below HB.out hcell0
          have htk : (l.take (k + 1)).all (mayL 15) = mayL 15 l[k] := by
            rw [List.take_succ_eq_append_getElem hkl, List.all_append, HK.out]
            simp
          have hall : mayL 15 l[k] = false → l.all (mayL 15) = false := fun h => by
            rw [← Bool.not_eq_true, List.all_eq_true]
            intro hh
            rw [hh l[k] (List.getElem_mem hkl)] at h
            cases h
          have HX := Lib.hid (show wbk 15 (l.map Int.toNat) (k + 1) = (wbk 15 (l.map Int.toNat) k ++ [decide (k + 1 < n)]) ++ unval l[k].toNat 15 by
            rw [wbk, List.getD_eq_getElem?_getD, List.getElem?_map, hx, List.length_map, HN.out]
            simp)
          generalize l[k] = x at *
          have HT := Lib.hid htk
          have HA := Lib.hid hall
          have hlt2 : (k : Int) < (n : Int) := by omega
          have hk0 : (0 : Int) ≤ (k : Int) := by omega
          have HC0 := Lib.hid hcell0
          clear hc hx htk hall hcell0
          by_cases h2 : x < 1
          · have HE := Lib.hid (HA.out (by unfold mayL; rw [decide_eq_false (by omega)]; rfl))
            have h2d : decide (x < 1) = true := decide_eq_true h2
            go_wp2_with fail
            go_quiet (fail)
            go_wp2_with fail
            exact bodyPost_ret (v := .tuple #[.slice none 0 0, .int .i64 1]) (by simp [results, Try.results297, go_sem]) rfl ⟨.inr (by rw [HF.out, HE.out]; exact ⟨by decide, rfl⟩), below_drewN HB.out _⟩
          · have h2d : decide (x < 1) = false := decide_eq_false h2
            by_cases h3 : 32768 ≤ x
            · have HE := Lib.hid (HA.out (by unfold mayL; rw [decide_eq_false (show ¬ x < 2 ^ 15 by simp only [show (2 : Int) ^ 15 = 32768 from rfl]; omega)]; simp))
              go_wp2_with fail
              refine wp_region_still_lit (by kernel_rfl) (by kernel_rfl) ?_
              change wpStill _ _ wr.drew (fun b => _) _ _
              have d0 : wr.drew.cell? (ad.add k) = some (.int .i64 x) := hcell
              clear hcell
              generalize wr.drew = w9 at d0 ⊢
              repeat still_step
              still_call ((HTP.out w9).mono fun _ _ h => ⟨h.1, h.2.symm⟩)
              repeat still_step
              refine wpStill_nil ?_
              go_wp2_with fail
              exact bodyPost_ret (v := .tuple #[.slice none 0 0, .int .i64 1]) (by simp [results, Try.results297, go_sem]) rfl ⟨.inr (by rw [HF.out, HE.out]; exact ⟨by decide, rfl⟩), bl_drew HB.out⟩
            · obtain ⟨y, rfl⟩ : ∃ y : Nat, x = y := ⟨x.toNat, by omega⟩
              have HE := Lib.hid (show mayL 15 (y : Int) = true by unfold mayL; rw [decide_eq_true (show (1 : Int) ≤ y by omega), decide_eq_true (show (y : Int) < 2 ^ 15 by simp only [show (2 : Int) ^ 15 = 32768 from rfl]; omega)]; rfl)
              have h3d : decide ((32768 : Int) ≤ (y : Int)) = false := decide_eq_false (by omega)
              have HY15 := Lib.hid (show y < 32768 by omega)
              clear h3
              have hcellD : wr.drew.cell? (ad.add k) = some (.int .i64 y) := hcell
              have hyw : IntKind.u64.wrap (y : Int) = (y : Int) := by rw [IntKind.wrap_u64]; have := HY15.out; omega
              have HOD := Lib.hid (show OwnB w.heap.size wr.drew (.slice A6 (wbk 15 (l.map Int.toNat) k).length c6) (wbk 15 (l.map Int.toNat) k) from HO.out.later (bl_drew (Below.refl _ _)))
              have HBD := Lib.hid (bl_drew HB.out)
              rw [Int.toNat_natCast] at HX
              generalize hbits : wbk 15 (l.map Int.toNat) k = bits at *
              have hbd : decide ((k : Int) + 1 < (n : Int)) = decide (k + 1 < n) := by
                apply decide_eq_decide.2
                omega
              have HBD2 := Lib.hid hbd
              clear hbd hbits
              go_wp2_with fail
              refine wp_region_still_lit (by kernel_rfl) (by kernel_rfl) ?_
              change wpStill _ _ wr.drew (fun b => _) _ _
              have d0 : wr.drew.cell? (ad.add k) = some (.int .i64 y) := hcell
              clear hcell
              generalize wr.drew = w9 at d0 ⊢
              repeat still_step
              still_call ((HTP.out w9).mono fun _ _ h => ⟨h.1, h.2.symm⟩)
              repeat still_step
              refine wpStill_nil ?_
              go_wp2_with (at_builtin; go_loud (refine wpList_append_lies _ rfl _ _ _ (by rfl) w.heap.size 4 i0 (.bool false) 1 1 Try.underlying95 hi hi0 hi1 hi2 rfl (by omega) (.slice A6 bits.length c6) bits.length _ (by rfl) (HOD.out.1.alloc _) ⟨wr.drew.heap.size, 0, none⟩ 1 1 [.bool (decide ((k : Int) + 1 < (n : Int)))] (by rfl) (by rfl) (cell_one_new _ _ _) (fun u hu => by simp at hu; subst hu; rfl) (by omega) (by unfold maxLen; omega) (by omega) (by have := HBD.out.size; simp at this ⊢; omega) (wr.drew.heap.size + 1) (by simp) ?_))
              intro g cap2 w2 hown2 hgrow _ _
              have H2 := Lib.hid (OwnB.more HOD.out HBD.out HBD.out.size hown2 hgrow)
              have hc2 := cell_below H2.out.2 HC0.out
              have HK2 := Lib.hid (show (l.take (k + 1)).all (mayL 15) = true by rw [HT.out, HE.out])
              rw [HBD2.out] at H2
              generalize decide (k + 1 < n) = nx at *
              have HPU := Lib.hid (show Calls Try.prog 189 #[.slice (some ⟨g, 0, none⟩) (bits.length + 1) cap2, .int .u64 y, .int .i64 15] w2 fun e w' => ∃ x', e = .returned (.tuple #[x', .int .i64 0]) ∧ OwnB w2.heap.size w' x' ((bits ++ [nx]) ++ unval y 15) ∧ Below w2.heap.size w2 w' from refput_ok y 15 H2.out.1 (by omega) (Nat.lt_of_lt_of_le HY15.out (by decide)) (by simp; omega) (by have := HY15.out; omega))
              clear hown2 hgrow
              go_wp2_with (go_at_call 189; refine HPU.out.mono ?_; rintro e w3 ⟨x3, rfl, ho3, hb3⟩; have HO3 := Lib.hid ho3; have HB3 := Lib.hid (H2.out.2.trans (hb3.mono H2.out.2.size)); clear ho3 hb3)
              go_roundw
              case rel => exact ⟨k + 1, by omega, by go_num, HK2, Lib.hid (by rw [HX.out]; exact ⟨own_down HO3.out.1 (H2.out.2.size), HO3.out.2⟩), HB3⟩
              case measure => simp [intOf]; omega
        · obtain rfl : k = n := by omega
          have HK2 := Lib.hid (show l.all (mayL 15) = true by have := HK.out; rwa [← HN.out, List.take_length] at this)
          have HBL := Lib.hid (length_wbk 15 (l.map Int.toNat) k)
          rw [HWB.out] at HO HBL hbl ⊢
          generalize hbits : wbl 15 (l.map Int.toNat) = bits at *
          have HBI := Lib.hid hbits
          have HBY := Lib.hid (refbytes_any c6 HO.out.src (by omega))
          clear hbits hbl hlt hk
          go_wp2_with (go_at_call 191; refine HBY.out.mono ?_; rintro e w6 ⟨x6, rfl, ho6, hb6⟩; have HO6 := Lib.hid ho6; have HB6 := Lib.hid hb6; clear ho6 hb6)
          refine bodyPost_ret (v := .tuple #[x6, .int .i64 0]) (by simp [results, Try.results297, go_sem]) rfl ⟨.inl ⟨by rw [HF.out, HK2.out]; rfl, x6, rfl, ?_⟩, bl_step' HB.out (HB6.out.mono HB.out.size)⟩
          have h9 := HO6.out
          rw [HBL.out, ← HBI.out] at h9
          exact own_down h9 HB.out.size

set_option maxHeartbeats 400000 in
theorem refwrite_kind (v : Value) {x : Int} (w : World) (h : okW x = false) :
    Calls Try.prog 297 #[v, .int .i64 x] w fun e w' => e = .returned (.tuple #[.slice none 0 0, .int .i64 9]) ∧ w = w' := by
  obtain ⟨h1, h2⟩ := okW_not h
  have h3 : (x != 11) = true := by simpa using h1
  have h4 : (x != 15) = true := by simpa using h2
  clear h h1 h2
  go_enter Try.func297, Try.ntmps297
  go_wp2
  exact bodyPost_ret (v := .tuple #[.slice none 0 0, .int .i64 9]) (by simp [results, Try.results297, go_sem]) rfl ⟨rfl, rfl⟩
end Go.Proofs.Ytgdpjaojlhdhdaa
