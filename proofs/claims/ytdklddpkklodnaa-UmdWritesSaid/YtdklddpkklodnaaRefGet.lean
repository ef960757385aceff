/-
  The document's answer for what is got: bytes as bits, and the number of the next of them.
-/
import Derived.Test.YtdklddpkklodnaaRefBytes
namespace Go.Proofs.Ytdklddpkklodnaa
open Go.RowKit

theorem bitsOf_take {bs : List Nat} {i : Nat} (h : i < bs.length) : bitsOf (bs.take (i + 1)) = bitsOf (bs.take i) ++ unval bs[i] 8 := by
  have h1 : ∀ a b, bitsOf (a ++ b) = bitsOf a ++ bitsOf b := fun a b => by simp [bitsOf]
  have h2 : ∀ b, bitsOf [b] = unval b 8 := fun b => by simp [bitsOf]
  rw [List.take_succ_eq_append_getElem h, h1, h2]
theorem unval_take {b k : Nat} (h : k < 8) : (unval b 8).take (k + 1) = (unval b 8).take k ++ [b / 2 ^ (7 - k) % 2 == 1] := by
  have hl : k < (unval b 8).length := by rw [length_unval]; exact h
  rw [List.take_succ_eq_append_getElem hl]
  have h1 := unval_at b 8 k h
  rw [List.getElem?_eq_getElem hl] at h1
  injection h1 with h1
  rw [h1]
theorem half_down {k : Nat} (h : k < 8) : 128 / 2 ^ k = 2 ^ (7 - k) ∧ 0 < 128 / 2 ^ k ∧ 128 / 2 ^ k ≤ 128 := by
  obtain rfl | rfl | rfl | rfl | rfl | rfl | rfl | rfl : k = 0 ∨ k = 1 ∨ k = 2 ∨ k = 3 ∨ k = 4 ∨ k = 5 ∨ k = 6 ∨ k = 7 := by omega
  all_goals decide
theorem div_bit (b p : Nat) : (((b : Int) / (p : Int)) % 2 == 1) = (b / p % 2 == 1) := by
  rw [Bool.eq_iff_iff, beq_iff_eq, beq_iff_eq, ← Int.natCast_ediv]
  omega

/-- one more bit behind a list of the call's own -/
theorem OwnB.more {B g cap : Nat} {w0 w w2 : World} {x : Value} {bl : List Bool} {bit : Bool} {o : Obj} (h : OwnB B w x bl) (hb : Below B w0 w) (hB : B ≤ w.heap.size) (hown : w2.ownsRow B 4 1 (.slice (some ⟨g, 0, none⟩) (bl.length + 1) cap) (bl.length + 1) (bls bl ++ [.bool bit]))
    (hgrow : (w.alloc o).grownBy w2 x.ownBlock) : OwnB B w2 (.slice (some ⟨g, 0, none⟩) (bl.length + 1) cap) (bl ++ [bit]) ∧ Below B w0 w2 := by
  refine ⟨⟨?_, fun h => by simp at h⟩, (hb.alloc hB _).grown hgrow (by simp; omega) (fun r hr => (h.1.lt r hr).1)⟩
  rw [List.length_append, bls_append]
  exact hown

set_option maxRecDepth 100000 in
set_option maxHeartbeats 3200000 in
theorem refbits_any {w : World} {A : Option Addr} {bs : List Nat} (c : Nat) (hs : SrcB w A (bts bs)) (hn : bs.length ≤ 8000) (hb : ∀ b ∈ bs, b < 256) :
    Calls Try.prog 57 #[.slice A bs.length c] w fun e w' => ∃ x', e = .returned x' ∧ OwnB w.heap.size w' x' (bitsOf bs) ∧ Below w.heap.size w w' := by
  obtain ⟨i0, hi, hi0, hi1, hi2⟩ := info_parts Try.info4
  have HS := Lib.hid hs
  have HV := Lib.hid hb
  clear hs hb
  go_enter Try.func57, Try.ntmps57
  go_wp2
  go_loopw [3, 4] (fun o i wr => ∃ m : Nat, m ≤ bs.length ∧ i = .int .i64 m ∧ OwnB w.heap.size wr o (bitsOf (bs.take m)) ∧ Below w.heap.size w wr) (fun _ i _ => bs.length - (intOf i).toNat)
  case atStart => exact ⟨0, by omega, rfl, OwnB.nil _ _, Below.refl _ _⟩
  case round =>
    obtain ⟨m, hm, rfl, hown, hbr⟩ := hrel
    have HO := Lib.hid hown
    have HB := Lib.hid hbr
    clear hown hbr
    by_cases hlt : m < bs.length
    · obtain ⟨b, off, rfl, hc⟩ := HS.out (by rw [length_bts]; omega)
      have hx : bs[m]? = some bs[m] := List.getElem?_eq_getElem hlt
      have d0 := Lib.hid (hc _ _ (bts_at hx))
      have hbyte := HV.out bs[m] (List.getElem_mem hlt)
      have htk := Lib.hid (bitsOf_take hlt)
      generalize bs[m] = byte at *
      have hlen : (bitsOf (bs.take m)).length = 8 * m := by rw [length_bitsOf, List.length_take]; omega
      have hdec : (m : Int) < (bs.length : Int) := by omega
      have hdec2 : (m : Int) < 8192 := by omega
      have hm0 : (0 : Int) ≤ (m : Int) := by omega
      have HST := Lib.hid (show OwnB w.heap.size wr u3 (bitsOf (bs.take m) ++ (unval byte 8).take 0) from by rw [List.take_zero, List.append_nil]; exact HO.out)
      have HB0 := Lib.hid HB.out
      clear hc hx HO HB
      go_wp2
      go_loopw [3, 5] (fun o y wr => ∃ k : Nat, k ≤ 8 ∧ y = .int .u8 ((128 / 2 ^ k : Nat) : Int) ∧ OwnB w.heap.size wr o (bitsOf (bs.take m) ++ (unval byte 8).take k) ∧ Below w.heap.size w wr) (fun _ y _ => (intOf y).toNat)
      case atStart => exact ⟨0, by omega, rfl, HST.out, HB0.out⟩
      case round =>
        obtain ⟨k, hk, rfl, hown, hbr⟩ := hrel
        have HO := Lib.hid hown
        have HB := Lib.hid hbr
        clear hown hbr HST HB0
        rcases Nat.lt_or_ge k 8 with hk8 | hk8
        · obtain ⟨hp1, hp2, hp3⟩ := half_down hk8
          have hhalf := Lib.hid (half_pow 128 k)
          have hcell := kept_box HB.out d0.out
          have hnx : (bitsOf (bs.take m) ++ (unval byte 8).take k) ++ [byte / (128 / 2 ^ k) % 2 == 1] = bitsOf (bs.take m) ++ (unval byte 8).take (k + 1) := by
            rw [List.append_assoc, hp1, ← unval_take hk8]
          have hll : (bitsOf (bs.take m) ++ (unval byte 8).take k).length < 65536 := by
            rw [List.length_append, List.length_take, length_unval]
            omega
          have hdb := div_bit byte (128 / 2 ^ k)
          generalize 128 / 2 ^ k = p at *
          generalize bitsOf (bs.take m) ++ (unval byte 8).take k = cur at *
          have HN := Lib.hid hnx
          clear hnx hp1
          go_wp2_with (at_builtin; go_loud (refine wpList_append_lies _ rfl _ _ _ (by rfl) w.heap.size 4 i0 (.bool false) 1 1 Try.underlying83 hi hi0 hi1 hi2 rfl (by omega) u3 cur.length _ (by rfl) (HO.out.1.alloc _) ⟨wr.heap.size, 0, none⟩ 1 1 [.bool (byte / p % 2 == 1)] (by rfl) (by rfl) (cell_one_new _ _ _) (fun u hu => by simp at hu; subst hu; rfl) (by omega) (by unfold maxLen; omega) (by omega) (by have := HB.out.size; simp; omega) (wr.heap.size + 1) (by simp) ?_))
          intro g cap w2 hown2 hgrow _ _
          have H2 := Lib.hid (OwnB.more HO.out HB.out HB.out.size hown2 hgrow)
          clear hown2 hgrow
          go_wp2
          go_roundw
          case rel => exact ⟨k + 1, by omega, by rw [← hhalf.out]; go_num, by rw [← HN.out]; exact H2.out.1, H2.out.2⟩
          case measure => simp [intOf]; omega
        · obtain rfl : k = 8 := by omega
          have hnext : OwnB w.heap.size wr u3 (bitsOf (bs.take (m + 1))) := by
            have h1 := HO.out
            rw [show (unval byte 8).take 8 = unval byte 8 from List.take_of_length_le (by rw [length_unval]; omega)] at h1
            rw [htk.out]
            exact h1
          have HN := Lib.hid hnext
          clear hnext
          go_wp2
          go_roundw
          case rel => exact ⟨m + 1, by omega, by go_num, HN.out, HB.out⟩
          case measure => simp [intOf]; omega
    · obtain rfl : m = bs.length := by omega
      rw [List.take_length] at HO
      go_wp2
      go_ret
      exact ⟨_, rfl, HO.out, HB.out⟩

set_option maxHeartbeats 400000 in
theorem refget_arg (x : Value) (a n : Int) (w : World) (h : n < 0 ∨ 64 < n) : Calls Try.prog 58 #[x, .int .i64 a, .int .i64 n] w fun e w' => e = .returned (.tuple #[.int .u64 0, .int .i64 a, .int .i64 1]) ∧ w = w' := by
  by_cases h1 : n < 0
  · clear h
    go_enter Try.func58, Try.ntmps58
    go_wp2
    exact bodyPost_ret (v := .tuple #[.int .u64 0, .int .i64 a, .int .i64 1]) (by simp [results, Try.results58, go_sem]) rfl ⟨rfl, rfl⟩
  · have h2 : 64 < n := by omega
    clear h
    go_enter Try.func58, Try.ntmps58
    go_wp2
    exact bodyPost_ret (v := .tuple #[.int .u64 0, .int .i64 a, .int .i64 1]) (by simp [results, Try.results58, go_sem]) rfl ⟨rfl, rfl⟩

set_option maxHeartbeats 400000 in
theorem refget_short (A : Option Addr) (L c a n : Nat) (w : World) (hn : n ≤ 64) (hL : L ≤ 65536) (ha : a ≤ L) (h : L - a < n) : Calls Try.prog 58 #[.slice A L c, .int .i64 a, .int .i64 n] w fun e w' => e = .returned (.tuple #[.int .u64 0, .int .i64 a, .int .i64 8]) ∧ w = w' := by
  go_enter Try.func58, Try.ntmps58
  go_wp2
  exact bodyPost_ret (v := .tuple #[.int .u64 0, .int .i64 a, .int .i64 8]) (by simp [results, Try.results58, go_sem]) rfl ⟨rfl, rfl⟩

theorem bitAt_get {bs : List Nat} {i : Nat} (h : i < 8 * bs.length) : (bitsOf bs)[i]? = some (bitAt bs i) := by
  have hl : i < (bitsOf bs).length := by rw [length_bitsOf]; exact h
  unfold bitAt
  rw [List.getD_eq_getElem?_getD, List.getElem?_eq_getElem hl]
  rfl

set_option maxRecDepth 100000 in
set_option maxHeartbeats 1600000 in
theorem refget_ok {bs : List Nat} (A : Option Addr) (L c a n : Nat) (w : World) (hs : SrcB w A (bls (bitsOf bs))) (hL : L = 8 * bs.length) (hb : bs.length ≤ 8000) (hn : n ≤ 64) (h : a + n ≤ L) :
    Calls Try.prog 58 #[.slice A L c, .int .i64 a, .int .i64 n] w fun e w' => e = .returned (.tuple #[.int .u64 (val (seg bs a n)), .int .i64 ((a + n : Nat) : Int), .int .i64 0]) ∧ w = w' := by
  have HS := Lib.hid hs
  have HL := Lib.hid hL
  have hLL : L ≤ 65536 := by omega
  clear hs hL hb
  go_enter Try.func58, Try.ntmps58
  go_wp2
  go_loopw [9, 10] (fun y i wr => ∃ q : Nat, a ≤ q ∧ q ≤ a + n ∧ y = .int .u64 ((val (seg bs a (q - a)) : Nat) : Int) ∧ i = .int .i64 q ∧ w = wr) (fun _ i _ => a + n - (intOf i).toNat)
  case atStart => exact ⟨a, by omega, by omega, by rw [Nat.sub_self, seg_zero, val_nil]; rfl, rfl, rfl⟩
  case round =>
    obtain ⟨q, hq1, hq2, rfl, rfl, rfl⟩ := hrel
    by_cases hlt : q < a + n
    · have hqL : q < 8 * bs.length := by have := HL.out; omega
      obtain ⟨b, off, rfl, hc⟩ := HS.out (by rw [length_bls, length_bitsOf]; omega)
      have hcell := hc _ _ (bls_at (bitAt_get hqL))
      have hstep := val_seg_succ (bs := bs) (i := a) (m := q - a) (by omega)
      have e1 : a + (q - a) = q := by omega
      have e2 : q - a + 1 = q + 1 - a := by omega
      have hV := val_small (l := seg bs a (q - a)) (by rw [length_seg (by omega)]; omega)
      rw [e1, e2] at hstep
      generalize val (seg bs a (q - a)) = V at *
      generalize bitAt bs q = bit at *
      have HST := Lib.hid hstep
      have hi0 : (0 : Int) ≤ (q : Int) := by omega
      have hi1 : (q : Int) < (L : Int) := by omega
      clear hc hstep e1 e2
      cases bit
      · go_wp2
        go_roundw
        case rel => exact ⟨q + 1, by omega, by omega, by rw [HST.out]; go_num, by go_num, trivial⟩
        case measure => simp [intOf]; omega
      · go_wp2
        go_roundw
        case rel => exact ⟨q + 1, by omega, by omega, by rw [HST.out]; go_num, by go_num, trivial⟩
        case measure => simp [intOf]; omega
    · obtain rfl : q = a + n := by omega
      rw [Nat.add_sub_cancel_left]
      go_wp2
      exact bodyPost_ret (v := .tuple #[.int .u64 (val (seg bs a n)), .int .i64 ((a + n : Nat) : Int), .int .i64 0]) (by simp [results, Try.results58, go_sem]) rfl ⟨rfl, rfl⟩
end Go.Proofs.Ytdklddpkklodnaa
