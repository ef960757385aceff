/-
  What a reader does: Read, Left, a bit.
-/
import Derived.Test.YtdklddpkklodnaaBitsPut
namespace Go.Proofs.Ytdklddpkklodnaa
open Go.RowKit

theorem unval_at (v n j : Nat) (h : j < n) : (unval v n)[j]? = some (v / 2 ^ (n - 1 - j) % 2 == 1) := by
  induction n generalizing v with
  | zero => omega
  | succ n ih =>
    rw [unval]
    by_cases hj : j < n
    · rw [List.getElem?_append_left (by rw [length_unval]; exact hj), ih _ hj, Nat.div_div_eq_div_mul]
      have e : n + 1 - 1 - j = (n - 1 - j) + 1 := by omega
      rw [e, Nat.pow_succ, Nat.mul_comm 2]
    · have e : j = n := by omega
      subst e
      rw [List.getElem?_append_right (by rw [length_unval]; omega), length_unval, Nat.sub_self]
      simp

/-- bit i of bytes -/
def bitAt (bs : List Nat) (i : Nat) : Bool := (bitsOf bs).getD i false
theorem bitAt_eq {bs : List Nat} {i b : Nat} (h : bs[i / 8]? = some b) : bitAt bs i = (b / 2 ^ (7 - i % 8) % 2 == 1) := by
  unfold bitAt
  rw [List.getD_eq_getElem?_getD, bitsOf_at bs i b h, unval_at b 8 (i % 8) (Nat.mod_lt _ (by omega))]
  rfl

/-- a reader at block p, with its bytes in block g, stands at bit i -/
def RRep (w : World) (p g : Nat) (bs : List Nat) (i : Nat) : Prop :=
  Row w p 123 #[.slice (some ⟨g, 0, none⟩) bs.length bs.length, .int .i64 i] ∧ Row w g 5 (bts bs).toArray ∧ i ≤ 8 * bs.length ∧ bs.length ≤ 8192 ∧ ∀ b ∈ bs, b < 256
theorem RRep.only {w v : World} {p g : Nat} {bs : List Nat} {i : Nat} {S : Nat → Prop} (h : RRep w p g bs i) (ho : Only S w v) (h1 : ¬ S p) (h2 : ¬ S g) : RRep v p g bs i :=
  ⟨h.1.only ho h1, h.2.1.only ho h2, h.2.2⟩
theorem RRep.later {w v : World} {p g : Nat} {bs : List Nat} {i : Nat} (h : RRep w p g bs i) (hb : Below w.heap.size w v) : RRep v p g bs i :=
  h.only (S := fun _ => False) (.of_below hb) (fun h => h) (fun h => h)
theorem RRep.ne {w : World} {p g : Nat} {bs : List Nat} {i : Nat} (h : RRep w p g bs i) : g ≠ p := h.2.1.apart h.1 (by decide)

theorem add_zero_addr (g j : Nat) : (⟨g, 0, none⟩ : Addr).add j = ⟨g, j, none⟩ := by
  unfold Addr.add
  split
  · rename_i h
    rw [h]
  · simp
theorem row_src {w : World} {g : Nat} {t : TypeId} {xs : List Value} (h : Row w g t xs.toArray) : Src w (some ⟨g, 0, none⟩) xs := by
  intro _
  refine ⟨_, rfl, fun j u hu => ?_⟩
  rw [add_zero_addr]
  exact h.read (by simpa using hu)

set_option maxHeartbeats 800000 in
theorem read_any (A : Option Addr) (cap : Nat) (l : List Nat) (w : World) (hn : l.length ≤ 8192) (hc : l.length ≤ cap) (hs : Src w A (bts l)) (hb : ∀ b ∈ l, b < 256) :
    Calls Try.prog 53 #[.slice A l.length cap] w fun e w' => ∃ p g, e = .returned (.pointer (some ⟨p, 0, none⟩)) ∧ w.heap.size ≤ p ∧ w.heap.size ≤ g ∧ RRep w' p g l 0 ∧ Below w.heap.size w w' := by
  have hcop := fun A' cap' W h => copied_any A' cap' l W hn h
  have HC := Lib.hid hcop
  have HS := Lib.hid hs
  have HL := Lib.hid hb
  clear hcop hs hb
  generalize hnn : l.length = n at *
  go_enter Try.func53, Try.ntmps53
  go_wp2_with (go_at_call 76; refine (HC.out _ _ _ ?_).mono ?_; exact HS.out; rintro e w1 ⟨g, rfl, hg, hrow, hb⟩)
  go_ret
  have hp := hb.size
  refine ⟨w1.heap.size, g, rfl, hp, hg, ⟨?_, hrow.more _, by omega, by omega, HL.out⟩, bl_alloc hb _⟩
  rw [hnn]
  exact Row.made _ _ _

set_option maxHeartbeats 400000 in
theorem left_any {w : World} {p g : Nat} {bs : List Nat} {i : Nat} (h : RRep w p g bs i) :
    Calls Try.prog 86 #[.pointer (some ⟨p, 0, none⟩)] w fun e w' => e = .returned (.int .i64 ((8 * bs.length - i : Nat) : Int)) ∧ Below w.heap.size w w' := by
  have hc0 : w.cell? ⟨p, 0, none⟩ = some (.slice (some ⟨g, 0, none⟩) bs.length bs.length) := h.1.read rfl
  have hc1 : w.cell? ⟨p, 1, none⟩ = some (.int .i64 i) := h.1.read rfl
  have hi := h.2.2.1
  have hn := h.2.2.2.1
  clear h
  generalize bs.length = n at *
  go_enter Try.func86, Try.ntmps86
  go_wp2
  go_quiet (fail)
  go_wp2
  go_ret
  exact ⟨ret_int (by first | rfl | omega), below_drewN (Below.refl _ _) _⟩
set_option maxHeartbeats 400000 in
theorem left_nil (w : World) : Calls Try.prog 86 #[.pointer none] w fun e w' => e = .returned (.int .i64 0) ∧ w = w' := by
  go_enter Try.func86, Try.ntmps86
  go_wp2
  go_ret
  exact ⟨rfl, rfl⟩

theorem bit_u8 (b k : Nat) (hb : b < 256) : bits .and .u8 ((b : Int) / 2 ^ k) 1 = ((b / 2 ^ k % 2 == 1).toNat : Int) := by
  rw [cast_div_pow]
  have h1 : b / 2 ^ k ≤ b := Nat.div_le_self _ _
  generalize b / 2 ^ k = q at *
  have h2 := u8_and_nat q 1 (by omega) (by omega)
  rw [Nat.and_one_is_mod] at h2
  rw [show (1 : Int) = ((1 : Nat) : Int) from rfl, h2]
  rcases Nat.mod_two_eq_zero_or_one q with h | h <;> rw [h] <;> rfl

set_option maxHeartbeats 400000 in
theorem bit_any {w : World} {p g : Nat} {bs : List Nat} {i k : Nat} (h : RRep w p g bs k) (hi : i < 8 * bs.length) :
    Calls Try.prog 87 #[.pointer (some ⟨p, 0, none⟩), .int .i64 i] w fun e w' => e = .returned (.int .u8 (bitAt bs i).toNat) ∧ w = w' := by
  have hc0 : w.cell? ⟨p, 0, none⟩ = some (.slice (some ⟨g, 0, none⟩) bs.length bs.length) := h.1.read rfl
  have hn := h.2.2.2.1
  have hlt : i / 8 < bs.length := by omega
  have hat : bs[i / 8]? = some bs[i / 8] := List.getElem?_eq_getElem hlt
  have hc1 : w.cell? ⟨g, i / 8, none⟩ = some (.int .u8 bs[i / 8]) := h.2.1.read (by simpa using bts_at hat)
  have hb := h.2.2.2.2 _ (List.getElem_mem hlt)
  have hv := bitAt_eq hat
  generalize bs[i / 8] = b at *
  generalize bs.length = n at *
  have HV := Lib.hid hv
  have HB := Lib.hid hb
  clear h hat hv hb
  go_enter Try.func87, Try.ntmps87
  go_wp2
  go_ret
  refine ⟨ret_int ?_, rfl⟩
  rw [HV.out]
  exact bit_u8 b _ HB.out
end Go.Proofs.Ytdklddpkklodnaa
