/-
  BitsBack: what was put, one behind the other, and what is then read: plain lists.
-/
import Derived.Test.YtdklddpkklodnaaBitsAlive
namespace Go.Proofs.Ytdklddpkklodnaa
open Go.RowKit

def bitsP (kp : List (Nat × Nat)) : List Bool := kp.flatMap fun x => unval x.1 x.2
def cellsP (kp : List (Nat × Nat)) : List Value := kp.flatMap fun x => [.int .u64 x.1, .int .i64 x.2]
theorem bitsP_snoc (kp : List (Nat × Nat)) (v n : Nat) : bitsP (kp ++ [(v, n)]) = bitsP kp ++ unval v n := by simp [bitsP]
theorem cellsP_snoc (kp : List (Nat × Nat)) (v n : Nat) : cellsP (kp ++ [(v, n)]) = cellsP kp ++ [.int .u64 v, .int .i64 n] := by simp [cellsP]
theorem length_cellsP (kp : List (Nat × Nat)) : (cellsP kp).length = kp.length * 2 := by
  induction kp with
  | nil => rfl
  | cons x kp ih =>
    have : cellsP (x :: kp) = [.int .u64 x.1, .int .i64 x.2] ++ cellsP kp := rfl
    rw [this, List.length_append, ih, List.length_cons]
    simp
    omega
theorem length_bitsP {kp : List (Nat × Nat)} (h : ∀ x ∈ kp, x.2 ≤ 64 ∧ x.1 < 2 ^ x.2) : (bitsP kp).length ≤ 64 * kp.length := by
  induction kp with
  | nil => simp [bitsP]
  | cons x kp ih =>
    have e : bitsP (x :: kp) = unval x.1 x.2 ++ bitsP kp := rfl
    have h1 := h x (List.mem_cons_self ..)
    have h2 := ih fun y hy => h y (List.mem_cons_of_mem _ hy)
    rw [e, List.length_append, length_unval, List.length_cons]
    omega
theorem bitsP_append (a b : List (Nat × Nat)) : bitsP (a ++ b) = bitsP a ++ bitsP b := by simp [bitsP]
theorem bitsP_split {kp : List (Nat × Nat)} {k : Nat} (h : k < kp.length) : bitsP kp = bitsP (kp.take k) ++ (unval kp[k].1 kp[k].2 ++ bitsP (kp.drop (k + 1))) := by
  have h1 : kp = kp.take k ++ (kp[k] :: kp.drop (k + 1)) := by simp
  have h2 : bitsP (kp[k] :: kp.drop (k + 1)) = unval kp[k].1 kp[k].2 ++ bitsP (kp.drop (k + 1)) := rfl
  rw [← h2, ← bitsP_append, ← h1]
theorem bitsP_take {kp : List (Nat × Nat)} {k : Nat} (h : k < kp.length) : (bitsP (kp.take (k + 1))).length = (bitsP (kp.take k)).length + kp[k].2 := by
  rw [List.take_succ_eq_append_getElem h, bitsP_append, List.length_append]
  simp [bitsP, length_unval]
theorem cellsP_at {kp : List (Nat × Nat)} {k : Nat} (h : k < kp.length) : (cellsP kp)[k * 2]? = some (.int .u64 kp[k].1) ∧ (cellsP kp)[k * 2 + 1]? = some (.int .i64 kp[k].2) := by
  have h1 : kp = kp.take k ++ (kp[k] :: kp.drop (k + 1)) := by simp
  have h2 : cellsP kp = cellsP (kp.take k) ++ ([.int .u64 kp[k].1, .int .i64 kp[k].2] ++ cellsP (kp.drop (k + 1))) := by
    have h3 : cellsP (kp[k] :: kp.drop (k + 1)) = [.int .u64 kp[k].1, .int .i64 kp[k].2] ++ cellsP (kp.drop (k + 1)) := rfl
    have h4 : ∀ a b, cellsP (a ++ b) = cellsP a ++ cellsP b := fun a b => by simp [cellsP]
    rw [← h3, ← h4, ← h1]
  have hl : (cellsP (kp.take k)).length = k * 2 := by rw [length_cellsP, List.length_take]; omega
  rw [h2]
  constructor
  · rw [List.getElem?_append_right (by omega), hl, Nat.sub_self]
    rfl
  · rw [List.getElem?_append_right (by omega), hl, show k * 2 + 1 - k * 2 = 1 by omega]
    rfl

/-- what is read is what was put -/
theorem seg_back {kp : List (Nat × Nat)} {k : Nat} (h : k < kp.length) (hv : kp[k].1 < 2 ^ kp[k].2) : val (seg (pack (bitsP kp)) (bitsP (kp.take k)).length kp[k].2) = kp[k].1 := by
  unfold seg
  rw [bitsOf_pack, bitsP_split h, List.append_assoc, List.drop_left, List.append_assoc, List.take_left' (length_unval _ _), val_unval]
  exact Nat.mod_eq_of_lt hv
theorem back_fits {kp : List (Nat × Nat)} {k : Nat} (h : k < kp.length) : (bitsP (kp.take k)).length + kp[k].2 ≤ 8 * (pack (bitsP kp)).length := by
  have h1 := congrArg List.length (bitsP_split h)
  rw [List.length_append, List.length_append, length_unval] at h1
  rw [length_pack]
  unfold packLen
  omega
theorem back_rest (bl : List Bool) : ∀ k, bl.length ≤ k → k < 8 * up bl.length → bitAt (pack bl) k = false := by
  intro k h1 h2
  unfold bitAt
  rw [bitsOf_pack, List.getD_eq_getElem?_getD, List.getElem?_append_right h1, List.getElem?_replicate]
  split <;> rfl
theorem pack_small (bl : List Bool) : ∀ b ∈ pack bl, b < 256 := by
  intro b hb
  unfold pack at hb
  simp only [List.mem_map] at hb
  obtain ⟨i, _, rfl⟩ := hb
  exact byteAt_lt _ _
end Go.Proofs.Ytdklddpkklodnaa
