/-
  Bits and the numbers and bytes that they make: plain lists, no program.
-/
import Derived.Below
namespace Go.Proofs.Ytdklddpkklodnaa

/-- the number whose bits these are, the highest first -/
def val (l : List Bool) : Nat := l.foldl (fun v b => 2 * v + b.toNat) 0
/-- a number's last n bits -/
def unval (v : Nat) : Nat → List Bool
  | 0 => []
  | n + 1 => unval (v / 2) n ++ [v % 2 == 1]
/-- byte i of bits, filled up with noughts -/
def eight (bl : List Bool) (i : Nat) : List Bool := (List.range 8).map fun j => bl.getD (8 * i + j) false
def byteAt (bl : List Bool) (i : Nat) : Nat := val (eight bl i)
def packLen (n : Nat) : Nat := (n + 7) / 8
def pack (bl : List Bool) : List Nat := (List.range (packLen bl.length)).map (byteAt bl)
def bitsOf (bs : List Nat) : List Bool := bs.flatMap (unval · 8)

theorem snoc_ind {P : List Bool → Prop} (h0 : P []) (h1 : ∀ l b, P l → P (l ++ [b])) (l : List Bool) : P l := by
  have h : ∀ m : List Bool, P m.reverse := by
    intro m
    induction m with
    | nil => exact h0
    | cons a m ih => rw [List.reverse_cons]; exact h1 _ _ ih
  have h2 := h l.reverse
  rwa [List.reverse_reverse] at h2
theorem val_nil : val [] = 0 := rfl
theorem val_snoc (l : List Bool) (b : Bool) : val (l ++ [b]) = 2 * val l + b.toNat := by simp [val]
theorem val_append (l m : List Bool) : val (l ++ m) = val l * 2 ^ m.length + val m := by
  induction m using snoc_ind with
  | h0 => simp [val_nil]
  | h1 m b ih =>
    rw [← List.append_assoc, val_snoc, ih, val_snoc, List.length_append, List.length_singleton, Nat.pow_succ]
    rw [Nat.mul_add, ← Nat.mul_assoc, ← Nat.mul_assoc, Nat.mul_comm 2 (val l), Nat.mul_assoc (val l) 2, Nat.mul_comm 2 (2 ^ m.length), ← Nat.mul_assoc]
    omega
theorem val_lt (l : List Bool) : val l < 2 ^ l.length := by
  induction l using snoc_ind with
  | h0 => simp [val_nil]
  | h1 l b ih =>
    rw [val_snoc, List.length_append, List.length_singleton, Nat.pow_succ]
    cases b <;> simp <;> omega

theorem length_unval (v n : Nat) : (unval v n).length = n := by
  induction n generalizing v with
  | zero => rfl
  | succ n ih => simp [unval, ih]
theorem val_unval (v n : Nat) : val (unval v n) = v % 2 ^ n := by
  induction n generalizing v with
  | zero => simp [unval, val_nil, Nat.mod_one]
  | succ n ih =>
    rw [unval, val_snoc, ih, Nat.pow_succ, Nat.mul_comm (2 ^ n) 2, Nat.mod_mul]
    have : (v % 2 == 1).toNat = v % 2 := by
      rcases Nat.mod_two_eq_zero_or_one v with h | h <;> rw [h] <;> rfl
    rw [this]
    omega
theorem unval_val (l : List Bool) : unval (val l) l.length = l := by
  induction l using snoc_ind with
  | h0 => rfl
  | h1 l b ih =>
    rw [List.length_append, List.length_singleton, unval, val_snoc]
    have h1 : (2 * val l + b.toNat) / 2 = val l := by cases b <;> simp <;> omega
    have h2 : ((2 * val l + b.toNat) % 2 == 1) = b := by cases b <;> simp <;> omega
    rw [h1, h2, ih]
theorem unval_split (v n m : Nat) : unval v (n + m) = unval (v / 2 ^ m) n ++ unval v m := by
  induction m generalizing v with
  | zero => simp [unval]
  | succ m ih =>
    rw [← Nat.add_assoc, unval, ih, unval, List.append_assoc, Nat.div_div_eq_div_mul, Nat.pow_succ, Nat.mul_comm 2]
theorem unval_mod (v m : Nat) : unval (v % 2 ^ m) m = unval v m := by
  have h := unval_val (unval v m)
  rw [val_unval, length_unval] at h
  exact h

theorem length_eight (bl : List Bool) (i : Nat) : (eight bl i).length = 8 := by simp [eight]
theorem byteAt_lt (bl : List Bool) (i : Nat) : byteAt bl i < 256 := by
  have := val_lt (eight bl i)
  rw [length_eight] at this
  exact this
theorem unval_byteAt (bl : List Bool) (i : Nat) : unval (byteAt bl i) 8 = eight bl i := by
  have h := unval_val (eight bl i)
  rw [length_eight] at h
  exact h
theorem length_pack (bl : List Bool) : (pack bl).length = packLen bl.length := by simp [pack]
theorem pack_at (bl : List Bool) {i : Nat} (h : i < packLen bl.length) : (pack bl)[i]? = some (byteAt bl i) := by simp [pack, h]
theorem eight_at (bl : List Bool) {i j : Nat} (h : j < 8) : (eight bl i)[j]? = some (bl.getD (8 * i + j) false) := by simp [eight, h]

theorem length_bitsOf (bs : List Nat) : (bitsOf bs).length = 8 * bs.length := by
  induction bs with
  | nil => rfl
  | cons b bs ih =>
    have : bitsOf (b :: bs) = unval b 8 ++ bitsOf bs := rfl
    rw [this, List.length_append, length_unval, ih, List.length_cons]
    omega
theorem bitsOf_at (bs : List Nat) : ∀ (k : Nat) (b : Nat), bs[k / 8]? = some b → (bitsOf bs)[k]? = (unval b 8)[k % 8]? := by
  induction bs with
  | nil => intro k b h; simp at h
  | cons a bs ih =>
    intro k b h
    have e : bitsOf (a :: bs) = unval a 8 ++ bitsOf bs := rfl
    rw [e]
    by_cases hk : k < 8
    · have h0 : k / 8 = 0 := by omega
      rw [h0] at h
      simp at h
      subst h
      rw [List.getElem?_append_left (by rw [length_unval]; exact hk), Nat.mod_eq_of_lt hk]
    · obtain ⟨j, rfl⟩ : ∃ j, k = j + 8 := ⟨k - 8, by omega⟩
      have h0 : (j + 8) / 8 = j / 8 + 1 := by omega
      rw [h0, List.getElem?_cons_succ] at h
      rw [List.getElem?_append_right (by rw [length_unval]; omega), length_unval, Nat.add_sub_cancel, ih j b h, Nat.add_mod_right]
theorem bitsOf_pack (bl : List Bool) : bitsOf (pack bl) = bl ++ List.replicate (8 * packLen bl.length - bl.length) false := by
  have hle : bl.length ≤ 8 * packLen bl.length := by unfold packLen; omega
  apply List.ext_getElem?
  intro k
  by_cases hk : k < 8 * packLen bl.length
  · rw [bitsOf_at _ k _ (pack_at bl (by omega)), unval_byteAt, eight_at bl (Nat.mod_lt _ (by omega)), show 8 * (k / 8) + k % 8 = k by omega]
    by_cases hb : k < bl.length
    · rw [List.getElem?_append_left hb, List.getD_eq_getElem?_getD, List.getElem?_eq_getElem hb]
      rfl
    · rw [List.getElem?_append_right (by omega), List.getD_eq_getElem?_getD, List.getElem?_eq_none (by omega), List.getElem?_replicate, if_pos (by omega)]
      rfl
  · rw [List.getElem?_eq_none (by rw [length_bitsOf, length_pack]; omega), List.getElem?_eq_none (by rw [List.length_append, List.length_replicate]; omega)]

/-- one more bit in a byte, the rest of it noughts -/
theorem or_bit (r : Nat) (hr : r < 8) (L : List Bool) (hL : L.length = 8) (hz : ∀ j, r ≤ j → j < 8 → L[j]? = some false) (b : Bool) :
    val (L.set r b) = val L ||| (b.toNat <<< (7 - r)) := by
  match L, hL with
  | [x0, x1, x2, x3, x4, x5, x6, x7], _ =>
    have z : ∀ j, r ≤ j → j < 8 → [x0, x1, x2, x3, x4, x5, x6, x7][j]? = some false := hz
    clear hz
    obtain rfl | rfl | rfl | rfl | rfl | rfl | rfl | rfl : r = 0 ∨ r = 1 ∨ r = 2 ∨ r = 3 ∨ r = 4 ∨ r = 5 ∨ r = 6 ∨ r = 7 := by omega
    all_goals
      have h7 := z 7 (by omega) (by omega)
      have h6 := fun h => z 6 h (by omega)
      have h5 := fun h => z 5 h (by omega)
      have h4 := fun h => z 4 h (by omega)
      have h3 := fun h => z 3 h (by omega)
      have h2 := fun h => z 2 h (by omega)
      have h1 := fun h => z 1 h (by omega)
      have h0 := fun h => z 0 h (by omega)
      clear z
      simp at h7 h6 h5 h4 h3 h2 h1 h0
      revert x0 x1 x2 x3 x4 x5 x6 x7 b
      decide
theorem eight_snoc (bl : List Bool) (b : Bool) : eight (bl ++ [b]) (bl.length / 8) = (eight bl (bl.length / 8)).set (bl.length % 8) b := by
  apply List.ext_getElem?
  intro j
  by_cases hj : j < 8
  · rw [eight_at _ hj, List.getElem?_set]
    by_cases he : bl.length % 8 = j
    · subst he
      rw [if_pos rfl, if_pos (by rw [length_eight]; omega), show 8 * (bl.length / 8) + bl.length % 8 = bl.length by omega]
      simp [List.getD_eq_getElem?_getD]
    · rw [if_neg he, eight_at _ hj, List.getD_eq_getElem?_getD, List.getD_eq_getElem?_getD]
      congr 2
      by_cases hlt : 8 * (bl.length / 8) + j < bl.length
      · rw [List.getElem?_append_left hlt]
      · rw [List.getElem?_append_right (by omega), List.getElem?_eq_none (l := bl) (by omega), List.getElem?_eq_none (by simp; omega)]
  · rw [List.getElem?_eq_none (by rw [length_eight]; omega), List.getElem?_eq_none (by rw [List.length_set, length_eight]; omega)]
theorem byteAt_snoc (bl : List Bool) (b : Bool) : byteAt (bl ++ [b]) (bl.length / 8) = byteAt bl (bl.length / 8) ||| (b.toNat <<< (7 - bl.length % 8)) := by
  unfold byteAt
  rw [eight_snoc]
  refine or_bit _ (Nat.mod_lt _ (by omega)) _ (length_eight _ _) (fun j h1 h2 => ?_) b
  rw [eight_at _ h2, List.getD_eq_getElem?_getD, List.getElem?_eq_none (by omega)]
  rfl
theorem byteAt_other (bl : List Bool) (b : Bool) {i : Nat} (h : i < bl.length / 8) : byteAt (bl ++ [b]) i = byteAt bl i := by
  unfold byteAt eight
  congr 1
  apply List.map_congr_left
  intro j hj
  have : j < 8 := List.mem_range.1 hj
  rw [List.getD_eq_getElem?_getD, List.getD_eq_getElem?_getD, List.getElem?_append_left (by omega)]
theorem byteAt_beyond (bl : List Bool) {i : Nat} (h : bl.length ≤ 8 * i) : byteAt bl i = 0 := by
  have : eight bl i = List.replicate 8 false := by
    unfold eight
    apply List.ext_getElem?
    intro j
    by_cases hj : j < 8
    · rw [List.getElem?_map, List.getElem?_range hj, List.getElem?_replicate, if_pos hj]
      simp [List.getD_eq_getElem?_getD, List.getElem?_eq_none (show bl.length ≤ 8 * i + j by omega)]
    · simp [hj]
  unfold byteAt
  rw [this]
  rfl
/-- the bytes ahead of an added bit -/
def room (bl : List Bool) : List Nat := if bl.length % 8 = 0 then pack bl ++ [0] else pack bl
theorem length_room (bl : List Bool) : (room bl).length = bl.length / 8 + 1 := by
  unfold room
  split <;> simp [length_pack, packLen] <;> omega
theorem room_at (bl : List Bool) {i : Nat} (h : i ≤ bl.length / 8) : (room bl)[i]? = some (byteAt bl i) := by
  unfold room
  split
  · by_cases hi : i < packLen bl.length
    · rw [List.getElem?_append_left (by rw [length_pack]; exact hi), pack_at bl hi]
    · have : i = packLen bl.length := by unfold packLen at *; omega
      subst this
      rw [List.getElem?_append_right (by rw [length_pack]; omega), length_pack, Nat.sub_self, byteAt_beyond bl (by unfold packLen; omega)]
      rfl
  · exact pack_at bl (by unfold packLen; omega)
theorem pack_snoc (bl : List Bool) (b : Bool) : pack (bl ++ [b]) = (room bl).set (bl.length / 8) (byteAt bl (bl.length / 8) ||| (b.toNat <<< (7 - bl.length % 8))) := by
  apply List.ext_getElem?
  intro i
  have hl : packLen (bl ++ [b]).length = bl.length / 8 + 1 := by simp [packLen]; omega
  by_cases hi : i < bl.length / 8 + 1
  · rw [pack_at _ (by omega), List.getElem?_set]
    by_cases he : bl.length / 8 = i
    · subst he
      rw [if_pos rfl, if_pos (by rw [length_room]; omega), byteAt_snoc]
    · rw [if_neg he, room_at bl (by omega), byteAt_other bl b (by omega)]
  · rw [List.getElem?_eq_none (by rw [length_pack, hl]; omega), List.getElem?_eq_none (by rw [List.length_set, length_room]; omega)]
end Go.Proofs.Ytdklddpkklodnaa
