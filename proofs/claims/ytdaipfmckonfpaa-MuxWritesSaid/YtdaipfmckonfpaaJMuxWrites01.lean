/-
  Small plain lemmas: frames with holes at a jump, memory below a block, a row's last step. What one call may change in memory: some blocks alone; and what stays. Bits and the numbers and bytes that they make: plain lists, no program. What the small functions of package bits do to memory: a copy, a new writer, its length. A bit added to a writer. Numbers put into a writer.
-/
import Derived.Test.YtdaipfmckonfpaaProg
import Derived.WalkKit
import Derived.WalkSpells
import Derived.WalkLawsBesides
import Derived.Deep.QuietTactic
import Derived.BigQuiet
import Derived.Lib.Hide
import Derived.Deep.RegionHeld3
import Derived.Deep.RegionWith
import Derived.WalkMore
import Derived.ScopeJumps
import Derived.Deep.AppendLies
import Derived.Maps.AppendAt
import Derived.Below
import Derived.Laws.CopyOwn
import Derived.BigRegion
import Derived.Laws.BitsAllLaws
namespace Go.Proofs.Ytdaipfmckonfpaa
open Go.RowKit

/-- a list of values, some of them known -/
def Holes : List (Option Value) → (List Value → Prop) → Prop
  | [], k => k []
  | some v :: r, k => Holes r fun l => k (v :: l)
  | none :: r, k => ∃ u, Holes r fun l => k (u :: l)
/-- the frame at a jump -/
def Fr (xs : List (Option Value)) (a : Act) : Prop := Holes xs fun l => a = { tmps := l.toArray, defers := [] }

theorem ret_bool {a b : Bool} (h : a = b) : Ending.returned (.bool a) = .returned (.bool b) := by rw [h]
theorem ret_int {k : IntKind} {a b : Int} (h : a = b) : Ending.returned (.int k a) = .returned (.int k b) := by rw [h]
theorem bl_step {w a b : World} (h : Below w.heap.size w a) (k : Below a.heap.size a b) : Below w.heap.size w b := h.trans (k.mono h.size)
theorem bl_alloc {w a : World} (h : Below w.heap.size w a) (o : Obj) : Below w.heap.size w (a.alloc o) := h.alloc h.size o
theorem bl_drew {w a : World} (h : Below w.heap.size w a) : Below w.heap.size w a.drew := h.drew

/-- a cell known in a world is known in one that is alike below -/
theorem kept_box {w v : World} {g j : Nat} {x : Value} (hb : Below v.heap.size v w) (h : v.cell? ⟨g, j, none⟩ = some x) : w.cell? ⟨g, j, none⟩ = some x :=
  (hb.cell (p := ⟨g, j, none⟩) (by
    rcases Nat.lt_or_ge g v.heap.size with h1 | h1
    · exact h1
    · exfalso
      simp [World.cell?, Array.getElem?_eq_none h1] at h)).trans h

/-- block g holds just these cells, none of them frozen -/
def Row (w : World) (g : Nat) (t : TypeId) (cs : Array Value) : Prop := w.heap[g]? = some (.cells cs t (0, 0))
section
variable {w v : World} {g : Nat} {t : TypeId} {cs : Array Value}
theorem Row.inside (h : Row w g t cs) : g < w.heap.size := by
  rcases Nat.lt_or_ge g w.heap.size with h1 | h1
  · exact h1
  · exfalso
    unfold Row at h
    rw [Array.getElem?_eq_none h1] at h
    cases h
theorem Row.read (h : Row w g t cs) {i : Nat} {x : Value} (hx : cs[i]? = some x) : w.cell? ⟨g, i, none⟩ = some x := (cell_of_row w g i cs t (0, 0) h).trans hx
theorem Row.free (h : Row w g t cs) (i : Nat) : w.frozen? ⟨g, i, none⟩ = false := by
  unfold Row at h
  simp [World.frozen?, h]
theorem Row.made (w : World) (t : TypeId) (cs : Array Value) : Row (w.alloc (.cells cs t)) w.heap.size t cs := heap_alloc_new w _
theorem Row.later (h : Row w g t cs) (hb : Below w.heap.size w v) : Row v g t cs := (hb.block g h.inside).trans h
theorem Row.more (h : Row w g t cs) (o : Obj) : Row (w.alloc o) g t cs := (Below.heap_alloc w o g h.inside).trans h
theorem Row.written (h : Row w g t cs) (i : Nat) (x : Value) : Row (w.setCell ⟨g, i, none⟩ x) g t (cs.setIfInBounds i x) := by
  unfold Row at h ⊢
  simp [World.setCell, Array.getElem?_modify, h]
theorem Row.elsewhere (h : Row w g t cs) {p : Addr} (hp : g ≠ p.block) (x : Value) : Row (w.setCell p x) g t cs := (Below.heap_setCell w p x g hp).trans h
end
end Go.Proofs.Ytdaipfmckonfpaa
namespace Go.Proofs.Ytdaipfmckonfpaa
open Go.RowKit

/-- from w to v only blocks in S, and new ones, have changed -/
structure Only (S : Nat → Prop) (w v : World) : Prop where
  os : v.os = w.os
  tape : v.tape = w.tape
  output : v.output = w.output
  size : w.heap.size ≤ v.heap.size
  same : ∀ k, k < w.heap.size → ¬ S k → v.heap[k]? = w.heap[k]?

section
variable {S T : Nat → Prop} {w v u : World}
theorem Only.refl (S : Nat → Prop) (w : World) : Only S w w := ⟨rfl, rfl, rfl, Nat.le_refl _, fun _ _ _ => rfl⟩
theorem Only.andThen (h : Only S w v) (h' : Only T v u) (hs : ∀ k, k < w.heap.size → T k → S k) : Only S w u :=
  ⟨h'.os.trans h.os, h'.tape.trans h.tape, h'.output.trans h.output, Nat.le_trans h.size h'.size, fun k hk hn =>
    (h'.same k (Nat.lt_of_lt_of_le hk h.size) fun hk' => hn (hs k hk hk')).trans (h.same k hk hn)⟩
theorem Only.of_below (h : Below w.heap.size w v) : Only S w v := ⟨h.os, h.tape, h.output, h.size, fun k hk _ => h.block k hk⟩
theorem Only.below (h : Only S w v) {B : Nat} (hB : B ≤ w.heap.size) (hs : ∀ k, k < B → ¬ S k) : Below B w v :=
  ⟨h.os, h.tape, h.output, h.size, fun k hk => h.same k (Nat.lt_of_lt_of_le hk hB) (hs k hk)⟩
theorem Only.alloc (h : Only S w v) (o : Obj) : Only S w (v.alloc o) :=
  h.andThen (T := fun _ => False) (.of_below (bl_alloc (Below.refl _ _) o)) fun _ _ hk => hk.elim
theorem Only.drew (h : Only S w v) : Only S w v.drew := ⟨h.os, h.tape, h.output, h.size, h.same⟩
theorem Only.drewN (h : Only S w v) (n : Nat) : Only S w (v.drewN n) :=
  h.andThen (T := fun _ => False) (.of_below (below_drewN (Below.refl _ _) n)) fun _ _ hk => hk.elim
theorem Only.set (h : Only S w v) {p : Addr} (hp : S p.block ∨ w.heap.size ≤ p.block) (x : Value) : Only S w (v.setCell p x) :=
  ⟨h.os, h.tape, h.output, by rw [show (v.setCell p x).heap.size = v.heap.size by simp [World.setCell]]; exact h.size, fun k hk hn =>
    (Below.heap_setCell v p x k (fun e => by subst e; rcases hp with hp | hp; exact hn hp; omega)).trans (h.same k hk hn)⟩
theorem Only.grown (h : Only S w v) {row : Option Nat} (hg : v.grownBy u row) (hr : ∀ k, row = some k → S k ∨ w.heap.size ≤ k) : Only S w u :=
  ⟨hg.os.trans h.os, hg.tape.trans h.tape, hg.output.trans h.output, Nat.le_trans h.size hg.size, fun k hk hn =>
    (hg.block k (Nat.lt_of_lt_of_le hk h.size) (fun e => by rcases hr k e.symm with h1 | h1; exact hn h1; omega)).trans (h.same k hk hn)⟩

theorem Row.only {g : Nat} {t : TypeId} {cs : Array Value} (h : Row w g t cs) (ho : Only S w v) (hg : ¬ S g) : Row v g t cs := (ho.same g h.inside hg).trans h
theorem own_block {base : Nat} {e : TypeId} {size : Nat} {x : Value} {n : Nat} {xs : List Value} (h : w.ownsRow base e size x n xs) : ∀ k, x.ownBlock = some k → base ≤ k ∧ k < w.heap.size := h.lt
theorem own_only {base : Nat} {e : TypeId} {size : Nat} {x : Value} {n : Nat} {xs : List Value} (h : w.ownsRow base e size x n xs) (ho : Only S w v) (hS : ∀ k, x.ownBlock = some k → ¬ S k) : v.ownsRow base e size x n xs := by
  refine ⟨h.1, ?_⟩
  rcases h.2 with h0 | ⟨g, cap, cur, rfl, hb, hh, h1⟩
  · exact .inl h0
  · refine .inr ⟨g, cap, cur, rfl, hb, ?_, h1⟩
    have hl : g < w.heap.size := (h.lt g rfl).2
    exact (ho.same g hl (hS g rfl)).trans hh
/-- rows of different element types lie in different blocks -/
theorem own_apart {base : Nat} {e : TypeId} {size : Nat} {x : Value} {n : Nat} {xs : List Value} {g : Nat} {t : TypeId} {cs : Array Value} (h : w.ownsRow base e size x n xs) (hr : Row w g t cs) (hne : e ≠ t) : x.ownBlock ≠ some g := by
  rcases h.2 with ⟨rfl, _⟩ | ⟨g', cap, cur, rfl, _, hh, _⟩
  · simp [Value.ownBlock]
  · intro he
    have e1 : g' = g := by simpa [Value.ownBlock] using he
    subst e1
    unfold Row at hr
    rw [hh] at hr
    injection hr with hr
    injection hr with _ hr
    exact hne hr
theorem Row.apart {g g' : Nat} {t t' : TypeId} {cs cs' : Array Value} (h : Row w g t cs) (h' : Row w g' t' cs') (hne : t ≠ t') : g ≠ g' := by
  rintro rfl
  unfold Row at h h'
  rw [h] at h'
  injection h' with h'
  injection h' with _ h'
  exact hne h'
end
end Go.Proofs.Ytdaipfmckonfpaa
namespace Go.Proofs.Ytdaipfmckonfpaa

/-- the number whose bits these are, the highest first -/
def val (l : List Bool) : Nat := l.foldl (fun v b => 2 * v + b.toNat) 0
/-- a number's last n bits -/
def unval (v : Nat) : Nat → List Bool
  | 0 => []
  | n + 1 => unval (v / 2) n ++ [v % 2 == 1]
/-- byte i of bits, filled up with noughts -/
def eight (bl : List Bool) (i : Nat) : List Bool := (List.range 8).map fun j => bl.getD (8 * i + j) false
def byteAt (bl : List Bool) (i : Nat) : Nat := val (eight bl i)
def packLen (n : Nat) : Nat := (n + 7) / 8
def pack (bl : List Bool) : List Nat := (List.range (packLen bl.length)).map (byteAt bl)
def bitsOf (bs : List Nat) : List Bool := bs.flatMap (unval · 8)

theorem snoc_ind {P : List Bool → Prop} (h0 : P []) (h1 : ∀ l b, P l → P (l ++ [b])) (l : List Bool) : P l := by
  have h : ∀ m : List Bool, P m.reverse := by
    intro m
    induction m with
    | nil => exact h0
    | cons a m ih => rw [List.reverse_cons]; exact h1 _ _ ih
  have h2 := h l.reverse
  rwa [List.reverse_reverse] at h2
theorem val_nil : val [] = 0 := rfl
theorem val_snoc (l : List Bool) (b : Bool) : val (l ++ [b]) = 2 * val l + b.toNat := by simp [val]
theorem val_lt (l : List Bool) : val l < 2 ^ l.length := by
  induction l using snoc_ind with
  | h0 => simp [val_nil]
  | h1 l b ih =>
    rw [val_snoc, List.length_append, List.length_singleton, Nat.pow_succ]
    cases b <;> simp <;> omega

theorem length_unval (v n : Nat) : (unval v n).length = n := by
  induction n generalizing v with
  | zero => rfl
  | succ n ih => simp [unval, ih]
theorem val_unval (v n : Nat) : val (unval v n) = v % 2 ^ n := by
  induction n generalizing v with
  | zero => simp [unval, val_nil, Nat.mod_one]
  | succ n ih =>
    rw [unval, val_snoc, ih, Nat.pow_succ, Nat.mul_comm (2 ^ n) 2, Nat.mod_mul]
    have : (v % 2 == 1).toNat = v % 2 := by
      rcases Nat.mod_two_eq_zero_or_one v with h | h <;> rw [h] <;> rfl
    rw [this]
    omega
theorem unval_val (l : List Bool) : unval (val l) l.length = l := by
  induction l using snoc_ind with
  | h0 => rfl
  | h1 l b ih =>
    rw [List.length_append, List.length_singleton, unval, val_snoc]
    have h1 : (2 * val l + b.toNat) / 2 = val l := by cases b <;> simp <;> omega
    have h2 : ((2 * val l + b.toNat) % 2 == 1) = b := by cases b <;> simp <;> omega
    rw [h1, h2, ih]
theorem unval_split (v n m : Nat) : unval v (n + m) = unval (v / 2 ^ m) n ++ unval v m := by
  induction m generalizing v with
  | zero => simp [unval]
  | succ m ih =>
    rw [← Nat.add_assoc, unval, ih, unval, List.append_assoc, Nat.div_div_eq_div_mul, Nat.pow_succ, Nat.mul_comm 2]
theorem unval_mod (v m : Nat) : unval (v % 2 ^ m) m = unval v m := by
  have h := unval_val (unval v m)
  rw [val_unval, length_unval] at h
  exact h

theorem length_eight (bl : List Bool) (i : Nat) : (eight bl i).length = 8 := by simp [eight]
theorem byteAt_lt (bl : List Bool) (i : Nat) : byteAt bl i < 256 := by
  have := val_lt (eight bl i)
  rw [length_eight] at this
  exact this
theorem unval_byteAt (bl : List Bool) (i : Nat) : unval (byteAt bl i) 8 = eight bl i := by
  have h := unval_val (eight bl i)
  rw [length_eight] at h
  exact h
theorem length_pack (bl : List Bool) : (pack bl).length = packLen bl.length := by simp [pack]
theorem pack_at (bl : List Bool) {i : Nat} (h : i < packLen bl.length) : (pack bl)[i]? = some (byteAt bl i) := by simp [pack, h]
theorem eight_at (bl : List Bool) {i j : Nat} (h : j < 8) : (eight bl i)[j]? = some (bl.getD (8 * i + j) false) := by simp [eight, h]

theorem length_bitsOf (bs : List Nat) : (bitsOf bs).length = 8 * bs.length := by
  induction bs with
  | nil => rfl
  | cons b bs ih =>
    have : bitsOf (b :: bs) = unval b 8 ++ bitsOf bs := rfl
    rw [this, List.length_append, length_unval, ih, List.length_cons]
    omega
theorem bitsOf_at (bs : List Nat) : ∀ (k : Nat) (b : Nat), bs[k / 8]? = some b → (bitsOf bs)[k]? = (unval b 8)[k % 8]? := by
  induction bs with
  | nil => intro k b h; simp at h
  | cons a bs ih =>
    intro k b h
    have e : bitsOf (a :: bs) = unval a 8 ++ bitsOf bs := rfl
    rw [e]
    by_cases hk : k < 8
    · have h0 : k / 8 = 0 := by omega
      rw [h0] at h
      simp at h
      subst h
      rw [List.getElem?_append_left (by rw [length_unval]; exact hk), Nat.mod_eq_of_lt hk]
    · obtain ⟨j, rfl⟩ : ∃ j, k = j + 8 := ⟨k - 8, by omega⟩
      have h0 : (j + 8) / 8 = j / 8 + 1 := by omega
      rw [h0, List.getElem?_cons_succ] at h
      rw [List.getElem?_append_right (by rw [length_unval]; omega), length_unval, Nat.add_sub_cancel, ih j b h, Nat.add_mod_right]
theorem bitsOf_pack (bl : List Bool) : bitsOf (pack bl) = bl ++ List.replicate (8 * packLen bl.length - bl.length) false := by
  have hle : bl.length ≤ 8 * packLen bl.length := by unfold packLen; omega
  apply List.ext_getElem?
  intro k
  by_cases hk : k < 8 * packLen bl.length
  · rw [bitsOf_at _ k _ (pack_at bl (by omega)), unval_byteAt, eight_at bl (Nat.mod_lt _ (by omega)), show 8 * (k / 8) + k % 8 = k by omega]
    by_cases hb : k < bl.length
    · rw [List.getElem?_append_left hb, List.getD_eq_getElem?_getD, List.getElem?_eq_getElem hb]
      rfl
    · rw [List.getElem?_append_right (by omega), List.getD_eq_getElem?_getD, List.getElem?_eq_none (by omega), List.getElem?_replicate, if_pos (by omega)]
      rfl
  · rw [List.getElem?_eq_none (by rw [length_bitsOf, length_pack]; omega), List.getElem?_eq_none (by rw [List.length_append, List.length_replicate]; omega)]

/-- one more bit in a byte, the rest of it noughts -/
theorem or_bit (r : Nat) (hr : r < 8) (L : List Bool) (hL : L.length = 8) (hz : ∀ j, r ≤ j → j < 8 → L[j]? = some false) (b : Bool) :
    val (L.set r b) = val L ||| (b.toNat <<< (7 - r)) := by
  match L, hL with
  | [x0, x1, x2, x3, x4, x5, x6, x7], _ =>
    have z : ∀ j, r ≤ j → j < 8 → [x0, x1, x2, x3, x4, x5, x6, x7][j]? = some false := hz
    clear hz
    obtain rfl | rfl | rfl | rfl | rfl | rfl | rfl | rfl : r = 0 ∨ r = 1 ∨ r = 2 ∨ r = 3 ∨ r = 4 ∨ r = 5 ∨ r = 6 ∨ r = 7 := by omega
    all_goals
      have h7 := z 7 (by omega) (by omega)
      have h6 := fun h => z 6 h (by omega)
      have h5 := fun h => z 5 h (by omega)
      have h4 := fun h => z 4 h (by omega)
      have h3 := fun h => z 3 h (by omega)
      have h2 := fun h => z 2 h (by omega)
      have h1 := fun h => z 1 h (by omega)
      have h0 := fun h => z 0 h (by omega)
      clear z
      simp at h7 h6 h5 h4 h3 h2 h1 h0
      revert x0 x1 x2 x3 x4 x5 x6 x7 b
      decide
theorem eight_snoc (bl : List Bool) (b : Bool) : eight (bl ++ [b]) (bl.length / 8) = (eight bl (bl.length / 8)).set (bl.length % 8) b := by
  apply List.ext_getElem?
  intro j
  by_cases hj : j < 8
  · rw [eight_at _ hj, List.getElem?_set]
    by_cases he : bl.length % 8 = j
    · subst he
      rw [if_pos rfl, if_pos (by rw [length_eight]; omega), show 8 * (bl.length / 8) + bl.length % 8 = bl.length by omega]
      simp [List.getD_eq_getElem?_getD]
    · rw [if_neg he, eight_at _ hj, List.getD_eq_getElem?_getD, List.getD_eq_getElem?_getD]
      congr 2
      by_cases hlt : 8 * (bl.length / 8) + j < bl.length
      · rw [List.getElem?_append_left hlt]
      · rw [List.getElem?_append_right (by omega), List.getElem?_eq_none (l := bl) (by omega), List.getElem?_eq_none (by simp; omega)]
  · rw [List.getElem?_eq_none (by rw [length_eight]; omega), List.getElem?_eq_none (by rw [List.length_set, length_eight]; omega)]
theorem byteAt_snoc (bl : List Bool) (b : Bool) : byteAt (bl ++ [b]) (bl.length / 8) = byteAt bl (bl.length / 8) ||| (b.toNat <<< (7 - bl.length % 8)) := by
  unfold byteAt
  rw [eight_snoc]
  refine or_bit _ (Nat.mod_lt _ (by omega)) _ (length_eight _ _) (fun j h1 h2 => ?_) b
  rw [eight_at _ h2, List.getD_eq_getElem?_getD, List.getElem?_eq_none (by omega)]
  rfl
theorem byteAt_other (bl : List Bool) (b : Bool) {i : Nat} (h : i < bl.length / 8) : byteAt (bl ++ [b]) i = byteAt bl i := by
  unfold byteAt eight
  congr 1
  apply List.map_congr_left
  intro j hj
  have : j < 8 := List.mem_range.1 hj
  rw [List.getD_eq_getElem?_getD, List.getD_eq_getElem?_getD, List.getElem?_append_left (by omega)]
theorem byteAt_beyond (bl : List Bool) {i : Nat} (h : bl.length ≤ 8 * i) : byteAt bl i = 0 := by
  have : eight bl i = List.replicate 8 false := by
    unfold eight
    apply List.ext_getElem?
    intro j
    by_cases hj : j < 8
    · rw [List.getElem?_map, List.getElem?_range hj, List.getElem?_replicate, if_pos hj]
      simp [List.getD_eq_getElem?_getD, List.getElem?_eq_none (show bl.length ≤ 8 * i + j by omega)]
    · simp [hj]
  unfold byteAt
  rw [this]
  rfl
/-- the bytes ahead of an added bit -/
def room (bl : List Bool) : List Nat := if bl.length % 8 = 0 then pack bl ++ [0] else pack bl
theorem length_room (bl : List Bool) : (room bl).length = bl.length / 8 + 1 := by
  unfold room
  split <;> simp [length_pack, packLen] <;> omega
theorem room_at (bl : List Bool) {i : Nat} (h : i ≤ bl.length / 8) : (room bl)[i]? = some (byteAt bl i) := by
  unfold room
  split
  · by_cases hi : i < packLen bl.length
    · rw [List.getElem?_append_left (by rw [length_pack]; exact hi), pack_at bl hi]
    · have : i = packLen bl.length := by unfold packLen at *; omega
      subst this
      rw [List.getElem?_append_right (by rw [length_pack]; omega), length_pack, Nat.sub_self, byteAt_beyond bl (by unfold packLen; omega)]
      rfl
  · exact pack_at bl (by unfold packLen; omega)
theorem pack_snoc (bl : List Bool) (b : Bool) : pack (bl ++ [b]) = (room bl).set (bl.length / 8) (byteAt bl (bl.length / 8) ||| (b.toNat <<< (7 - bl.length % 8))) := by
  apply List.ext_getElem?
  intro i
  have hl : packLen (bl ++ [b]).length = bl.length / 8 + 1 := by simp [packLen]; omega
  by_cases hi : i < bl.length / 8 + 1
  · rw [pack_at _ (by omega), List.getElem?_set]
    by_cases he : bl.length / 8 = i
    · subst he
      rw [if_pos rfl, if_pos (by rw [length_room]; omega), byteAt_snoc]
    · rw [if_neg he, room_at bl (by omega), byteAt_other bl b (by omega)]
  · rw [List.getElem?_eq_none (by rw [length_pack, hl]; omega), List.getElem?_eq_none (by rw [List.length_set, length_room]; omega)]
end Go.Proofs.Ytdaipfmckonfpaa
namespace Go.Proofs.Ytdaipfmckonfpaa
open Go.RowKit

theorem Try.info5 : (Try.prog.info? 5).map (fun i => (i.zero, i.size, i.bytes)) = some (some (.int .u8 0), 1, 1) := by kernel_rfl
theorem info5_parts : ∃ i, Try.prog.info? 5 = some i ∧ i.zero = some (.int .u8 0) ∧ i.size = 1 ∧ i.bytes = 1 := info_parts Try.info5

/-- bytes as values -/
def bts (l : List Nat) : List Value := l.map fun b : Nat => .int .u8 b
theorem length_bts (l : List Nat) : (bts l).length = l.length := by simp [bts]
theorem bts_one (l : List Nat) : ∀ v ∈ bts l, v.oneCell' = true := by
  intro v hv
  simp only [bts, List.mem_map] at hv
  obtain ⟨b, _, rfl⟩ := hv
  rfl
theorem bts_at {l : List Nat} {i b : Nat} (h : l[i]? = some b) : (bts l)[i]? = some (.int .u8 b) := by simp [bts, h]

def zeros (n : Nat) : List Value := List.replicate n (.int .u8 0)
theorem length_zeros (n : Nat) : (zeros n).length = n := by simp [zeros]
theorem made_zeros (n : Nat) : madeCells #[.int .u8 0] n = (zeros n).toArray := by
  apply Array.toList_inj.1
  rw [toList_madeCells_one]
  simp [zeros]
theorem splice_all (n : Nat) (cs : List Value) (h : cs.length = n) : splice (zeros n) 0 cs = cs := by
  simp [splice, h, zeros]
theorem make_bytes (n : Nat) (h : n ≤ 8192) (w : World) :
    (Instr.makeSlice 42 (.int .i64 (n : Int)) (.int .i64 (n : Int))).run Try.prog w = .ok (.slice (some ⟨w.heap.size, 0, none⟩) n n) (w.alloc (.cells (zeros n).toArray 5)) := by
  obtain ⟨i, hi, hz, hs, hb⟩ := info5_parts
  have h := run_make (P := Try.prog) w 42 5 i _ Try.underlying42 hi hz .i64 .i64 n n (by omega) (Int.le_refl _) (by rw [hb]; omega) (by omega)
  rw [h, hs, Nat.mul_one, Int.toNat_natCast, ← made_zeros]
  rfl

/-- where a slice's elements lie -/
def Src (w : World) (A : Option Addr) (xs : List Value) : Prop := 0 < xs.length → ∃ ad, A = some ad ∧ ∀ j u, xs[j]? = some u → w.cell? (ad.add j) = some u

set_option maxHeartbeats 800000 in
theorem copied_any (A : Option Addr) (cap : Nat) (l : List Nat) (w : World) (hn : l.length ≤ 8192) (hs : Src w A (bts l)) :
    Calls Try.prog 180 #[.slice A l.length cap] w fun e w' => ∃ g, e = .returned (.slice (some ⟨g, 0, none⟩) l.length l.length) ∧ w.heap.size ≤ g ∧ Row w' g 5 (bts l).toArray ∧ Below w.heap.size w w' := by
  have hmk := make_bytes l.length hn
  have hlen := length_bts l
  generalize hnn : l.length = n at *
  have hsz : (Try.prog.info? 5).map (·.size) = some 1 := by
    obtain ⟨i, hi, _, h1, _⟩ := info5_parts
    rw [hi]
    simp [h1]
  have HS := Lib.hid hs
  have HL := Lib.hid hlen
  have HN := Lib.hid hnn
  clear hs hlen hnn
  go_enter Try.func180, Try.ntmps180
  go_wp2_with (with_reducible refine wpList_copy_splice rfl _ _ 42 42 rfl 5 Try.underlying42 hsz (some ⟨w.heap.size, 0, none⟩) A n n n cap rfl rfl w.heap.size 0 (zeros n) 5 ?h1 (bts l) ?h2 ?h3 ?h4 ?h5 w.heap.size w ?h6 (Nat.le_refl _) ?_)
  case h1 => exact heap_alloc_new _ _
  case h2 => rw [HL.out]; exact (Nat.min_self n).symm
  case h3 =>
    intro h0
    obtain ⟨ad, hA, hc⟩ := HS.out h0
    refine ⟨ad, hA, fun j v hv => ?_⟩
    have hx := hc j v hv
    exact (World.cell?_alloc_some w _ _ (by rw [hx]; rfl)).trans hx
  case h4 => rw [HL.out, length_zeros]; omega
  case h5 => exact bts_one l
  case h6 => exact bl_alloc (Below.refl _ _) _
  intro w1 hrow hb
  go_wp2
  go_ret
  refine ⟨w.heap.size, rfl, Nat.le_refl _, ?_, hb⟩
  have h := hrow.out
  rw [splice_all n _ HL.out] at h
  exact h

def mayB (n : Int) : Bool := decide (0 ≤ n ∧ n ≤ 64)
theorem mayB_of {n : Int} (h1 : 0 ≤ n) (h2 : n ≤ 64) : mayB n = true := decide_eq_true ⟨h1, h2⟩
theorem mayB_not {n : Int} (h : n < 0 ∨ 64 < n) : mayB n = false := decide_eq_false (by omega)

set_option maxHeartbeats 400000 in
theorem mayBe_any (n : Int) (w : World) :
    Calls Try.prog 178 #[.int .i64 n] w fun e w' => e = .returned (.bool (mayB n)) ∧ w = w' := by
  by_cases h1 : 0 ≤ n
  · by_cases h2 : n ≤ 64
    · have HD := Lib.hid (mayB_of h1 h2)
      go_enter Try.func178, Try.ntmps178
      go_wp2
      go_ret
      exact ⟨ret_bool HD.out.symm, rfl⟩
    · have HD := Lib.hid (mayB_not (n := n) (by omega))
      go_enter Try.func178, Try.ntmps178
      go_wp2
      go_ret
      exact ⟨ret_bool (by rw [HD.out]), rfl⟩
  · have HD := Lib.hid (mayB_not (n := n) (by omega))
    go_enter Try.func178, Try.ntmps178
    go_wp2
    go_ret
    exact ⟨ret_bool (by rw [HD.out]), rfl⟩

/-- a writer at block p, whose slice value is sv, has these bits; it lies above block B -/
def WRep (B : Nat) (w : World) (p : Nat) (sv : Value) (bl : List Bool) : Prop :=
  B ≤ p ∧ Row w p 229 #[sv, .int .i64 bl.length] ∧ w.ownsRow B 5 1 sv (packLen bl.length) (bts (pack bl))

theorem WRep.only {B : Nat} {w v : World} {p : Nat} {sv : Value} {bl : List Bool} {S : Nat → Prop} (h : WRep B w p sv bl) (ho : Only S w v) (h1 : ¬ S p) (h2 : ∀ k, sv.ownBlock = some k → ¬ S k) : WRep B v p sv bl :=
  ⟨h.1, h.2.1.only ho h1, own_only h.2.2 ho h2⟩
theorem WRep.later {B : Nat} {w v : World} {p : Nat} {sv : Value} {bl : List Bool} (h : WRep B w p sv bl) (hb : Below w.heap.size w v) : WRep B v p sv bl :=
  h.only (S := fun _ => False) (.of_below hb) (fun h => h) (fun _ _ h => h)

set_option maxHeartbeats 400000 in
theorem new_any (B : Nat) (w : World) (hB : B ≤ w.heap.size) :
    Calls Try.prog 134 #[] w fun e w' => e = .returned (.pointer (some ⟨w.heap.size, 0, none⟩)) ∧ WRep B w' w.heap.size (.slice none 0 0) [] ∧ Below w.heap.size w w' := by
  go_enter Try.func134, Try.ntmps134
  go_wp2
  go_ret
  exact ⟨rfl, ⟨hB, Row.made _ _ _, World.ownsRow_nil _ _ _ _⟩, bl_alloc (Below.refl _ _) _⟩

theorem src_own {w : World} {B : Nat} {A : Option Addr} {n cap : Nat} {xs : List Value} (h : w.ownsRow B 5 1 (.slice A n cap) n xs) : Src w A xs := by
  intro h0
  have hn : xs.length = n := by have := h.1; omega
  obtain ⟨g, cap', hv, _, _⟩ := h.form (by omega)
  injection hv with hA _ _
  subst hA
  exact ⟨_, rfl, h.cells (g := g) rfl⟩

set_option maxHeartbeats 400000 in
theorem bytes_any {B : Nat} {w : World} {p : Nat} {sv : Value} {bl : List Bool} (h : WRep B w p sv bl) (hn : bl.length ≤ 65536) :
    Calls Try.prog 136 #[.pointer (some ⟨p, 0, none⟩)] w fun e w' => ∃ g, e = .returned (.slice (some ⟨g, 0, none⟩) (packLen bl.length) (packLen bl.length)) ∧ w.heap.size ≤ g ∧ Row w' g 5 (bts (pack bl)).toArray ∧ Below w.heap.size w w' := by
  obtain ⟨_, hr, ho⟩ := h
  have hc : w.cell? ⟨p, 0, none⟩ = some sv := hr.read rfl
  obtain ⟨A, cap, rfl⟩ : ∃ A cap, sv = .slice A (packLen bl.length) cap := by
    rcases ho.2 with ⟨rfl, h0⟩ | ⟨g, cap, cur, rfl, _⟩
    · exact ⟨none, 0, by rw [h0]⟩
    · exact ⟨_, cap, rfl⟩
  have hs := src_own ho
  have hcop := fun W => copied_any A cap (pack bl) W (by rw [length_pack]; unfold packLen; omega)
  rw [length_pack] at hcop
  have HC := Lib.hid hcop
  have HS := Lib.hid hs
  clear hcop hs ho hr
  generalize packLen bl.length = n at *
  go_enter Try.func136, Try.ntmps136
  go_wp2_with (go_at_call 180; refine (HC.out _ ?_).mono ?_; exact HS.out; rintro e w1 ⟨g, rfl, hg, hrow, hb⟩)
  go_ret
  exact ⟨g, rfl, hg, hrow, hb⟩
end Go.Proofs.Ytdaipfmckonfpaa
namespace Go.Proofs.Ytdaipfmckonfpaa
open Go.RowKit

/-- what a call on a writer does: it has other bits behind; only its own blocks have changed -/
def Wrote (B : Nat) (w : World) (p : Nat) (sv : Value) (bl : List Bool) (e0 : Ending) (e : Ending) (w' : World) : Prop :=
  e = e0 ∧ ∃ sv', WRep B w' p sv' bl ∧ (sv'.ownBlock = sv.ownBlock ∨ ∃ k, sv'.ownBlock = some k ∧ w.heap.size ≤ k) ∧ Only (fun k => k = p ∨ sv.ownBlock = some k) w w'

theorem or_u8 (a : Nat) (ha : a < 256) (bit : Bool) (k : Nat) (hk : k ≤ 7) : bits .or .u8 (a : Int) ((bit.toNat : Int) * 2 ^ k % 256) = ((a ||| (bit.toNat <<< k) : Nat) : Int) := by
  have h2 : bit.toNat <<< k < 256 := by
    cases bit
    · simp
    · obtain rfl | rfl | rfl | rfl | rfl | rfl | rfl | rfl : k = 0 ∨ k = 1 ∨ k = 2 ∨ k = 3 ∨ k = 4 ∨ k = 5 ∨ k = 6 ∨ k = 7 := by omega
      all_goals decide
  have h3 : (bit.toNat : Int) * 2 ^ k % 256 = ((bit.toNat <<< k : Nat) : Int) := by
    rw [Nat.shiftLeft_eq] at *
    have h4 : (bit.toNat : Int) * 2 ^ k = ((bit.toNat * 2 ^ k : Nat) : Int) := by simp
    rw [h4]
    omega
  rw [h3]
  exact u8_or_nat a _ ha h2

theorem bts_set (l : List Nat) (i x : Nat) : bts (l.set i x) = (bts l).set i (.int .u8 x) := by simp [bts, List.map_set]
theorem bts_append (l k : List Nat) : bts (l ++ k) = bts l ++ bts k := by simp [bts]

/-- the last two stores of add -/
theorem add_done {B : Nat} {w W : World} {p : Nat} {sv : Value} {bl : List Bool} {bit : Bool} {g m cap n : Nat} (hln : bl.length = n) (hm : m = n / 8 + 1) (hB : B ≤ p)
    (hrow : Row W p 229 #[.slice (some ⟨g, 0, none⟩) m cap, .int .i64 n]) (hown : W.ownsRow B 5 1 (.slice (some ⟨g, 0, none⟩) m cap) m (bts (room bl)))
    (honly : Only (fun k => k = p ∨ sv.ownBlock = some k) w W) (hg : sv.ownBlock = some g ∨ w.heap.size ≤ g) (hgp : g ≠ p) :
    Wrote B w p sv (bl ++ [bit]) (.returned (.tuple #[])) (.returned (.tuple #[]))
      ((W.setCell ⟨g, n / 8, none⟩ (.int .u8 (bits .or .u8 (byteAt bl (n / 8)) ((bit.toNat : Int) * 2 ^ (7 - n % 8) % 256)))).setCell ⟨p, 1, none⟩ (.int .i64 ((n : Int) + 1))).drew := by
  rw [or_u8 _ (byteAt_lt _ _) _ _ (by omega)]
  have h1 := (hown.stored (n / 8) (.int .u8 ((byteAt bl (n / 8) ||| (bit.toNat <<< (7 - n % 8)) : Nat) : Int))).1
  refine ⟨rfl, .slice (some ⟨g, 0, none⟩) m cap, ⟨hB, ?_, ?_⟩, ?_, ?_⟩
  · have h2 := (hrow.elsewhere (p := ⟨g, n / 8, none⟩) (Ne.symm hgp) (.int .u8 ((byteAt bl (n / 8) ||| (bit.toNat <<< (7 - n % 8)) : Nat) : Int))).written 1 (.int .i64 ((n : Int) + 1))
    rw [List.length_append, hln]
    exact h2
  · have hl : packLen (bl ++ [bit]).length = m := by rw [List.length_append, List.length_singleton, hln, hm]; unfold packLen; omega
    have hp : bts (pack (bl ++ [bit])) = (bts (room bl)).set (n / 8) (.int .u8 ((byteAt bl (n / 8) ||| (bit.toNat <<< (7 - n % 8)) : Nat) : Int)) := by rw [pack_snoc, hln, bts_set]
    rw [hl, hp]
    exact own_only h1 (((Only.refl (fun k => k = p) _).set (p := ⟨p, 1, none⟩) (.inl rfl) _).drew) (fun k hk => by
      have e : g = k := by simpa [Value.ownBlock] using hk
      omega)
  · rcases hg with h | h
    · exact .inl h.symm
    · exact .inr ⟨g, rfl, h⟩
  · exact ((honly.set (p := ⟨g, n / 8, none⟩) (hg.imp .inr id) _).set (p := ⟨p, 1, none⟩) (.inl (.inl rfl)) _).drew

set_option maxRecDepth 100000 in
set_option maxHeartbeats 1600000 in
theorem add_any {B : Nat} {w : World} {p : Nat} {sv : Value} {bl : List Bool} (bit : Bool) (h : WRep B w p sv bl) (hn : bl.length < 65536) :
    Calls Try.prog 179 #[.pointer (some ⟨p, 0, none⟩), .int .u8 bit.toNat] w (Wrote B w p sv (bl ++ [bit]) (.returned (.tuple #[]))) := by
  obtain ⟨hB, hr, ho⟩ := h
  have hc0 : w.cell? ⟨p, 0, none⟩ = some sv := hr.read rfl
  have hc1 : w.cell? ⟨p, 1, none⟩ = some (.int .i64 bl.length) := hr.read rfl
  have hf0 := hr.free 0
  have hf1 := hr.free 1
  have hap := own_apart ho hr (by decide)
  obtain ⟨i0, hi, hi0, hi1, hi2⟩ := info5_parts
  by_cases h8 : bl.length % 8 = 0
  · have h8' : (((bl.length : Nat) : Int) % 8 == 0) = true := by simp; omega
    generalize hln : bl.length = n at *
    have HM := Lib.hid (show packLen n = n / 8 by unfold packLen; omega)
    have H8 := Lib.hid h8
    clear h8
    go_enter Try.func179, Try.ntmps179
    go_wp2_with (at_builtin; refine wpList_append_lies _ rfl _ _ _ (by rfl) B 5 i0 (.int .u8 0) 1 1 Try.underlying42 hi hi0 hi1 hi2 rfl (by omega) sv (packLen n) _ (by rfl) (ho.alloc _) ⟨w.heap.size, 0, none⟩ 1 1 [.int .u8 0] (by rfl) (by rfl) ?h1 ?h2 ?h3 ?h4 ?h5 ?h6 (w.heap.size + 1) ?h7 ?_)
    case h1 => exact cell_one_new _ _ _
    case h2 => intro u hu; simp at hu; subst hu; rfl
    case h3 => omega
    case h4 => unfold maxLen packLen; omega
    case h5 => unfold packLen; omega
    case h6 => have := hr.inside; simp; omega
    case h7 => simp
    intro g cap w2 hown hgrow hgg hg2
    have hgp : g ≠ p := by
      rcases hgg with h | h
      · intro e; subst e; exact hap h
      · have := hr.inside; omega
    have hr2 : Row w2 p 229 #[sv, .int .i64 n] := (hgrow.block p (by have := hr.inside; simp; omega) (fun e => hap e.symm)).trans (hr.more _)
    have c0 := hr2.read (i := 0) rfl
    have c1 := hr2.read (i := 1) rfl
    have f0 := hr2.free 0
    have f1 := hr2.free 1
    go_wp2
    have hrow := hr2.written 0 (.slice (some ⟨g, 0, none⟩) (packLen n + 1) cap)
    have hown2 := own_only (S := fun k => k = p) hown ((Only.refl (fun k => k = p) _).set (p := ⟨p, 0, none⟩) (.inl rfl) (.slice (some ⟨g, 0, none⟩) (packLen n + 1) cap)) (fun k hk => by
      have : g = k := by simpa [Value.ownBlock] using hk
      omega)
    have honly : Only (fun k => k = p ∨ sv.ownBlock = some k) w (w2.setCell ⟨p, 0, none⟩ (.slice (some ⟨g, 0, none⟩) (packLen n + 1) cap)) :=
      (((Only.refl (fun k => k = p ∨ sv.ownBlock = some k) w).alloc _).grown hgrow (fun k hk => .inl (.inr hk))).set (.inl (.inl rfl)) _
    generalize w2.setCell ⟨p, 0, none⟩ (.slice (some ⟨g, 0, none⟩) (packLen n + 1) cap) = W at *
    clear hown hgrow c0 c1 f0 f1 hr2 hc0 hc1 hf0 hf1 hg2
    have hm := HM.out
    have hroom : room bl = pack bl ++ [0] := by unfold room; rw [hln, if_pos H8.out]
    have hown3 : W.ownsRow B 5 1 (.slice (some ⟨g, 0, none⟩) (packLen n + 1) cap) (packLen n + 1) (bts (room bl)) := by rw [hroom, bts_append]; exact hown2
    have c0 : W.cell? ⟨p, 0, none⟩ = some (.slice (some ⟨g, 0, none⟩) (packLen n + 1) cap) := hrow.read rfl
    have c1 : W.cell? ⟨p, 1, none⟩ = some (.int .i64 n) := hrow.read rfl
    have f1 := hrow.free 1
    have cb := (hown3.cellAt (n / 8) (by omega)).trans (bts_at (room_at bl (by omega)))
    have fb := hown2.frozenAt (n / 8)
    have hb0 : (n / 8 : Nat) < packLen n + 1 := by omega
    have hg' : sv.ownBlock = some g ∨ w.heap.size ≤ g := hgg.imp id (fun e => by omega)
    have HF := Lib.hid (add_done (bit := bit) hln (by omega) hB hrow hown3 honly hg' hgp)
    clear hm hroom hown2 hown3 hrow honly hgg hg'
    go_region
    go_wp2
    go_end0
    exact HF.out
  · have h8' : (((bl.length : Nat) : Int) % 8 == 0) = false := by simp; omega
    have hlen : 0 < packLen bl.length := by unfold packLen; omega
    obtain ⟨g, cap, rfl, _, hg2⟩ := ho.form hlen
    generalize hln : bl.length = n at *
    have hm : packLen n = n / 8 + 1 := by unfold packLen; omega
    have hroom : room bl = pack bl := by unfold room; rw [hln, if_neg h8]
    have hown3 : w.ownsRow B 5 1 (.slice (some ⟨g, 0, none⟩) (packLen n) cap) (packLen n) (bts (room bl)) := by rw [hroom]; exact ho
    have hgp : g ≠ p := by intro e; subst e; exact hap rfl
    have cb := (hown3.cellAt (n / 8) (by omega)).trans (bts_at (room_at bl (by omega)))
    have fb := hown3.frozenAt (n / 8)
    have hb0 : (n / 8 : Nat) < packLen n := by omega
    have HF := Lib.hid (add_done (bit := bit) hln hm hB hr hown3 (Only.refl (fun k => k = p ∨ (Value.slice (some ⟨g, 0, none⟩) (packLen n) cap).ownBlock = some k) w) (.inl rfl) hgp)
    clear hm hroom hown3 hr ho hlen h8
    go_enter Try.func179, Try.ntmps179
    go_wp2
    go_region
    go_wp2
    go_end0
    exact HF.out
end Go.Proofs.Ytdaipfmckonfpaa
namespace Go.Proofs.Ytdaipfmckonfpaa
open Go.RowKit

theorem cast_div_pow (v n : Nat) : (v : Int) / 2 ^ n = ((v / 2 ^ n : Nat) : Int) := by
  rw [Int.natCast_ediv, Int.natCast_pow]
  rfl
theorem div_eq {v n : Nat} (h : v < 2 ^ n) : ((v : Int) / 2 ^ n != 0) = false := by
  rw [cast_div_pow, Nat.div_eq_of_lt h]
  rfl

/-- what a writer has when all but k of a number's n bits are put -/
def Putting (B : Nat) (w : World) (p : Nat) (sv : Value) (bl : List Bool) (v n k : Nat) (w' : World) : Prop :=
  ∃ sv', WRep B w' p sv' (bl ++ unval (v / 2 ^ k) (n - k)) ∧ (sv'.ownBlock = sv.ownBlock ∨ ∃ g, sv'.ownBlock = some g ∧ w.heap.size ≤ g) ∧ Only (fun g => g = p ∨ sv.ownBlock = some g) w w'

theorem Putting.start {B : Nat} {w : World} {p : Nat} {sv : Value} {bl : List Bool} {v n : Nat} (h : WRep B w p sv bl) : Putting B w p sv bl v n n w :=
  ⟨sv, by rw [Nat.sub_self]; simpa [unval] using h, .inl rfl, Only.refl _ _⟩

theorem Putting.step {B : Nat} {w w1 w2 : World} {p : Nat} {sv sv1 : Value} {bl : List Bool} {v n k : Nat} {e e0 : Ending} (hk : k < n)
    (ho : sv1.ownBlock = sv.ownBlock ∨ ∃ g, sv1.ownBlock = some g ∧ w.heap.size ≤ g) (hy : Only (fun g => g = p ∨ sv.ownBlock = some g) w w1)
    (h2 : Wrote B w1 p sv1 ((bl ++ unval (v / 2 ^ (k + 1)) (n - (k + 1))) ++ [v / 2 ^ k % 2 == 1]) e0 e w2) : Putting B w p sv bl v n k w2 := by
  obtain ⟨_, sv2, hr2, ho2, hy2⟩ := h2
  refine ⟨sv2, ?_, ?_, ?_⟩
  · have e1 : n - k = n - (k + 1) + 1 := by omega
    rw [e1, unval, Nat.div_div_eq_div_mul, ← Nat.pow_succ, ← List.append_assoc]
    exact hr2
  · rcases ho2 with h3 | ⟨g, h3, h4⟩
    · rw [h3]; exact ho
    · exact .inr ⟨g, h3, by have := hy.size; omega⟩
  · refine hy.andThen hy2 fun g hg hS => ?_
    rcases hS with h3 | h3
    · exact .inl h3
    · rcases ho with h4 | ⟨g', h4, h5⟩
      · exact .inr (by rw [← h4]; exact h3)
      · rw [h4] at h3
        injection h3 with h3
        omega

theorem bit_arg (v j : Nat) (hv : v < 18446744073709551616) : bits .and .u64 ((v : Int) / 2 ^ j) 1 % 256 = ((v / 2 ^ j % 2 == 1).toNat : Int) := by
  rw [cast_div_pow]
  have h1 : v / 2 ^ j ≤ v := Nat.div_le_self _ _
  generalize v / 2 ^ j = q at *
  have h2 := u64_and_nat q 1 (by omega) (by omega)
  rw [Nat.and_one_is_mod] at h2
  rw [show (1 : Int) = ((1 : Nat) : Int) from rfl, h2]
  rcases Nat.mod_two_eq_zero_or_one q with h | h <;> rw [h] <;> rfl

theorem mayBe_yes (n : Int) (w : World) (h1 : 0 ≤ n) (h2 : n ≤ 64) : Calls Try.prog 178 #[.int .i64 n] w fun e w' => e = .returned (.bool true) ∧ w = w' := by
  have h := mayBe_any n w
  rw [mayB_of h1 h2] at h
  exact h

set_option maxRecDepth 100000 in
set_option maxHeartbeats 1600000 in
theorem put_any {B : Nat} {p : Nat} {sv : Value} {bl : List Bool} (v n : Nat) (w : World) (hr : WRep B w p sv bl) (hn : n ≤ 64) (h : v < 2 ^ n) (hl : bl.length + n ≤ 65536) (hv : v < 18446744073709551616) :
    Calls Try.prog 135 #[.pointer (some ⟨p, 0, none⟩), .int .u64 v, .int .i64 n] w (Wrote B w p sv (bl ++ unval v n) (.returned (.int .i64 0))) := by
  have HH := div_eq h
  have hc : w.cell? ⟨p, 1, none⟩ = some (.int .i64 bl.length) := hr.2.1.read rfl
  have HS := Lib.hid (Putting.start (v := v) (n := n) hr)
  have HV := Lib.hid hv
  clear h hr hv
  have hlen : bl.length ≤ 65536 := by omega
  go_enter Try.func135, Try.ntmps135
  go_wp2
  refine wp_scope_jumps 0 (fun a' w' => ∃ k : Nat, k ≤ n ∧ Fr [some (.pointer (some ⟨p, 0, none⟩)), some (.int .u64 v), some (.int .i64 k), none, none, none, none, none, none, none, none, none, none, none, none, none, none, none, none, none, none, none, none, none, none, none, none, none, none, none, none, none, none, none, none, none, none, none, none] a' ∧ Putting B w p sv bl v n k w') (fun a' _ => (intOf (a'.tmps.getD 2 undef)).toNat) rfl ?_ ?_
  · rcases Nat.eq_zero_or_pos n with hk0 | hk0
    · subst hk0
      go_wp2_with (go_at_call 178; refine (mayBe_yes _ _ (by omega) (by omega)).mono ?_; rintro e w1 ⟨rfl, rfl⟩)
      go_step3
      go_wp2
      simp only [Exit.jump]
      go_ret
      obtain ⟨sv1, hr1, ho1, hy1⟩ := HS.out
      exact ⟨rfl, sv1, by simpa using hr1, ho1, hy1⟩
    · go_wp2_with (go_at_call 178; refine (mayBe_yes _ _ (by omega) (by omega)).mono ?_; rintro e w1 ⟨rfl, rfl⟩)
      go_step3
      clear HH hc
      obtain ⟨j, rfl⟩ : ∃ j, n = j + 1 := ⟨n - 1, by omega⟩
      have hE := Lib.hid (bit_arg v j HV.out)
      obtain ⟨sv1, hr1, ho1, hy1⟩ := HS.out
      go_wp2_with (go_at_call 179; rw [hE.out]; refine (add_any _ hr1 ?_).mono ?_; simp [length_unval]; omega; rintro e w2 hw; have HW := Lib.hid hw; obtain ⟨rfl, _⟩ := hw)
      go_step3
      refine ⟨rfl, j, by omega, ?_, Putting.step (by omega) ho1 hy1 HW.out⟩
      simp only [Fr, Holes]
      repeat apply Exists.intro
      rfl
  · rintro a' w' ⟨k, hk, hfr, hput⟩
    simp only [Fr, Holes] at hfr
    repeat (obtain ⟨_, hfr⟩ := hfr)
    clear HS hc HH
    rcases Nat.eq_zero_or_pos k with hk0 | hk0
    · subst hk0
      go_wp2
      simp only [Exit.jump]
      go_ret
      obtain ⟨sv1, hr1, ho1, hy1⟩ := hput
      exact ⟨rfl, sv1, by simpa using hr1, ho1, hy1⟩
    · obtain ⟨j, rfl⟩ : ∃ j, k = j + 1 := ⟨k - 1, by omega⟩
      have hE := Lib.hid (bit_arg v j HV.out)
      obtain ⟨sv1, hr1, ho1, hy1⟩ := hput
      go_wp2_with (go_at_call 179; rw [hE.out]; refine (add_any _ hr1 ?_).mono ?_; simp [length_unval]; omega; rintro e w2 hw; have HW := Lib.hid hw; obtain ⟨rfl, _⟩ := hw)
      go_step3
      refine ⟨rfl, ⟨j, by omega, ?_, Putting.step (by omega) ho1 hy1 HW.out⟩, ?_⟩
      · simp only [Fr, Holes]
        repeat apply Exists.intro
        rfl
      · simp [intOf]
end Go.Proofs.Ytdaipfmckonfpaa
namespace Go.Proofs.Ytdaipfmckonfpaa
open Go.RowKit

theorem unval_at (v n j : Nat) (h : j < n) : (unval v n)[j]? = some (v / 2 ^ (n - 1 - j) % 2 == 1) := by
  induction n generalizing v with
  | zero => omega
  | succ n ih =>
    rw [unval]
    by_cases hj : j < n
    · rw [List.getElem?_append_left (by rw [length_unval]; exact hj), ih _ hj, Nat.div_div_eq_div_mul]
      have e : n + 1 - 1 - j = (n - 1 - j) + 1 := by omega
      rw [e, Nat.pow_succ, Nat.mul_comm 2]
    · have e : j = n := by omega
      subst e
      rw [List.getElem?_append_right (by rw [length_unval]; omega), length_unval, Nat.sub_self]
      simp

/-- bit i of bytes -/
def bitAt (bs : List Nat) (i : Nat) : Bool := (bitsOf bs).getD i false
theorem bitAt_eq {bs : List Nat} {i b : Nat} (h : bs[i / 8]? = some b) : bitAt bs i = (b / 2 ^ (7 - i % 8) % 2 == 1) := by
  unfold bitAt
  rw [List.getD_eq_getElem?_getD, bitsOf_at bs i b h, unval_at b 8 (i % 8) (Nat.mod_lt _ (by omega))]
  rfl

/-- a reader at block p, with its bytes in block g, stands at bit i -/
def RRep (w : World) (p g : Nat) (bs : List Nat) (i : Nat) : Prop :=
  Row w p 233 #[.slice (some ⟨g, 0, none⟩) bs.length bs.length, .int .i64 i] ∧ Row w g 5 (bts bs).toArray ∧ i ≤ 8 * bs.length ∧ bs.length ≤ 8192 ∧ ∀ b ∈ bs, b < 256
theorem RRep.only {w v : World} {p g : Nat} {bs : List Nat} {i : Nat} {S : Nat → Prop} (h : RRep w p g bs i) (ho : Only S w v) (h1 : ¬ S p) (h2 : ¬ S g) : RRep v p g bs i :=
  ⟨h.1.only ho h1, h.2.1.only ho h2, h.2.2⟩
theorem RRep.later {w v : World} {p g : Nat} {bs : List Nat} {i : Nat} (h : RRep w p g bs i) (hb : Below w.heap.size w v) : RRep v p g bs i :=
  h.only (S := fun _ => False) (.of_below hb) (fun h => h) (fun h => h)
theorem RRep.ne {w : World} {p g : Nat} {bs : List Nat} {i : Nat} (h : RRep w p g bs i) : g ≠ p := h.2.1.apart h.1 (by decide)

theorem add_zero_addr (g j : Nat) : (⟨g, 0, none⟩ : Addr).add j = ⟨g, j, none⟩ := by
  unfold Addr.add
  split
  · rename_i h
    rw [h]
  · simp
theorem row_src {w : World} {g : Nat} {t : TypeId} {xs : List Value} (h : Row w g t xs.toArray) : Src w (some ⟨g, 0, none⟩) xs := by
  intro _
  refine ⟨_, rfl, fun j u hu => ?_⟩
  rw [add_zero_addr]
  exact h.read (by simpa using hu)

set_option maxHeartbeats 800000 in
theorem read_any (A : Option Addr) (cap : Nat) (l : List Nat) (w : World) (hn : l.length ≤ 8192) (hc : l.length ≤ cap) (hs : Src w A (bts l)) (hb : ∀ b ∈ l, b < 256) :
    Calls Try.prog 139 #[.slice A l.length cap] w fun e w' => ∃ p g, e = .returned (.pointer (some ⟨p, 0, none⟩)) ∧ w.heap.size ≤ p ∧ w.heap.size ≤ g ∧ RRep w' p g l 0 ∧ Below w.heap.size w w' := by
  have hcop := fun A' cap' W h => copied_any A' cap' l W hn h
  have HC := Lib.hid hcop
  have HS := Lib.hid hs
  have HL := Lib.hid hb
  clear hcop hs hb
  generalize hnn : l.length = n at *
  go_enter Try.func139, Try.ntmps139
  go_wp2_with (go_at_call 180; refine (HC.out _ _ _ ?_).mono ?_; exact HS.out; rintro e w1 ⟨g, rfl, hg, hrow, hb⟩)
  go_ret
  have hp := hb.size
  refine ⟨w1.heap.size, g, rfl, hp, hg, ⟨?_, hrow.more _, by omega, by omega, HL.out⟩, bl_alloc hb _⟩
  rw [hnn]
  exact Row.made _ _ _

set_option maxHeartbeats 400000 in
theorem left_any {w : World} {p g : Nat} {bs : List Nat} {i : Nat} (h : RRep w p g bs i) :
    Calls Try.prog 182 #[.pointer (some ⟨p, 0, none⟩)] w fun e w' => e = .returned (.int .i64 ((8 * bs.length - i : Nat) : Int)) ∧ Below w.heap.size w w' := by
  have hc0 : w.cell? ⟨p, 0, none⟩ = some (.slice (some ⟨g, 0, none⟩) bs.length bs.length) := h.1.read rfl
  have hc1 : w.cell? ⟨p, 1, none⟩ = some (.int .i64 i) := h.1.read rfl
  have hi := h.2.2.1
  have hn := h.2.2.2.1
  clear h
  generalize bs.length = n at *
  go_enter Try.func182, Try.ntmps182
  go_wp2
  go_quiet (fail)
  go_wp2
  go_ret
  exact ⟨ret_int (by first | rfl | omega), below_drewN (Below.refl _ _) _⟩
theorem bit_u8 (b k : Nat) (hb : b < 256) : bits .and .u8 ((b : Int) / 2 ^ k) 1 = ((b / 2 ^ k % 2 == 1).toNat : Int) := by
  rw [cast_div_pow]
  have h1 : b / 2 ^ k ≤ b := Nat.div_le_self _ _
  generalize b / 2 ^ k = q at *
  have h2 := u8_and_nat q 1 (by omega) (by omega)
  rw [Nat.and_one_is_mod] at h2
  rw [show (1 : Int) = ((1 : Nat) : Int) from rfl, h2]
  rcases Nat.mod_two_eq_zero_or_one q with h | h <;> rw [h] <;> rfl

set_option maxHeartbeats 400000 in
theorem bit_any {w : World} {p g : Nat} {bs : List Nat} {i k : Nat} (h : RRep w p g bs k) (hi : i < 8 * bs.length) :
    Calls Try.prog 183 #[.pointer (some ⟨p, 0, none⟩), .int .i64 i] w fun e w' => e = .returned (.int .u8 (bitAt bs i).toNat) ∧ w = w' := by
  have hc0 : w.cell? ⟨p, 0, none⟩ = some (.slice (some ⟨g, 0, none⟩) bs.length bs.length) := h.1.read rfl
  have hn := h.2.2.2.1
  have hlt : i / 8 < bs.length := by omega
  have hat : bs[i / 8]? = some bs[i / 8] := List.getElem?_eq_getElem hlt
  have hc1 : w.cell? ⟨g, i / 8, none⟩ = some (.int .u8 bs[i / 8]) := h.2.1.read (by simpa using bts_at hat)
  have hb := h.2.2.2.2 _ (List.getElem_mem hlt)
  have hv := bitAt_eq hat
  generalize bs[i / 8] = b at *
  generalize bs.length = n at *
  have HV := Lib.hid hv
  have HB := Lib.hid hb
  clear h hat hv hb
  go_enter Try.func183, Try.ntmps183
  go_wp2
  go_ret
  refine ⟨ret_int ?_, rfl⟩
  rw [HV.out]
  exact bit_u8 b _ HB.out
end Go.Proofs.Ytdaipfmckonfpaa
