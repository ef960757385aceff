/-
  reseg: plain lists: a packet's bytes cut into pieces. What a reader does: Rest. Bytes of memory as a text. BitsBack: what was put, one behind the other, and what is then read: plain lists. Lengths as bits: plain lists, no program. What one answers: the next length, and whether another one follows. What Rest tells of the bits up to the next byte; lists of ints by append; Clip. What Read answers. What is wrong with lengths that are to be written; lengths written. What Write does: the bytes of lengths, or why there are none. The document's answer for what is put: bits as a list of the call's own. The document's answer for bits as bytes. The document's answer for what is got: bytes as bits, and the number of the next of them. The document's Write. Rows of bytes as they came in; how they are gone through.
-/
import Derived.Test.YtdaipfmckonfpaaJSentCounts01
import Derived.Laws.BytesString
import Derived.Laws.IdiomStrings
import Derived.BigQuiet
import Derived.Laws.BitsAllLaws
import Derived.Shelf.Bytes.SlSmallAll
import Derived.StillTailTactics
namespace Go.Proofs.Ytdaipfmckonfpaa
open Go.RowKit

/-- where the field ends in which a place is -/
def endF : List Nat → Nat → Nat
  | [], _ => 0
  | l :: r, p => if p < l then l else l + endF r (p - l)
/-- is a place at a field's beginning or end? -/
def edgeF : List Nat → Nat → Bool
  | [], x => x == 0
  | l :: r, x => x == 0 || (decide (l ≤ x) && edgeF r (x - l))
theorem edgeF_zero (ls : List Nat) : edgeF ls 0 = true := by cases ls <;> simp [edgeF]
theorem edgeF_cons {l : Nat} {r : List Nat} {x : Nat} (h : l ≤ x) (hx : 0 < x) : edgeF (l :: r) x = edgeF r (x - l) := by
  have h0 : (x == 0) = false := by simp; omega
  simp [edgeF, h, h0]
theorem edgeF_in {l : Nat} {r : List Nat} {x : Nat} (h : x < l) (hx : 0 < x) : edgeF (l :: r) x = false := by
  have h0 : (x == 0) = false := by simp; omega
  simp [edgeF, h0]
  omega
theorem edgeF_add {l : Nat} {r : List Nat} {x : Nat} (h : edgeF r x = true) : edgeF (l :: r) (l + x) = true := by
  rcases Nat.eq_zero_or_pos (l + x) with h0 | h0
  · rw [h0]; exact edgeF_zero _
  · rw [edgeF_cons (by omega) h0, Nat.add_sub_cancel_left]; exact h
theorem endF_in {ls : List Nat} {p : Nat} (h : p < ls.sum) : p < endF ls p ∧ endF ls p ≤ ls.sum ∧ edgeF ls (endF ls p) = true ∧ ∀ x, p < x → x < endF ls p → edgeF ls x = false := by
  induction ls generalizing p with
  | nil => simp at h
  | cons l r ih =>
    rw [List.sum_cons] at h ⊢
    unfold endF
    by_cases hp : p < l
    · rw [if_pos hp]
      refine ⟨hp, by omega, ?_, fun x h1 h2 => edgeF_in h2 (by omega)⟩
      have := edgeF_add (l := l) (edgeF_zero r)
      exact this
    · rw [if_neg hp]
      obtain ⟨h1, h2, h3, h4⟩ := ih (p := p - l) (by omega)
      refine ⟨by omega, by omega, edgeF_add h3, fun x g1 g2 => ?_⟩
      rw [edgeF_cons (by omega) (by omega)]
      exact h4 _ (by omega) (by omega)
/-- the lengths of the pieces of N bytes from a place on -/
def pcs (ls : List Nat) (a : Nat) : Nat → List Nat
  | 0 => []
  | N + 1 => if N = 0 ∨ edgeF ls (a + N) = true then pcs ls a N ++ [1] else (pcs ls a N).dropLast ++ [(pcs ls a N).getLastD 0 + 1]
theorem pcs_new {ls : List Nat} {a N : Nat} (h : N = 0 ∨ edgeF ls (a + N) = true) : pcs ls a (N + 1) = pcs ls a N ++ [1] := by
  rw [pcs, if_pos h]
theorem pcs_more {ls : List Nat} {a N m : Nat} {P : List Nat} (h0 : 0 < N) (h : edgeF ls (a + N) = false) (hp : pcs ls a N = P ++ [m]) : pcs ls a (N + 1) = P ++ [m + 1] := by
  rw [pcs, if_neg (by rw [h]; simp; omega), hp]
  simp
theorem pcs_jump {ls : List Nat} {a N n : Nat} (hn : 0 < n) (h : N = 0 ∨ edgeF ls (a + N) = true) (hx : ∀ x, a + N < x → x < a + N + n → edgeF ls x = false) : pcs ls a (N + n) = pcs ls a N ++ [n] := by
  induction n with
  | zero => omega
  | succ n ih =>
    rcases Nat.eq_zero_or_pos n with h0 | h0
    · subst h0
      exact pcs_new h
    · have := ih h0 (fun x h1 h2 => hx x h1 (by omega))
      exact pcs_more (N := N + n) (by omega) (hx (a + (N + n)) (by omega) (by omega)) this
theorem pcs_last (ls : List Nat) (a : Nat) {N : Nat} (h : 0 < N) : ∃ P m, pcs ls a N = P ++ [m] ∧ 0 < m ∧ m ≤ N ∧ (∀ x, a + N - m < x → x < a + N → edgeF ls x = false) ∧ (m = N ∧ P = [] ∨ m < N ∧ edgeF ls (a + N - m) = true ∧ pcs ls a (N - m) = P) := by
  induction N with
  | zero => omega
  | succ N ih =>
    by_cases hc : N = 0 ∨ edgeF ls (a + N) = true
    · refine ⟨_, 1, pcs_new hc, by omega, by omega, fun x h1 h2 => by omega, ?_⟩
      rcases Nat.eq_zero_or_pos N with h0 | h0
      · subst h0
        exact .inl ⟨rfl, rfl⟩
      · rcases hc with hc | hc
        · omega
        · exact .inr ⟨by omega, by rw [show a + (N + 1) - 1 = a + N by omega]; exact hc, by simp⟩
    · have h0 : 0 < N := by omega
      have he : edgeF ls (a + N) = false := by
        rw [← Bool.not_eq_true]
        exact fun h => hc (.inr h)
      obtain ⟨P, m, h1, h2, h3, h4, h5⟩ := ih h0
      refine ⟨P, m + 1, pcs_more h0 he h1, by omega, by omega, fun x g1 g2 => ?_, ?_⟩
      · rcases Nat.lt_or_ge x (a + N) with g3 | g3
        · exact h4 x (by omega) g3
        · rw [show x = a + N by omega]; exact he
      · rcases h5 with ⟨e1, e2⟩ | ⟨e1, e2, e3⟩
        · exact .inl ⟨by omega, e2⟩
        · exact .inr ⟨by omega, by rw [show a + (N + 1) - (m + 1) = a + N - m by omega]; exact e2, by rw [show N + 1 - (m + 1) = N - m by omega]; exact e3⟩
theorem pcs_sum (ls : List Nat) (a N : Nat) : (pcs ls a N).sum = N := by
  induction N using Nat.strongRecOn with
  | _ N ih =>
    rcases Nat.eq_zero_or_pos N with h | h
    · subst h
      rfl
    · obtain ⟨P, m, h1, h2, h3, _, h5⟩ := pcs_last ls a h
      rw [h1]
      rcases h5 with ⟨e1, e2⟩ | ⟨e1, _, e3⟩
      · subst e2
        simp [e1]
      · have := ih (N - m) (by omega)
        rw [e3] at this
        simp [this]
        omega
/-- how many fields end up to a place -/
def cntF : List Nat → Nat → Nat
  | [], _ => 0
  | l :: r, x => if x < l then 0 else 1 + cntF r (x - l)
theorem cntF_mono (ls : List Nat) {x y : Nat} (h : x ≤ y) : cntF ls x ≤ cntF ls y := by
  induction ls generalizing x y with
  | nil => exact Nat.le_refl _
  | cons l r ih =>
    unfold cntF
    by_cases h1 : x < l
    · rw [if_pos h1]; omega
    · rw [if_neg h1, if_neg (by omega)]
      have := ih (x := x - l) (y := y - l) (by omega)
      omega
theorem cntF_len {ls : List Nat} {x : Nat} (h : x < ls.sum) : cntF ls x < ls.length := by
  induction ls generalizing x with
  | nil => simp at h
  | cons l r ih =>
    rw [List.sum_cons] at h
    unfold cntF
    by_cases h1 : x < l
    · rw [if_pos h1]; simp
    · rw [if_neg h1]
      have := ih (x := x - l) (by omega)
      simp
      omega
theorem cntF_edge {ls : List Nat} {y : Nat} (hp : ∀ l ∈ ls, 0 < l) (h0 : 0 < y) (h : edgeF ls y = true) : cntF ls (y - 1) + 1 ≤ cntF ls y := by
  induction ls generalizing y with
  | nil => simp [edgeF] at h; omega
  | cons l r ih =>
    have hl := hp l (by simp)
    rcases Nat.lt_or_ge y l with h1 | h1
    · rw [edgeF_in h1 h0] at h
      cases h
    · rw [edgeF_cons h1 h0] at h
      unfold cntF
      rcases Nat.eq_zero_or_pos (y - l) with h2 | h2
      · rw [if_pos (by omega), if_neg (by omega)]
        omega
      · rw [if_neg (by omega), if_neg (by omega)]
        have := ih (y := y - l) (fun l h => hp l (by simp [h])) h2 h
        rw [show y - 1 - l = y - l - 1 by omega]
        omega
theorem pcs_cnt {ls : List Nat} (a : Nat) (hp : ∀ l ∈ ls, 0 < l) {N : Nat} (h : 0 < N) : (pcs ls a N).length + cntF ls a ≤ cntF ls (a + N - 1) + 1 := by
  induction N with
  | zero => omega
  | succ N ih =>
    rcases Nat.eq_zero_or_pos N with h0 | h0
    · subst h0
      rw [pcs_new (.inl rfl)]
      simp [pcs]
      omega
    · have ih := ih h0
      have hm := cntF_mono ls (x := a + N - 1) (y := a + N) (by omega)
      rw [show a + (N + 1) - 1 = a + N by omega]
      by_cases he : edgeF ls (a + N) = true
      · rw [pcs_new (.inr he)]
        have := cntF_edge hp (by omega) he
        simp
        omega
      · obtain ⟨P, m, h1, _⟩ := pcs_last ls a h0
        rw [pcs_more h0 (by simpa using he) h1]
        rw [h1] at ih
        simp at ih ⊢
        omega
theorem pcs_len {ls : List Nat} {a N : Nat} (hp : ∀ l ∈ ls, 0 < l) (h : a + N ≤ ls.sum) : (pcs ls a N).length ≤ ls.length := by
  rcases Nat.eq_zero_or_pos N with h0 | h0
  · subst h0
    simp [pcs]
  · have h1 := pcs_cnt a hp h0
    have h2 := cntF_len (ls := ls) (x := a + N - 1) (by omega)
    omega
theorem pcs_len_mono (ls : List Nat) (a : Nat) {N M : Nat} (h : N ≤ M) : (pcs ls a N).length ≤ (pcs ls a M).length := by
  induction M with
  | zero => rw [show N = 0 by omega]; exact Nat.le_refl _
  | succ M ih =>
    rcases Nat.eq_or_lt_of_le h with h1 | h1
    · rw [h1]; exact Nat.le_refl _
    · refine Nat.le_trans (ih (by omega)) ?_
      by_cases hc : M = 0 ∨ edgeF ls (a + M) = true
      · rw [pcs_new hc]; simp
      · have h0 : 0 < M := by omega
        obtain ⟨P, m, h1, _⟩ := pcs_last ls a h0
        rw [pcs_more h0 (by rw [← Bool.not_eq_true]; exact fun h => hc (.inr h)) h1, h1]
        simp
/-- bytes cut into pieces -/
def slic : List Nat → List Nat → List (List Nat)
  | _, [] => []
  | d, n :: r => d.take n :: slic (d.drop n) r
theorem slic_lens {d P : List Nat} (h : P.sum ≤ d.length) : (slic d P).map List.length = P := by
  induction P generalizing d with
  | nil => rfl
  | cons n r ih =>
    rw [List.sum_cons] at h
    simp only [slic, List.map_cons, ih (d := d.drop n) (by rw [List.length_drop]; omega), List.length_take]
    rw [Nat.min_eq_left (by omega)]
theorem sizeF_mono {i j x : Int} (h0 : 0 ≤ i) (h : i ≤ j) (h1 : j ≤ 23) : sizeF i x ≤ sizeF j x := by
  unfold sizeF
  cases hx : okW x
  · simp
  · rcases okW_nat hx with rfl | rfl
    · rcases Int.lt_or_le i 1 with h2 | h2
      · have hi : decide (1 ≤ i) = false := by simp; omega
        simp only [hi, Bool.false_and, Bool.and_false]
        split
        · simp; split <;> omega
        · split <;> omega
      · have hi : decide (1 ≤ i) = true := by simp; omega
        have hi2 : decide (i ≤ 23) = true := by simp; omega
        have hj : decide (1 ≤ j) = true := by simp; omega
        have hj2 : decide (j ≤ 23) = true := by simp; omega
        simp only [hi, hi2, hj, hj2, Bool.and_self, if_true]
        omega
    · rcases Int.lt_or_le i 1 with h2 | h2
      · have hi : decide (1 ≤ i) = false := by simp; omega
        simp only [hi, Bool.false_and, Bool.and_false]
        split
        · simp; split <;> omega
        · split <;> omega
      · have hi : decide (1 ≤ i) = true := by simp; omega
        have hi2 : decide (i ≤ 23) = true := by simp; omega
        have hj : decide (1 ≤ j) = true := by simp; omega
        have hj2 : decide (j ≤ 23) = true := by simp; omega
        simp only [hi, hi2, hj, hj2, Bool.and_self, if_true]
        omega
/-- how many bytes N bytes from a place on are, with their pieces' lengths -/
def costP (ls : List Nat) (a : Nat) (wd : Int) (N : Nat) : Int := N + sizeF (((pcs ls a N).length : Int) - 1) wd
theorem pcs_pos (ls : List Nat) (a : Nat) {N : Nat} (h : 0 < N) : 0 < (pcs ls a N).length := by
  obtain ⟨P, m, h1, _⟩ := pcs_last ls a h
  rw [h1]; simp
theorem cost_lt {ls : List Nat} {a N M : Nat} {wd : Int} (hp : ∀ l ∈ ls, 0 < l) (h24 : ls.length ≤ 24) (h0 : 0 < N) (h : N < M) (hM : a + M ≤ ls.sum) : costP ls a wd N < costP ls a wd M := by
  have h1 := pcs_len_mono ls a (N := N) (M := M) (by omega)
  have h2 := pcs_len hp hM
  have h3 := pcs_pos ls a h0
  have := sizeF_mono (i := ((pcs ls a N).length : Int) - 1) (j := ((pcs ls a M).length : Int) - 1) (x := wd) (by omega) (by omega) (by omega)
  unfold costP
  omega
/-- as many bytes as there is room for -/
def CutN (ls : List Nat) (a b : Nat) (room wd : Int) (N : Nat) : Prop := a + N ≤ b ∧ (N = 0 ∨ costP ls a wd N ≤ room) ∧ (a + N = b ∨ room < costP ls a wd (N + 1))
theorem CutN.only {ls : List Nat} {a b N M : Nat} {room wd : Int} (hp : ∀ l ∈ ls, 0 < l) (h24 : ls.length ≤ 24) (hb : b ≤ ls.sum) (h : CutN ls a b room wd N) (g : CutN ls a b room wd M) : N = M := by
  obtain ⟨h1, h2, h3⟩ := h
  obtain ⟨g1, g2, g3⟩ := g
  rcases Nat.lt_trichotomy N M with h | h | h
  · rcases h3 with h3 | h3
    · omega
    · rcases g2 with g2 | g2
      · omega
      · rcases Nat.eq_or_lt_of_le (show N + 1 ≤ M by omega) with e | e
        · rw [e] at h3; omega
        · have := cost_lt (wd := wd) hp h24 (N := N + 1) (M := M) (a := a) (by omega) e (by omega)
          omega
  · exact h
  · rcases g3 with g3 | g3
    · omega
    · rcases h2 with h2 | h2
      · omega
      · rcases Nat.eq_or_lt_of_le (show M + 1 ≤ N by omega) with e | e
        · rw [e] at g3; omega
        · have := cost_lt (wd := wd) hp h24 (N := M + 1) (M := N) (a := a) (by omega) e (by omega)
          omega
/-- how far the code has come -/
def CutI (ls : List Nat) (a b : Nat) (room wd : Int) (N : Nat) : Prop := a + N ≤ b ∧ (N = 0 ∨ costP ls a wd N ≤ room) ∧ (N = 0 ∨ edgeF ls (a + N) = true ∨ a + N = b ∨ costP ls a wd N = room)
section
variable {ls : List Nat} {a b N : Nat} {room wd : Int}
theorem CutI.zero (h : a ≤ b) : CutI ls a b room wd 0 := ⟨by omega, .inl rfl, .inl rfl⟩
theorem CutI.end (h : CutI ls a b room wd N) (e : a + N = b) : CutN ls a b room wd N := ⟨h.1, h.2.1, .inl e⟩
theorem CutI.fresh (h : CutI ls a b room wd N) (hlt : a + N < b) (hk : (pcs ls a N).length < 24) (hl : 0 < room - N - sizeF ((pcs ls a N).length : Int) wd) : N = 0 ∨ edgeF ls (a + N) = true := by
  rcases h.2.2 with h0 | h0 | h0 | h0
  · exact .inl h0
  · exact .inr h0
  · omega
  · rcases Nat.eq_zero_or_pos N with hN | hN
    · exact .inl hN
    · exfalso
      have h1 := pcs_pos ls a hN
      have := sizeF_mono (i := ((pcs ls a N).length : Int) - 1) (j := ((pcs ls a N).length : Int)) (x := wd) (by omega) (by omega) (by omega)
      unfold costP at h0
      omega
theorem CutI.next (hb : b ≤ ls.sum) (h : CutI ls a b room wd N) (hlt : a + N < b) (hk : (pcs ls a N).length < 24) {n : Nat} (hn : 0 < n) (hnl : (n : Int) ≤ room - N - sizeF ((pcs ls a N).length : Int) wd) (hnb : a + N + n ≤ b) (hne : a + N + n ≤ endF ls (a + N)) (hmin : (n : Int) = room - N - sizeF ((pcs ls a N).length : Int) wd ∨ a + N + n = b ∨ a + N + n = endF ls (a + N)) :
    CutI ls a b room wd (N + n) ∧ pcs ls a (N + n) = pcs ls a N ++ [n] := by
  have hf := h.fresh hlt hk (by omega)
  obtain ⟨e1, e2, e3, e4⟩ := endF_in (ls := ls) (p := a + N) (by omega)
  have hj := pcs_jump hn hf (fun x h1 h2 => e4 x h1 (by omega))
  have hc : costP ls a wd (N + n) = N + n + sizeF ((pcs ls a N).length : Int) wd := by
    unfold costP
    rw [hj]
    simp
  refine ⟨⟨by omega, .inr (by rw [hc]; omega), ?_⟩, hj⟩
  rcases hmin with h1 | h1 | h1
  · exact .inr (.inr (.inr (by rw [hc]; omega)))
  · exact .inr (.inr (.inl (by omega)))
  · exact .inr (.inl (by rw [← Nat.add_assoc, h1]; exact e3))
end
end Go.Proofs.Ytdaipfmckonfpaa
namespace Go.Proofs.Ytdaipfmckonfpaa
open Go.RowKit

/-- how many bytes are begun -/
def up (i : Nat) : Nat := (i + 7) / 8

end Go.Proofs.Ytdaipfmckonfpaa
namespace Go.Proofs.Ytdaipfmckonfpaa
open Go.RowKit

/-- bytes as a text -/
def strOf (l : List Nat) : ByteArray := ⟨(l.map UInt8.ofNat).toArray⟩

theorem get_below {B p : Nat} {w w' : World} (h : Only (fun k => k = p) w w') (hp : B ≤ p) (hB : B ≤ w.heap.size) : Below B w w' :=
  h.below hB (fun k hk hS => by omega)
end Go.Proofs.Ytdaipfmckonfpaa
namespace Go.Proofs.Ytdaipfmckonfpaa
open Go.RowKit

def bitsP (kp : List (Nat × Nat)) : List Bool := kp.flatMap fun x => unval x.1 x.2
end Go.Proofs.Ytdaipfmckonfpaa
namespace Go.Proofs.Ytdaipfmckonfpaa

/-- lengths read from bits, at most f: the lengths, how many bits, or why there are none -/
def prs (w : Nat) : Nat → List Bool → List Nat × Nat × Int
  | 0, _ => ([], 0, 2)
  | f + 1, y =>
    if y.length < w + 1 then ([], 0, 8)
    else if val ((y.drop 1).take w) = 0 then ([], 0, 3)
    else if y.getD 0 false then
      if (prs w f (y.drop (w + 1))).2.2 = 0 then (val ((y.drop 1).take w) :: (prs w f (y.drop (w + 1))).1, (prs w f (y.drop (w + 1))).2.1 + (w + 1), 0)
      else ([], 0, (prs w f (y.drop (w + 1))).2.2)
    else ([val ((y.drop 1).take w)], w + 1, 0)
/-- behind lengths that were read -/
def onto (w : Nat) (acc : List Nat) (r : List Nat × Nat × Int) : List Nat × Nat × Int := if r.2.2 = 0 then (acc ++ r.1, acc.length * (w + 1) + r.2.1, 0) else ([], 0, r.2.2)

/-- behind the lengths acc the rest comes to what all comes to -/
def LInv (w : Nat) (x : List Bool) (acc : List Nat) : Prop := acc.length ≤ 22 ∧ onto w acc (prs w (23 - acc.length) (x.drop (acc.length * (w + 1)))) = prs w 23 x
section
variable {w : Nat} {x : List Bool} {acc : List Nat}
theorem LInv.last (h : LInv w x acc) (h1 : ¬ x.length - acc.length * (w + 1) < w + 1) (h2 : val ((x.drop (acc.length * (w + 1) + 1)).take w) ≠ 0) (h3 : x.getD (acc.length * (w + 1)) false = false) :
    prs w 23 x = (acc ++ [val ((x.drop (acc.length * (w + 1) + 1)).take w)], (acc.length + 1) * (w + 1), 0) := by
  obtain ⟨h0, h⟩ := h
  rw [← h, show 23 - acc.length = (22 - acc.length) + 1 by omega]
  unfold prs
  have e : (x.drop (acc.length * (w + 1))).getD 0 false = x.getD (acc.length * (w + 1)) false := by
    rw [List.getD_eq_getElem?_getD, List.getElem?_drop, Nat.add_zero, ← List.getD_eq_getElem?_getD]
  rw [if_neg (by rw [List.length_drop]; exact h1), List.drop_drop, if_neg h2, e, h3]
  simp [onto, Nat.add_mul]
theorem LInv.more (h : LInv w x acc) (h1 : ¬ x.length - acc.length * (w + 1) < w + 1) (h2 : val ((x.drop (acc.length * (w + 1) + 1)).take w) ≠ 0) (h3 : x.getD (acc.length * (w + 1)) false = true) (h4 : acc.length < 22) :
    LInv w x (acc ++ [val ((x.drop (acc.length * (w + 1) + 1)).take w)]) := by
  obtain ⟨h0, h⟩ := h
  have e : (x.drop (acc.length * (w + 1))).getD 0 false = x.getD (acc.length * (w + 1)) false := by
    rw [List.getD_eq_getElem?_getD, List.getElem?_drop, Nat.add_zero, ← List.getD_eq_getElem?_getD]
  have hl : (acc ++ [val ((x.drop (acc.length * (w + 1) + 1)).take w)]).length = acc.length + 1 := by simp
  have hs : prs w (23 - acc.length) (x.drop (acc.length * (w + 1))) = if (prs w (22 - acc.length) (x.drop ((acc.length + 1) * (w + 1)))).2.2 = 0 then (val ((x.drop (acc.length * (w + 1) + 1)).take w) :: (prs w (22 - acc.length) (x.drop ((acc.length + 1) * (w + 1)))).1, (prs w (22 - acc.length) (x.drop ((acc.length + 1) * (w + 1)))).2.1 + (w + 1), 0) else ([], 0, (prs w (22 - acc.length) (x.drop ((acc.length + 1) * (w + 1)))).2.2) := by
    rw [show 23 - acc.length = (22 - acc.length) + 1 by omega]
    conv => lhs; unfold prs
    rw [if_neg (by rw [List.length_drop]; exact h1), List.drop_drop, if_neg h2, e, h3, List.drop_drop, show acc.length * (w + 1) + (w + 1) = (acc.length + 1) * (w + 1) by rw [Nat.add_mul, Nat.one_mul]]
    rfl
  refine ⟨by rw [hl]; omega, ?_⟩
  rw [← h, hs, hl, show 23 - (acc.length + 1) = 22 - acc.length by omega]
  unfold onto
  generalize prs w (22 - acc.length) (x.drop ((acc.length + 1) * (w + 1))) = r
  by_cases hr : r.2.2 = 0
  · simp [hr, Nat.add_mul]
    omega
  · simp [hr]
end
end Go.Proofs.Ytdaipfmckonfpaa
namespace Go.Proofs.Ytdaipfmckonfpaa
open Go.RowKit

end Go.Proofs.Ytdaipfmckonfpaa
namespace Go.Proofs.Ytdaipfmckonfpaa
open Go.RowKit

/-- an append, at a plain region's list, whose run is known -/
theorem wpList_run {P : Program} {ops : Array Oper} {rest : List Oper} {o : Oper} {a : Act} {w : World} {Q : Exit → Act → World → Prop} (hgd : o.guard = none) (s x : Operand) (t : TypeId)
    (ho : o.op = .call { callee := .builtin .append, args := #[s, x], argTypes := #[t, t] }) (v u : Value) (hs : a.eval s = v) (hx : a.eval x = u) {v' : Value} {w' : World}
    (hr : (Builtin.append_ #[t, t] o.type #[v, u]).run P w = .ok v' w') (h : wpList P ops Q rest (a.put o.dst v') w') : wpList P ops Q (o :: rest) a w :=
  wpList_plain hgd fun _ hK => by
    unfold Oper.wp execOp
    simp only [ho, resolve, invoke, builtin, Sem.run_bind, Sem.run_pure, Result.andThen_ok, List.map_toArray, List.map_cons, List.map_nil, hs, hx, hr]
    exact hK _ _ h

theorem Try.info3 : (Try.prog.info? 3).map (fun i => (i.zero, i.size, i.bytes)) = some (some (.int .i64 0), 1, 8) := by kernel_rfl
theorem Try.under30 : Try.prog.underlying 30 = some (.slice 3) := by kernel_rfl

theorem int_tail {B : Nat} {W : World} {v : Value} {n : Nat} {xs : List Value} (hown : W.ownsRow B 3 1 v n xs) (hB : B ≤ W.heap.size) (x : Int) (hn : n ≤ 1000000) :
    ∃ g cap W', (Builtin.append_ #[30, 30] 30 #[v, .slice (some ⟨W.heap.size, 0, none⟩) 1 1]).run Try.prog (W.alloc (.cells #[.int .i64 x] 3)) = .ok (.slice (some ⟨g, 0, none⟩) (n + 1) cap) W' ∧
      W'.ownsRow B 3 1 (.slice (some ⟨g, 0, none⟩) (n + 1) cap) (n + 1) (xs ++ [.int .i64 x]) ∧ Only (fun k => v.ownBlock = some k) W W' := by
  obtain ⟨i0, hi, hi0, hi1, hi2⟩ := info_parts Try.info3
  obtain ⟨g, cap, w3, hr3, h2, h3, _, _⟩ := run_append_lies (P := Try.prog) (W.alloc (.cells #[.int .i64 x] 3)) 30 30 B 3 i0 _ 1 8 Try.under30 hi hi0 hi1 hi2 rfl (by omega) v n xs (hown.alloc _) ⟨W.heap.size, 0, none⟩ 1 1 [.int .i64 x] rfl
    (World.news_of_block (cs := #[.int .i64 x]) (heap_alloc_new W _)) (by intro u hu; simp at hu; rw [hu]; rfl) (by omega) (by unfold maxLen; omega) (by omega) (by simp; omega) _ rfl
  exact ⟨g, cap, w3, hr3, h2, ((Only.refl _ W).alloc (.cells #[.int .i64 x] 3)).grown h3 (fun k hk => .inl hk)⟩

/-- a list of ints of its own, without room behind -/
def Ints (B : Nat) (w : World) (v : Value) (l : List Int) : Prop :=
  ∃ A, v = .slice A l.length l.length ∧ ((A = none ∧ l = []) ∨ ∃ g cs, A = some ⟨g, 0, none⟩ ∧ B ≤ g ∧ Row w g 3 cs ∧ ∀ (i : Nat) (x : Int), l[i]? = some x → cs[i]? = some (Value.int .i64 x))

section
variable {B : Nat} {w v : World} {u : Value} {l : List Int}
theorem Ints.later (h : Ints B w u l) (hb : Below w.heap.size w v) : Ints B v u l := by
  obtain ⟨A, h1, h2⟩ := h
  refine ⟨A, h1, ?_⟩
  rcases h2 with h2 | ⟨g, cs, h3, h4, h5, h6⟩
  · exact .inl h2
  · exact .inr ⟨g, cs, h3, h4, h5.later hb, h6⟩
theorem Ints.down {B' : Nat} (h : Ints B w u l) (hb : B' ≤ B) : Ints B' w u l := by
  obtain ⟨A, h1, h2⟩ := h
  refine ⟨A, h1, ?_⟩
  rcases h2 with h2 | ⟨g, cs, h3, h4, h5, h6⟩
  · exact .inl h2
  · exact .inr ⟨g, cs, h3, by omega, h5, h6⟩
theorem Ints.read (h : Ints B w u l) : ∃ A, u = .slice A l.length l.length ∧ ∀ (i : Nat) (x : Int), l[i]? = some x → ∃ g, A = some ⟨g, 0, none⟩ ∧ B ≤ g ∧ w.cell? ⟨g, i, none⟩ = some (Value.int .i64 x) := by
  obtain ⟨A, h1, h2⟩ := h
  refine ⟨A, h1, fun i x hx => ?_⟩
  rcases h2 with ⟨_, rfl⟩ | ⟨g, cs, h3, h4, h5, h6⟩
  · simp at hx
  · exact ⟨g, h3, h4, h5.read (h6 i x hx)⟩
end

end Go.Proofs.Ytdaipfmckonfpaa
namespace Go.Proofs.Ytdaipfmckonfpaa
open Go.RowKit

/-- lengths as values -/
def insN (l : List Nat) : List Value := (l.map (fun n : Nat => (n : Int))).map (fun x => Value.int .i64 x)
/-- at a jump: the lengths so far, and where the reader stands -/
structure RdInv (B wd p g : Nat) (bs acc : List Nat) (v : Value) (w w' : World) : Prop where
  rd : RRep w' p g bs (acc.length * (wd + 1))
  own : w'.ownsRow B 3 1 v acc.length (insN acc)
  below : Below B w w'
  above : B ≤ p
  size : B ≤ w'.heap.size
section
variable {B wd p g : Nat} {bs acc : List Nat} {v : Value} {w w' w1 : World}
theorem RdInv.form (h : RdInv B wd p g bs acc v w w') : ∃ A c, v = .slice A acc.length c := by
  rcases h.own.2 with ⟨rfl, h0⟩ | ⟨g, c, cur, rfl, _⟩
  · exact ⟨none, 0, by rw [h0]⟩
  · exact ⟨_, c, rfl⟩
/-- one length more -/
theorem RdInv.next (h : RdInv B wd p g bs acc v w w') (m : Nat) (hr : RRep w1 p g bs (acc.length * (wd + 1) + (wd + 1))) (ho : Only (fun k => k = p) w' w1) : RRep w1 p g bs ((acc.length + 1) * (wd + 1)) ∧
    ∃ g3 c3 w3, (Builtin.append_ #[30, 30] 30 #[v, .slice (some ⟨w1.heap.size, 0, none⟩) 1 1]).run Try.prog (w1.alloc (.cells #[.int .i64 m] 3)) = .ok (.slice (some ⟨g3, 0, none⟩) (acc.length + 1) c3) w3 ∧
      RdInv B wd p g bs (acc ++ [m]) (.slice (some ⟨g3, 0, none⟩) (acc.length + 1) c3) w w3 := by
  have h2 : RRep w1 p g bs ((acc.length + 1) * (wd + 1)) := by rw [Nat.add_mul, Nat.one_mul]; exact hr
  have hl : acc.length ≤ 1000000 := by
    have h3 := h.rd.2.2.1
    have h4 := h.rd.2.2.2.1
    have h5 : acc.length * 1 ≤ acc.length * (wd + 1) := Nat.mul_le_mul_left _ (by omega)
    omega
  have hown : w1.ownsRow B 3 1 v acc.length (insN acc) := own_only h.own ho (fun k hk e => by subst e; exact own_apart h.own h.rd.1 (by decide) hk)
  have hbl : Below B w w1 := h.below.trans (get_below ho h.above h.size)
  have hB1 : B ≤ w1.heap.size := Nat.le_trans h.size ho.size
  obtain ⟨g3, c3, w3, hrun, hown3, ho3⟩ := int_tail hown hB1 m hl
  refine ⟨h2, g3, c3, w3, hrun, ?_, ?_, ?_, h.above, Nat.le_trans hB1 ho3.size⟩
  · have e : (acc ++ [m]).length = acc.length + 1 := by simp
    rw [e]
    exact h2.only ho3 (own_apart hown h2.1 (by decide)) (own_apart hown h2.2.1 (by decide))
  · rw [List.length_append, List.length_singleton]
    have e : insN (acc ++ [m]) = insN acc ++ [.int .i64 m] := by simp [insN]
    rw [e]
    exact hown3
  · exact hbl.trans (ho3.below hB1 fun k hk hk' => by have := (hown.lt k hk').1; omega)
end
end Go.Proofs.Ytdaipfmckonfpaa
namespace Go.Proofs.Ytdaipfmckonfpaa
open Go.RowKit

end Go.Proofs.Ytdaipfmckonfpaa
namespace Go.Proofs.Ytdaipfmckonfpaa
open Go.RowKit

theorem cell_below {w v : World} {p : Addr} {x : Value} (hb : Below w.heap.size w v) (h : w.cell? p = some x) : v.cell? p = some x := by
  have hp : p.block < w.heap.size := by
    rcases Nat.lt_or_ge p.block w.heap.size with h2 | h2
    · exact h2
    · exfalso
      simp [World.cell?, Array.getElem?_eq_none h2] at h
  exact (hb.cell hp).trans h

end Go.Proofs.Ytdaipfmckonfpaa
namespace Go.Proofs.Ytdaipfmckonfpaa
open Go.RowKit

/-- bits as values -/
def bls (l : List Bool) : List Value := l.map Value.bool
theorem length_bls (l : List Bool) : (bls l).length = l.length := by simp [bls]
theorem bls_append (l k : List Bool) : bls (l ++ k) = bls l ++ bls k := by simp [bls]
/-- a list of bits of the call's own -/
def OwnB (B : Nat) (w : World) (x : Value) (bl : List Bool) : Prop := w.ownsRow B 4 1 x bl.length (bls bl) ∧ (bl = [] → x = .slice none 0 0)
theorem OwnB.nil (B : Nat) (w : World) : OwnB B w (.slice none 0 0) [] := ⟨World.ownsRow_nil _ _ _ _, fun _ => rfl⟩
theorem OwnB.later {B : Nat} {w v : World} {x : Value} {bl : List Bool} (h : OwnB B w x bl) (hb : Below w.heap.size w v) : OwnB B v x bl :=
  ⟨own_only h.1 (S := fun _ => False) (.of_below hb) (fun _ _ h => h), h.2⟩
theorem OwnB.form {B : Nat} {w : World} {x : Value} {bl : List Bool} (h : OwnB B w x bl) : ∃ A c, x = .slice A bl.length c := by
  rcases h.1.2 with ⟨rfl, h0⟩ | ⟨g, c, cur, rfl, _⟩
  · exact ⟨none, 0, by rw [h0]⟩
  · exact ⟨_, c, rfl⟩

end Go.Proofs.Ytdaipfmckonfpaa
namespace Go.Proofs.Ytdaipfmckonfpaa
open Go.RowKit

/-- where the elements of a slice of bits lie -/
def SrcB (w : World) (A : Option Addr) (xs : List Value) : Prop := 0 < xs.length → ∃ b off, A = some ⟨b, off, none⟩ ∧ ∀ j u, xs[j]? = some u → w.cell? ⟨b, off + j, none⟩ = some u
theorem SrcB.later {w v : World} {A : Option Addr} {xs : List Value} (h : SrcB w A xs) (hb : Below w.heap.size w v) : SrcB v A xs := by
  intro h0
  obtain ⟨b, off, hA, hc⟩ := h h0
  exact ⟨b, off, hA, fun j u hu => kept_box hb (hc j u hu)⟩
theorem OwnB.src {B : Nat} {w : World} {A : Option Addr} {n c : Nat} {bl : List Bool} (h : OwnB B w (.slice A n c) bl) : SrcB w A (bls bl) := by
  intro h0
  rw [length_bls] at h0
  obtain ⟨g, cap, e, _, _⟩ := h.1.form h0
  injection e with e1 e2 _
  subst e1
  refine ⟨g, 0, rfl, fun j u hu => ?_⟩
  have h1 := h.1.cells (g := g) rfl j u hu
  rw [add_zero_addr] at h1
  rw [Nat.zero_add]
  exact h1

theorem conv_own {w : World} {B : Nat} {x : Value} {n : Nat} {l : List Nat} (h : w.ownsRow B 5 1 x n (bts l)) (hb : ∀ b ∈ l, b < 256) :
    (convert 42 9 x).run Try.prog w = .ok (.string (strOf l)) w := by
  have hl : l.length = n := by
    have := h.1
    rw [length_bts, Nat.mul_one] at this
    exact this
  rcases h.2 with ⟨rfl, h0⟩ | ⟨g, cap, cur, rfl, _⟩
  · have e : l = [] := List.eq_nil_of_length_eq_zero (by omega)
    subst e
    exact run_convert_bytes_nil w 42 5 Try.underlying42 Try.underlying5 0 0 9 Try.underlying9
  · have hx := run_convert_bytes_back (P := Try.prog) w 42 9 5 ⟨g, 0, none⟩ cap (l.map UInt8.ofNat) Try.underlying42 Try.underlying5 Try.underlying9 (fun j hj => by
      have hj' : j < l.length := by simpa using hj
      have h1 : (bts l)[j]? = some (.int .u8 (l[j] : Nat)) := bts_at (List.getElem?_eq_getElem hj')
      rw [h.cells (g := g) rfl j _ h1, List.getElem_map]
      have h3 : (UInt8.ofNat l[j]).toNat = l[j] := UInt8.toNat_ofNat_of_lt' (hb _ (List.getElem_mem hj'))
      rw [h3])
    rw [List.length_map, hl] at hx
    exact hx

end Go.Proofs.Ytdaipfmckonfpaa
namespace Go.Proofs.Ytdaipfmckonfpaa
open Go.RowKit

/-- one more bit behind a list of the call's own -/
theorem OwnB.more {B g cap : Nat} {w0 w w2 : World} {x : Value} {bl : List Bool} {bit : Bool} {o : Obj} (h : OwnB B w x bl) (hb : Below B w0 w) (hB : B ≤ w.heap.size) (hown : w2.ownsRow B 4 1 (.slice (some ⟨g, 0, none⟩) (bl.length + 1) cap) (bl.length + 1) (bls bl ++ [.bool bit]))
    (hgrow : (w.alloc o).grownBy w2 x.ownBlock) : OwnB B w2 (.slice (some ⟨g, 0, none⟩) (bl.length + 1) cap) (bl ++ [bit]) ∧ Below B w0 w2 := by
  refine ⟨⟨?_, fun h => by simp at h⟩, (hb.alloc hB _).grown hgrow (by simp; omega) (fun r hr => (h.1.lt r hr).1)⟩
  rw [List.length_append, bls_append]
  exact hown

end Go.Proofs.Ytdaipfmckonfpaa
namespace Go.Proofs.Ytdaipfmckonfpaa
open Go.RowKit

theorem own_down {B B' : Nat} {e : TypeId} {size n : Nat} {w : World} {x : Value} {xs : List Value} (h : w.ownsRow B e size x n xs) (hb : B' ≤ B) : w.ownsRow B' e size x n xs := by
  refine ⟨h.1, ?_⟩
  rcases h.2 with h0 | ⟨g, cap, cur, rfl, h1, h2⟩
  · exact .inl h0
  · exact .inr ⟨g, cap, cur, rfl, Nat.le_trans hb h1, h2⟩

end Go.Proofs.Ytdaipfmckonfpaa
namespace Go.Proofs.Ytdaipfmckonfpaa
open Go.RowKit


/-- bytes that lie in a row of rows -/
structure RowB where
  A : Option Addr
  cap : Nat
  bs : List Nat
def RowB.ok (W : World) (r : RowB) : Prop := Src W r.A (bts r.bs) ∧ r.bs.length ≤ r.cap ∧ r.cap ≤ 9223372036854775807 ∧ ∀ b ∈ r.bs, b < 256
def RowB.v (r : RowB) : Value := .slice r.A r.bs.length r.cap
def RSrc (W : World) (A : Option Addr) (L : List RowB) : Prop :=
  0 < L.length → ∃ ad, A = some ad ∧ ∀ k r, L[k]? = some r → W.cell? (ad.add k) = some r.v ∧ r.ok W
def lens (L : List RowB) : List Nat := L.map fun r => r.bs.length
def texts (L : List RowB) : List (List Nat) := L.map fun r => r.bs
theorem length_lens (L : List RowB) : (lens L).length = L.length := by simp [lens]
theorem lens_at {L : List RowB} {k : Nat} {r : RowB} (h : L[k]? = some r) : (lens L)[k]? = some r.bs.length := by simp [lens, h]
theorem src_later {w v : World} {A : Option Addr} {xs : List Value} (h : Src w A xs) (hb : Below w.heap.size w v) : Src v A xs := by
  intro h0
  obtain ⟨ad, rfl, hc⟩ := h h0
  exact ⟨ad, rfl, fun j u hu => cell_below hb (hc j u hu)⟩
theorem RowB.ok.later {w v : World} {r : RowB} (h : r.ok w) (hb : Below w.heap.size w v) : r.ok v := ⟨src_later h.1 hb, h.2⟩
theorem RSrc.later {w v : World} {A : Option Addr} {L : List RowB} (h : RSrc w A L) (hb : Below w.heap.size w v) : RSrc v A L := by
  intro h0
  obtain ⟨ad, hA, hc⟩ := h h0
  exact ⟨ad, hA, fun k r hr => ⟨cell_below hb (hc k r hr).1, (hc k r hr).2.later hb⟩⟩
theorem RSrc.take {w : World} {A : Option Addr} {L : List RowB} (h : RSrc w A L) (n : Nat) : RSrc w A (L.take n) := by
  intro h0
  obtain ⟨ad, hA, hc⟩ := h (by rw [List.length_take] at h0; omega)
  refine ⟨ad, hA, fun k r hr => hc k r ?_⟩
  rw [List.getElem?_take] at hr
  split at hr
  · exact hr
  · cases hr

theorem enters {f : FuncId} {fn : Func} {c : Code} (hf : Try.prog.funcs[f]? = some fn) (hname : (fn.name == "runtime.NumGoroutine") = false) (hb : fn.body = some c) (args : Array Value) (w : World) :
    (callFunc f args).run Try.prog w = .ok (.enter f args) w := by
  have h1 : fn.name ≠ "runtime.NumGoroutine" := by simpa using hname
  simp [callFunc, hf, h1, hb]
theorem addr_zero (ad : Addr) : ad.add 0 = ad := by simp [Addr.add]

set_option maxRecDepth 100000 in
set_option maxHeartbeats 1600000 in
theorem each_any {K : Nat} {caps : Array Value} {A : Option Addr} {L : List RowB} (n cap : Nat) (hcf : ∀ (args : Array Value) (w : World), (callFunc K args).run Try.prog w = .ok (.enter K args) w) (Inv : Nat → World → Prop) (Stop : World → Prop) (w : World) (hL : L.length = n) (hn : n ≤ 9223372036854775807) (h0 : Inv 0 w)
    (hsrc : ∀ k W, Inv k W → RSrc W A L)
    (hstep : ∀ k W r, L[k]? = some r → Inv k W → Calls Try.prog K (#[.int .i64 k, .slice r.A r.bs.length r.cap] ++ caps) W fun e W' => (e = .returned (.bool true) ∧ Inv (k + 1) W') ∨ (e = .returned (.bool false) ∧ Stop W')) :
    Calls Try.prog 141 #[.slice A n cap, .func (.func K) #[] caps] w fun e w' => (e = .returned (.bool true) ∧ Inv n w') ∨ (e = .returned (.bool false) ∧ Stop w') := by
  have HR := Lib.hid hsrc
  have HS := Lib.hid hstep
  have H0 := Lib.hid h0
  have HL := Lib.hid hL
  clear hsrc hstep h0 hL
  go_enter Try.func141, Try.ntmps141
  go_wp2
  refine wp_scope_jumps 0 (fun a' w' => ∃ k : Nat, k ≤ n ∧ Fr [some (.slice A n cap), some (.func (.func K) #[] caps), none, none, some (.bool false), some (.int .i64 k), none, none, none, none, none, none, none, none, none, none, none, none, none, none] a' ∧ Inv k w') (fun a' _ => n - (intOf (a'.tmps.getD 5 undef)).toNat) rfl ?_ ?_
  · rcases Nat.eq_zero_or_pos n with hk0 | hk0
    · subst hk0
      go_wp2
      go_step3
      go_wp2
      simp only [Exit.jump]
      go_ret
      exact .inl ⟨rfl, H0.out⟩
    · obtain ⟨ad, rfl, hcell⟩ := HR.out 0 w H0.out (by rw [HL.out]; exact hk0)
      obtain ⟨r, hy⟩ : ∃ r, L[0]? = some r := ⟨_, List.getElem?_eq_getElem (by rw [HL.out]; exact hk0)⟩
      have c0 : w.cell? ad = some (.slice r.A r.bs.length r.cap) := by have h9 := (hcell 0 r hy).1; rw [addr_zero] at h9; exact h9
      have HC := Lib.hid (HS.out 0 w r hy H0.out)
      have hk0i : (0 : Int) < (n : Int) := by omega
      clear hcell hy
      skip
      all_goals
        go_wp2
        go_step3
        go_wp2_with fail
        refine (HC.out).mono ?_
        rintro e w1 (⟨rfl, hi⟩ | ⟨rfl, hs⟩)
        · go_wp2_with fail
          go_step3
          refine ⟨rfl, 1, by omega, ?_, hi⟩
          simp only [Fr, Holes]
          repeat apply Exists.intro
          rfl
        · go_wp2_with fail
          simp only [Exit.jump]
          go_ret
          exact .inr ⟨rfl, hs⟩
  · rintro a' w' ⟨k, hk, hfr, hinv⟩
    simp only [Fr, Holes] at hfr
    repeat (obtain ⟨_, hfr⟩ := hfr)
    rcases Nat.lt_or_ge k n with hlt | hge
    · obtain ⟨ad, rfl, hcell⟩ := HR.out k w' hinv (by rw [HL.out]; omega)
      obtain ⟨r, hy⟩ : ∃ r, L[k]? = some r := ⟨_, List.getElem?_eq_getElem (by rw [HL.out]; exact hlt)⟩
      have c0 : w'.cell? (ad.add k) = some (.slice r.A r.bs.length r.cap) := (hcell k r hy).1
      have HC := Lib.hid (HS.out k w' r hy hinv)
      have HI := Lib.hid hinv
      clear hcell hy hinv
      skip
      all_goals
        go_wp2_with fail
        refine (HC.out).mono ?_
        rintro e w1 (⟨rfl, hi⟩ | ⟨rfl, hs⟩)
        · go_wp2_with fail
          go_step3
          refine ⟨rfl, ⟨k + 1, by omega, ?_, hi⟩, ?_⟩
          · simp only [Fr, Holes]
            repeat apply Exists.intro
            rfl
          · simp [intOf]
            omega
        · go_wp2_with fail
          simp only [Exit.jump]
          go_ret
          exact .inr ⟨rfl, hs⟩
    · obtain rfl : k = n := by omega
      go_wp2
      simp only [Exit.jump]
      go_ret
      exact .inl ⟨rfl, hinv⟩
end Go.Proofs.Ytdaipfmckonfpaa
