/-
  How many bytes fields have; whether two are equal. Fields' bytes, one behind the other. The bytes of a head, and of fields behind it. What numbers of a space may be, as the code and the document say. Which packets of umd may be, and how many bytes they are. Which packets of amd may be, and how many bytes they are. Whether two packets of umd are equal, as the code and the document say. Which packets of amd may be, and how many bytes they are: Size and Right. A packet's bytes. A head of amd is put bit by bit. Bytes cut into fields: plain lists. Bytes cut into fields of a call's own. Bytes cut into fields of a call's own: the loop. The fields behind a head, read. The packet that bytes are. How many bytes a head of amd has. A head of amd is written: its bytes, of each width, of a part or not. A packet of amd is written: its bytes, or why it has none. A head of amd is got bit by bit. A head of amd is read: what it tells, of each width, of a part or not. A head of amd is read: what it tells, of each width, of a part or not. A head of amd is read: what it tells, of each width, of a part or not. A head of amd is read: what it tells, of each width, of a part or not. The packet of amd that bytes are. The packet of amd that bytes are: Read walked. The packet of amd that bytes are: Read walked to its end. The packet of amd that bytes are: whatever the bytes. Fields go there and back: plain lists. A packet of umd goes there and back: plain lists. A packet of amd goes there and back: plain lists. mux: why parts have no block, how many bytes it would have, what stands ahead of a part's data. The sum of sixteen bits as a number: it is linear, a sum behind its own bytes is 0, and a burst of sixteen bits changes it. Plain numbers, no program. What shifted, More and Of answer: the sum as a number.
-/
import Derived.Test.YtdaipfmckonfpaaJMuxWrites02
import Derived.Laws.Strings
import Derived.Test.YtdaipfmckonfpaaJMuxWrites01
import Derived.Deep.RegionHeld3
import Derived.StillTailTactics
import Derived.DataElems
import Derived.Laws.ResultCell
import Derived.Deep.DeepCutAuto
import Derived.Laws.BitsAllLaws
namespace Go.Proofs.Ytdaipfmckonfpaa
open Go.RowKit


theorem conv_src {w : World} {A : Option Addr} {l : List Nat} (n c : Nat) (hl : l.length = n) (h : Src w A (bts l)) (hb : ∀ b ∈ l, b < 256) : (convert 42 9 (.slice A n c)).run Try.prog w = .ok (.string (strOf l)) w := by
  subst hl
  cases A with
  | none =>
    have hl : l.length = 0 := by
      rcases Nat.eq_zero_or_pos l.length with h0 | h0
      · exact h0
      · obtain ⟨ad, h1, _⟩ := h (by rw [length_bts]; exact h0)
        cases h1
    have e : l = [] := List.eq_nil_of_length_eq_zero hl
    subst e
    exact run_convert_bytes_nil w 42 5 Try.underlying42 Try.underlying5 0 c 9 Try.underlying9
  | some ad =>
    have hx := run_convert_bytes_back (P := Try.prog) w 42 9 5 ad c (l.map UInt8.ofNat) Try.underlying42 Try.underlying5 Try.underlying9 (fun j hj => by
      have hj' : j < l.length := by simpa using hj
      have h1 : (bts l)[j]? = some (.int .u8 (l[j] : Nat)) := bts_at (List.getElem?_eq_getElem hj')
      obtain ⟨ad', h2, h3⟩ := h (by rw [length_bts]; omega)
      injection h2 with h2
      subst h2
      rw [h3 j _ h1, List.getElem_map]
      have h4 : (UInt8.ofNat l[j]).toNat = l[j] := UInt8.toNat_ofNat_of_lt' (hb _ (List.getElem_mem hj'))
      rw [h4])
    rw [List.length_map] at hx
    exact hx
theorem strOf_inj {a b : List Nat} (ha : ∀ x ∈ a, x < 256) (hb : ∀ x ∈ b, x < 256) (h : strOf a = strOf b) : a = b := by
  unfold strOf at h
  injection h with h
  have h1 : a.map UInt8.ofNat = b.map UInt8.ofNat := by
    have := congrArg Array.toList h
    simpa using this
  have h2 := congrArg (List.map UInt8.toNat) h1
  rw [List.map_map, List.map_map] at h2
  have e : ∀ l : List Nat, (∀ x ∈ l, x < 256) → l.map (UInt8.toNat ∘ UInt8.ofNat) = l := fun l hl => by
    have : l.map (UInt8.toNat ∘ UInt8.ofNat) = l.map id := List.map_congr_left fun x hx => UInt8.toNat_ofNat_of_lt' (hl x hx)
    rw [this, List.map_id]
  rw [e a ha, e b hb] at h2
  exact h2
theorem strOf_list (a : List Nat) : (strOf a).toList = a.map UInt8.ofNat := ByteArray.toList_mk _
theorem strOf_beq {a b : List Nat} (ha : ∀ x ∈ a, x < 256) (hb : ∀ x ∈ b, x < 256) : ((strOf a).toList == (strOf b).toList) = decide (a = b) := by
  rw [Bool.eq_iff_iff, decide_eq_true_iff, beq_iff_eq]
  refine ⟨fun h => strOf_inj ha hb ?_, fun h => by rw [h]⟩
  rw [strOf_list, strOf_list] at h
  unfold strOf
  rw [h]
set_option maxHeartbeats 400000 in
theorem equal_any {A B : Option Addr} {a b : List Nat} (n m c d : Nat) (w : World) (hn : a.length = n) (hm : b.length = m) (hA : Src w A (bts a)) (hB : Src w B (bts b)) (ha : ∀ x ∈ a, x < 256) (hb : ∀ x ∈ b, x < 256) :
    Calls Try.prog 83 #[.slice A n c, .slice B m d] w fun e w' => e = .returned (.bool (decide (a = b))) ∧ w = w' := by
  have c1 := conv_src n c hn hA ha
  have c2 := conv_src m d hm hB hb
  have HQ := Lib.hid (strOf_beq ha hb)
  clear hn hm hA hB ha hb
  go_enter Try.func83, Try.ntmps83
  go_wp2
  go_ret
  exact ⟨ret_bool HQ.out, rfl⟩

theorem length_texts (L : List RowB) : (texts L).length = L.length := by simp [texts]
end Go.Proofs.Ytdaipfmckonfpaa
namespace Go.Proofs.Ytdaipfmckonfpaa
open Go.RowKit


theorem own_later2 {B : Nat} {e : TypeId} {size n : Nat} {w v : World} {x : Value} {xs : List Value} (h : w.ownsRow B e size x n xs) (hb : Below w.heap.size w v) : v.ownsRow B e size x n xs :=
  own_only h (S := fun _ => False) (.of_below hb) (fun _ _ h => h)
/-- bytes of the call's own -/
def OwnY (B : Nat) (w : World) (v : Value) (l : List Nat) : Prop := w.ownsRow B 5 1 v l.length (bts l)
section
variable {B : Nat} {w w' : World} {v : Value} {l : List Nat}
theorem OwnY.form (h : OwnY B w v l) : ∃ A c, v = .slice A l.length c ∧ l.length ≤ c ∧ c ≤ maxLen := by
  rcases h.2 with ⟨rfl, h0⟩ | ⟨g, cap, cur, rfl, _, _, h1, h2, _⟩
  · exact ⟨none, 0, by rw [h0], by omega, by simp [maxLen]⟩
  · exact ⟨_, cap, rfl, h1, h2⟩
theorem OwnY.src {A : Option Addr} {n c : Nat} (h : OwnY B w (.slice A n c) l) : Src w A (bts l) := by
  obtain ⟨A', c', e, _⟩ := h.form
  injection e with e1 e2 e3
  subst e1 e2 e3
  exact src_own h
theorem OwnY.only {S : Nat → Prop} (h : OwnY B w v l) (ho : Only S w w') (hS : ∀ k, v.ownBlock = some k → ¬ S k) : OwnY B w' v l := own_only h ho hS
theorem OwnY.later (h : OwnY B w v l) (hb : Below w.heap.size w w') : OwnY B w' v l := own_later2 h hb
theorem OwnY.conv (h : OwnY B w v l) (hb : ∀ b ∈ l, b < 256) : (convert 42 9 v).run Try.prog w = .ok (.string (strOf l)) w := conv_own h hb
end
theorem own_only_below {B : Nat} {w w' : World} {v : Value} {e n : Nat} {xs : List Value} (h : w.ownsRow B e 1 v n xs) (ho : Only (fun k => v.ownBlock = some k) w w') (hB : B ≤ w.heap.size) : Below B w w' :=
  ho.below hB fun k hk hk' => by have := (h.lt k hk').1; omega

set_option maxRecDepth 100000 in
theorem app_bytes {B : Nat} {W : World} {v : Value} {l y : List Nat} {A : Option Addr} (m c : Nat) (hv : OwnY B W v l) (hB : B ≤ W.heap.size) (hs : Src W A (bts y)) (hm : y.length = m) (hlm : l.length + m ≤ 1000000000) :
    ∃ A' c' W', (Builtin.append_ #[42, 42] 42 #[v, .slice A m c]).run Try.prog W = .ok (.slice A' (l.length + m) c') W' ∧ OwnY B W' (.slice A' (l.length + m) c') (l ++ y) ∧ Below B W W' ∧ Only (fun k => v.ownBlock = some k) W W' ∧ ((Value.slice A' (l.length + m) c').ownBlock = v.ownBlock ∨ (Value.slice A' (l.length + m) c').ownBlock = some W.heap.size) := by
  obtain ⟨i0, hi, hi0, hi1, hi2⟩ := info5_parts
  subst hm
  have key : ∃ v' W', (Builtin.append_ #[42, 42] 42 #[v, .slice A y.length c]).run Try.prog W = .ok v' W' ∧ W'.ownsRow B 5 1 v' (l.length + y.length) (bts l ++ bts y) ∧ W.grownBy W' v.ownBlock ∧ (v'.ownBlock = v.ownBlock ∨ v'.ownBlock = some W.heap.size) := by
    cases A with
    | none =>
      have h0 : y.length = 0 := by
        rcases Nat.eq_zero_or_pos y.length with h0 | h0
        · exact h0
        · obtain ⟨ad, h1, _⟩ := hs (by rw [length_bts]; exact h0)
          cases h1
      have e : y = [] := List.eq_nil_of_length_eq_zero h0
      subst e
      refine ⟨v, W, ?_, (by have h := hv; unfold OwnY at h; simpa [bts] using h), World.grownBy.refl _ _, .inl rfl⟩
      rcases hv.2 with ⟨rfl, h9⟩ | ⟨g, cap, cur, rfl, _, _, hnc, _⟩
      · rw [h9] at *
        simp [Builtin.append_, run_underlying Try.underlying42, sizeOf, typeInfo, hi, Builtin.lenOf, Builtin.firstCells]
      · simp [Builtin.append_, run_underlying Try.underlying42, sizeOf, typeInfo, hi, Builtin.lenOf, Builtin.firstCells, hnc, storeCells]
    | some ad =>
      obtain ⟨v', w', hrun, h2, h3, _, h5⟩ := run_append_own_at (P := Try.prog) W B 42 42 5 i0 _ 1 1 Try.underlying42 hi hi0 hi1 hi2 rfl (by omega) v l.length (bts l) hv ad y.length c (bts y) (by rw [length_bts, Nat.mul_one]) (fun j u hu => by
        have h0 : 0 < (bts y).length := by have := (List.getElem?_eq_some_iff.1 hu).1; omega
        obtain ⟨ad2, h1, h2⟩ := hs h0
        injection h1 with h1
        subst h1
        exact h2 j u hu) (bts_one y) (by unfold maxLen; omega) (by omega) hB
      exact ⟨v', w', hrun, h2, h3, h5⟩
  obtain ⟨v', W', h1, h2, h3, h4⟩ := key
  have hon := (Only.refl (fun k => v.ownBlock = some k) W).grown h3 (fun k hk => .inl hk)
  have ho : OwnY B W' v' (l ++ y) := by unfold OwnY; rw [List.length_append, bts_append]; exact h2
  obtain ⟨A', c', rfl, _⟩ := ho.form
  rw [List.length_append] at *
  exact ⟨A', c', W', h1, ho, own_only_below hv hon hB, hon, h4⟩

end Go.Proofs.Ytdaipfmckonfpaa
namespace Go.Proofs.Ytdaipfmckonfpaa
open Go.RowKit


end Go.Proofs.Ytdaipfmckonfpaa
namespace Go.Proofs.Ytdaipfmckonfpaa
open Go.RowKit

end Go.Proofs.Ytdaipfmckonfpaa
namespace Go.Proofs.Ytdaipfmckonfpaa
open Go.RowKit


end Go.Proofs.Ytdaipfmckonfpaa
namespace Go.Proofs.Ytdaipfmckonfpaa
open Go.RowKit

end Go.Proofs.Ytdaipfmckonfpaa
namespace Go.Proofs.Ytdaipfmckonfpaa
open Go.RowKit
def SameAns (b : Bool) (w : World) (e : Ending) (w' : World) : Prop := e = .returned (.bool b) ∧ Below w.heap.size w w'
end Go.Proofs.Ytdaipfmckonfpaa
namespace Go.Proofs.Ytdaipfmckonfpaa
open Go.RowKit

end Go.Proofs.Ytdaipfmckonfpaa
namespace Go.Proofs.Ytdaipfmckonfpaa
open Go.RowKit


end Go.Proofs.Ytdaipfmckonfpaa
namespace Go.Proofs.Ytdaipfmckonfpaa
open Go.RowKit

/-- a writer in a cell that a closure holds, while numbers are put -/
structure WrSt (B : Nat) (w0 : World) (pr p : Nat) (kp : List (Nat × Nat)) (t : Nat) (w : World) : Prop where
  rep : ∃ sv, WRep B w p sv (bitsP kp)
  cell : Row w pr 184 #[.pointer (some ⟨p, 0, none⟩)]
  below : Below B w0 w
  size : B ≤ w.heap.size
  len : (bitsP kp).length = t
end Go.Proofs.Ytdaipfmckonfpaa
namespace Go.Proofs.Ytdaipfmckonfpaa


/-- bytes cut into fields of these lengths, and a last one of what is left -/
def cutF : List Nat → List Nat → Option (List (List Nat))
  | bs, [] => if bs = [] then none else some [bs]
  | bs, m :: r => if m ≤ bs.length then (cutF (bs.drop m) r).map (bs.take m :: ·) else none
/-- behind fields that were cut the rest comes to what all comes to -/
def CInv (bs ls : List Nat) (acc : List (List Nat)) (c : Nat) : Prop := acc.length ≤ ls.length ∧ c ≤ bs.length ∧ cutF bs ls = (cutF (bs.drop c) (ls.drop acc.length)).map (acc ++ ·)
theorem CInv.start (bs ls : List Nat) : CInv bs ls [] 0 := ⟨Nat.zero_le _, Nat.zero_le _, by
  simp only [List.length_nil, List.drop_zero, List.nil_append]
  cases cutF bs ls <;> rfl⟩
section
variable {bs ls : List Nat} {acc : List (List Nat)} {c m : Nat}
theorem CInv.next (h : CInv bs ls acc c) (hm : ls[acc.length]? = some m) (h2 : m ≤ bs.length - c) : CInv bs ls (acc ++ [(bs.drop c).take m]) (c + m) := by
  obtain ⟨h0, h1, h⟩ := h
  obtain ⟨hk, rfl⟩ := List.getElem?_eq_some_iff.1 hm
  refine ⟨by simp; omega, by omega, ?_⟩
  rw [h, List.drop_eq_getElem_cons hk, cutF, if_pos (by rw [List.length_drop]; omega), List.drop_drop, List.length_append, List.length_singleton]
  cases cutF (bs.drop (c + ls[acc.length])) (ls.drop (acc.length + 1)) <;> simp
theorem CInv.last (h : CInv bs ls acc c) (hm : acc.length = ls.length) (h2 : bs.length - c ≠ 0) : cutF bs ls = some (acc ++ [bs.drop c]) := by
  obtain ⟨h0, h1, h⟩ := h
  have h3 : bs.drop c ≠ [] := fun e => h2 (by rw [← List.length_drop, e]; rfl)
  have h4 : cutF (bs.drop c) [] = some [bs.drop c] := by unfold cutF; rw [if_neg h3]
  rw [h, List.drop_of_length_le (l := ls) (by omega), h4]
  rfl
end
end Go.Proofs.Ytdaipfmckonfpaa
namespace Go.Proofs.Ytdaipfmckonfpaa
open Go.RowKit


/-- bytes in a block of the call's own -/
def RowB.mine (B : Nat) (w : World) (r : RowB) : Prop := (∃ g cs, r.A = some ⟨g, 0, none⟩ ∧ B ≤ g ∧ Row w g 5 cs ∧ ∀ (j b : Nat), r.bs[j]? = some b → cs[j]? = some (Value.int .u8 b)) ∧ r.bs.length ≤ r.cap ∧ r.cap ≤ 9223372036854775807 ∧ ∀ b ∈ r.bs, b < 256
theorem RowB.mine.ok {B : Nat} {w : World} {r : RowB} (h : r.mine B w) : r.ok w := by
  obtain ⟨⟨g, cs, h1, h2, h3, h4⟩, h5⟩ := h
  refine ⟨fun _ => ⟨_, h1, fun j u hu => ?_⟩, h5⟩
  rw [add_zero_addr]
  simp only [bts, List.getElem?_map, Option.map_eq_some_iff] at hu
  obtain ⟨b, hb, rfl⟩ := hu
  exact h3.read (h4 j b hb)
theorem RowB.mine.only {B : Nat} {w v : World} {r : RowB} {S : Nat → Prop} (h : r.mine B w) (ho : Only S w v) (hS : ∀ k cs, Row w k 5 cs → B ≤ k → ¬ S k) : r.mine B v := by
  obtain ⟨⟨g, cs, h1, h2, h3, h4⟩, h5⟩ := h
  exact ⟨⟨g, cs, h1, h2, h3.only ho (hS g cs h3 h2), h4⟩, h5⟩
theorem Try.info42 : (Try.prog.info? 42).map (fun i => (i.zero, i.size, i.bytes)) = some (some (.slice none 0 0), 1, 24) := by kernel_rfl
set_option maxRecDepth 100000 in
/-- one row more -/
theorem app_row {B n : Nat} {w : World} {v : Value} {xs : List Value} (h : w.ownsRow B 42 1 v n xs) (hB : B ≤ w.heap.size) (r : RowB) (hl : n ≤ 1000000) :
    ∃ g c w3, (Builtin.append_ #[59, 59] 59 #[v, .slice (some ⟨w.heap.size, 0, none⟩) 1 1]).run Try.prog (w.alloc (.cells #[.slice r.A r.bs.length r.cap] 42)) = .ok (.slice (some ⟨g, 0, none⟩) (n + 1) c) w3 ∧
      w3.ownsRow B 42 1 (.slice (some ⟨g, 0, none⟩) (n + 1) c) (n + 1) (xs ++ [r.v]) ∧ Only (fun k => v.ownBlock = some k) w w3 := by
  obtain ⟨i0, hi, hi0, hi1, hi2⟩ := info_parts Try.info42
  obtain ⟨g, cap, w3, hr3, h2, h3, _, _⟩ := run_append_lies (P := Try.prog) (w.alloc (.cells #[r.v] 42)) 59 59 B 42 i0 _ 1 24 Try.underlying59 hi hi0 hi1 hi2 rfl (by omega) v n _ (h.alloc _) ⟨w.heap.size, 0, none⟩ 1 1 [r.v] rfl
    (World.news_of_block (cs := #[r.v]) (heap_alloc_new w _)) (by intro u hu; simp at hu; rw [hu]; rfl) (by omega) (by unfold maxLen; omega) (by omega) (by simp; omega) _ rfl
  exact ⟨g, cap, w3, hr3, h2, ((Only.refl (fun k => v.ownBlock = some k) w).alloc (.cells #[r.v] 42)).grown h3 (fun k hk => .inl hk)⟩
/-- a list of rows of the call's own, while it grows -/
structure OwnR (B : Nat) (w : World) (v : Value) (L : List RowB) : Prop where
  own : w.ownsRow B 42 1 v L.length (L.map RowB.v)
  mine : ∀ r ∈ L, r.mine B w
section
variable {B : Nat} {w w' : World} {v : Value} {L : List RowB}
theorem OwnR.only {S : Nat → Prop} (h : OwnR B w v L) (ho : Only S w w') (h1 : ∀ k, v.ownBlock = some k → ¬ S k) (h2 : ∀ k cs, Row w k 5 cs → B ≤ k → ¬ S k) : OwnR B w' v L :=
  ⟨own_only h.own ho h1, fun r hr => (h.mine r hr).only ho h2⟩
theorem OwnR.later (h : OwnR B w v L) (hb : Below w.heap.size w w') : OwnR B w' v L := h.only (S := fun _ => False) (.of_below hb) (fun _ _ h => h) (fun _ _ _ _ h => h)
theorem OwnR.form (h : OwnR B w v L) : ∃ A c, v = .slice A L.length c ∧ L.length ≤ c ∧ c ≤ 9223372036854775807 := by
  rcases h.own.2 with ⟨rfl, h0⟩ | ⟨g, cap, cur, rfl, _, _, h1, h2, _⟩
  · exact ⟨none, 0, by rw [h0], by omega, by omega⟩
  · exact ⟨_, cap, rfl, h1, by unfold maxLen at h2; exact h2⟩
theorem OwnR.src {A : Option Addr} {n c : Nat} (h : OwnR B w (.slice A n c) L) : RSrc w A L := by
  intro h0
  obtain ⟨g, cap, hv, _, _⟩ := h.own.form h0
  injection hv with h1 h2 h3
  subst h1
  refine ⟨_, rfl, fun k r hr => ⟨?_, (h.mine r (List.mem_of_getElem? hr)).ok⟩⟩
  exact h.own.cells (g := g) rfl k _ (by rw [List.getElem?_map, hr]; rfl)
theorem OwnR.next (h : OwnR B w v L) (hB : B ≤ w.heap.size) (r : RowB) (hr : r.mine B w) (hl : L.length ≤ 1000000) :
    ∃ g c w3, (Builtin.append_ #[59, 59] 59 #[v, .slice (some ⟨w.heap.size, 0, none⟩) 1 1]).run Try.prog (w.alloc (.cells #[.slice r.A r.bs.length r.cap] 42)) = .ok (.slice (some ⟨g, 0, none⟩) (L.length + 1) c) w3 ∧
      OwnR B w3 (.slice (some ⟨g, 0, none⟩) (L.length + 1) c) (L ++ [r]) ∧ Below B w w3 := by
  obtain ⟨g, c, w3, h1, h2, h3⟩ := app_row h.own hB r hl
  have hne : ∀ k cs, Row w k 5 cs → B ≤ k → ¬ v.ownBlock = some k := fun k cs hk _ => own_apart h.own hk (by decide)
  refine ⟨g, c, w3, h1, ⟨by rw [List.length_append, List.map_append]; exact h2, fun x hx => ?_⟩, own_only_below h.own h3 hB⟩
  rw [List.mem_append, List.mem_singleton] at hx
  rcases hx with hx | rfl
  · exact (h.mine x hx).only h3 hne
  · exact hr.only h3 hne
end
end Go.Proofs.Ytdaipfmckonfpaa
namespace Go.Proofs.Ytdaipfmckonfpaa
open Go.RowKit


/-- like wp_scope_jumps; the first way may go through the label, too -/
theorem wp_scope_through {P : Program} {a : Act} {w : World} {Q : Exit → Act → World → Prop} {c tail : Code} (l : Nat) (J : Act → World → Prop) (μ : Act → World → Nat) (hf : findLabel c l = some (.seq .skip tail))
    (first : (∀ a w, J a w → tail.wp P (Exit.jump l J Q) a w) → c.wp P (Exit.jump l J Q) a w)
    (pass : ∀ a w, J a w → tail.wp P (Exit.jump l (fun a' w' => J a' w' ∧ μ a' w' < μ a w) Q) a w) : (Code.scope c).wp P Q a w := by
  refine wp_scope_jumps l J μ hf (first fun a w h b k cs => ?_) (fun a w h => wp_seq (wp_skip (pass a w h)))
  obtain ⟨e, a', w', hq, harr⟩ := pass a w h b k cs
  refine ⟨e, a', w', ?_, harr⟩
  cases e <;> simp only [Exit.jump] at hq ⊢
  all_goals first | exact hq | exact ⟨hq.1, hq.2.1⟩

theorem bts_take (l : List Nat) (n : Nat) : bts (l.take n) = (bts l).take n := by simp [bts, List.map_take]
theorem src_take {w : World} {A : Option Addr} {l : List Nat} (n : Nat) (h : Src w A (bts l)) : Src w A (bts (l.take n)) := by
  intro h0
  obtain ⟨ad, e, hc⟩ := h (by rw [length_bts] at *; rw [List.length_take] at h0; omega)
  refine ⟨ad, e, fun j u hu => hc j u ?_⟩
  rw [bts_take, List.getElem?_take] at hu
  split at hu
  · exact hu
  · cases hu
/-- at the jump: the fields so far, and what is left -/
structure CutSt (B : Nat) (w0 : World) (bs ls : List Nat) (c : Nat) (L : List RowB) (v : Value) (Ab : Option Addr) (nb cb : Nat) (w : World) : Prop where
  own : OwnR B w v L
  inv : CInv bs ls (texts L) c
  left : nb = bs.length - c
  room : nb ≤ cb
  small : cb ≤ 9223372036854775807
  src : Src w0 Ab (bts (bs.drop c))
  below : Below B w0 w
section
variable {B : Nat} {w0 w : World} {bs ls : List Nat} {c nb cb : Nat} {L : List RowB} {v : Value} {Ab : Option Addr}
theorem CutSt.len (h : CutSt B w0 bs ls c L v Ab nb cb w) : L.length ≤ ls.length := by
  have := h.inv.1
  rwa [length_texts] at this
end
end Go.Proofs.Ytdaipfmckonfpaa
namespace Go.Proofs.Ytdaipfmckonfpaa
open Go.RowKit


end Go.Proofs.Ytdaipfmckonfpaa
namespace Go.Proofs.Ytdaipfmckonfpaa
open Go.RowKit


theorem results_two {fn : Func} {p u : Tmp} {ty : TypeId} (h : fn.results = #[.cell p ty, .tmp u]) (tmps : Array Value) (w : World) (g : Nat) (t : TypeId) (cs : Array Value) (fs : Array Field)
    (hp : tmps.getD p undef = .pointer (some ⟨g, 0, none⟩)) (hg : Row w g t cs)
    (hu : Try.prog.underlying ty = some (.struct fs)) (hi : (Try.prog.info? ty).map (·.size) = some cs.size) :
    (results fn tmps).run Try.prog w = .ok (.tuple #[.agg cs, tmps.getD u undef]) w := by
  rw [results_cell_tmp h, hp]
  simp only [asAddr, Sem.run_pure, Result.andThen_ok, run_loadVar_row w g t ty cs (0, 0) (.struct fs) hg hu rfl hi]

end Go.Proofs.Ytdaipfmckonfpaa
namespace Go.Proofs.Ytdaipfmckonfpaa
open Go.RowKit

end Go.Proofs.Ytdaipfmckonfpaa
namespace Go.Proofs.Ytdaipfmckonfpaa
open Go.RowKit

theorem WrSt.drew {B pr p t : Nat} {w0 w : World} {kp : List (Nat × Nat)} (h : WrSt B w0 pr p kp t w) : WrSt B w0 pr p kp t w.drew := by
  obtain ⟨sv, h1⟩ := h.rep
  exact ⟨⟨sv, h1.later (bl_drew (Below.refl _ _))⟩, h.cell, h.below.drew, h.size, h.len⟩
end Go.Proofs.Ytdaipfmckonfpaa
namespace Go.Proofs.Ytdaipfmckonfpaa
open Go.RowKit

end Go.Proofs.Ytdaipfmckonfpaa
namespace Go.Proofs.Ytdaipfmckonfpaa
open Go.RowKit

/-- a reader in a cell that a closure holds, and a packet's box, while a head is read -/
structure AdSt (B : Nat) (w0 : World) (pr p g q : Nat) (hd : List Nat) (i : Nat) (cs : Array Value) (w : World) : Prop where
  rd : RRep w p g hd i
  cell : Row w pr 192 #[.pointer (some ⟨p, 0, none⟩)]
  box : Row w q 61 cs
  below : Below B w0 w
  above : B ≤ p ∧ B ≤ q
  size : B ≤ w.heap.size
section
variable {B pr p g q i : Nat} {w0 w : World} {hd : List Nat} {cs : Array Value}
theorem AdSt.set (h : AdSt B w0 pr p g q hd i cs w) (j : Nat) (x : Value) : AdSt B w0 pr p g q hd i (cs.setIfInBounds j x) (w.setCell ⟨q, j, none⟩ x) := by
  have h1 : q ≠ p := h.box.apart h.rd.1 (by decide)
  have h2 : q ≠ g := h.box.apart h.rd.2.1 (by decide)
  have h3 : q ≠ pr := h.box.apart h.cell (by decide)
  refine ⟨⟨h.rd.1.elsewhere (Ne.symm h1) x, h.rd.2.1.elsewhere (Ne.symm h2) x, h.rd.2.2⟩, h.cell.elsewhere (Ne.symm h3) x, h.box.written j x, h.below.setCell h.above.2 x, h.above, ?_⟩
  rw [show (w.setCell ⟨q, j, none⟩ x).heap.size = w.heap.size by simp [World.setCell]]
  exact h.size
end
end Go.Proofs.Ytdaipfmckonfpaa
namespace Go.Proofs.Ytdaipfmckonfpaa
open Go.RowKit

end Go.Proofs.Ytdaipfmckonfpaa
namespace Go.Proofs.Ytdaipfmckonfpaa
open Go.RowKit

end Go.Proofs.Ytdaipfmckonfpaa
namespace Go.Proofs.Ytdaipfmckonfpaa
open Go.RowKit

end Go.Proofs.Ytdaipfmckonfpaa
namespace Go.Proofs.Ytdaipfmckonfpaa
open Go.RowKit

end Go.Proofs.Ytdaipfmckonfpaa
namespace Go.Proofs.Ytdaipfmckonfpaa
open Go.RowKit

/-- what a head tells -/
structure HdA where
  poll : Bool
  part : Bool
  last : Bool
  fi : Nat
  sn : Nat
  off : Nat
def HdA.v (h : HdA) (s : Value) : Value := .agg #[.bool h.poll, .int .i64 h.fi, .int .i64 h.sn, .bool h.part, .bool h.last, .int .i64 h.off, s]
end Go.Proofs.Ytdaipfmckonfpaa
namespace Go.Proofs.Ytdaipfmckonfpaa
open Go.RowKit

end Go.Proofs.Ytdaipfmckonfpaa
namespace Go.Proofs.Ytdaipfmckonfpaa
open Go.RowKit

end Go.Proofs.Ytdaipfmckonfpaa
namespace Go.Proofs.Ytdaipfmckonfpaa
open Go.RowKit

end Go.Proofs.Ytdaipfmckonfpaa
namespace Go.Proofs.Ytdaipfmckonfpaa


end Go.Proofs.Ytdaipfmckonfpaa
namespace Go.Proofs.Ytdaipfmckonfpaa
open Go.RowKit


end Go.Proofs.Ytdaipfmckonfpaa
namespace Go.Proofs.Ytdaipfmckonfpaa
open Go.RowKit

end Go.Proofs.Ytdaipfmckonfpaa
namespace Go.Proofs.Ytdaipfmckonfpaa
open Go.RowKit


def faultM (L : List PartM) : Int := if L.any bad then 3 else if decide (16 < L.length) || decide (4096 < 2 + psum (plens L)) then 2 else 0
set_option maxRecDepth 100000 in
set_option maxHeartbeats 800000 in
theorem mfault_any {A : Option Addr} {L : List PartM} (n cap : Nat) (w : World) (hL : L.length = n) (hn : n ≤ 1000) (hs : XSrc w A L) (hd : ∀ m ∈ L, m.r.bs.length ≤ 100000) :
    Calls Try.prog 76 #[.slice A n cap] w fun e w' => e = .returned (.int .i64 (faultM L)) ∧ Below w.heap.size w w' := by
  unfold faultM
  have HC := Lib.hid (mcontains_any n cap w hL hn hs)
  have HS := Lib.hid (fun W (hb : Below w.heap.size w W) => msize_any n cap W hL hn (hs.later hb) hd)
  rw [hL]
  generalize psum (plens L) = t at *
  generalize L.any bad = z at *
  clear hs hL hd
  cases z
  · by_cases h1 : 16 < n
    · rw [decide_eq_true h1]
      have h1' : (16 : Int) < n := by omega
      go_enter Try.func76, Try.ntmps76
      go_wp2_with (go_at_call 132; (with_reducible refine (HC.out).mono ?_); rintro e w1 ⟨rfl, hb⟩)
      go_ret
      exact ⟨rfl, hb⟩
    · rw [decide_eq_false h1]
      have h1' : ¬ (16 : Int) < n := by omega
      by_cases h2 : 4096 < 2 + t
      · rw [decide_eq_true h2]
        have h2' : (4096 : Int) < ((2 + t : Nat) : Int) := by omega
        go_enter Try.func76, Try.ntmps76
        go_wp2_with (first
          | (go_at_call 132; (with_reducible refine (HC.out).mono ?_); rintro e w1 ⟨rfl, hb⟩)
          | (go_at_call 80; (with_reducible refine (HS.out _ hb).mono ?_); rintro e w2 ⟨rfl, hb2⟩))
        go_ret
        exact ⟨rfl, bl_step hb hb2⟩
      · rw [decide_eq_false h2]
        have h2' : ¬ (4096 : Int) < ((2 + t : Nat) : Int) := by omega
        go_enter Try.func76, Try.ntmps76
        go_wp2_with (first
          | (go_at_call 132; (with_reducible refine (HC.out).mono ?_); rintro e w1 ⟨rfl, hb⟩)
          | (go_at_call 80; (with_reducible refine (HS.out _ hb).mono ?_); rintro e w2 ⟨rfl, hb2⟩))
        go_ret
        exact ⟨rfl, bl_step hb hb2⟩
  · go_enter Try.func76, Try.ntmps76
    go_wp2_with (go_at_call 132; (with_reducible refine (HC.out).mono ?_); rintro e w1 ⟨rfl, hb⟩)
    go_ret
    exact ⟨rfl, hb⟩
def sizeM (L : List PartM) : Nat := if faultM L = 0 then 2 + psum (plens L) else 0
theorem fault_cases (L : List PartM) : faultM L = 0 ∨ faultM L = 2 ∨ faultM L = 3 := by
  unfold faultM
  split
  · exact .inr (.inr rfl)
  · split
    · exact .inr (.inl rfl)
    · exact .inl rfl
set_option maxRecDepth 100000 in
set_option maxHeartbeats 800000 in
theorem mSize_any {A : Option Addr} {L : List PartM} (n cap : Nat) (w : World) (hL : L.length = n) (hn : n ≤ 1000) (hs : XSrc w A L) (hd : ∀ m ∈ L, m.r.bs.length ≤ 100000) :
    Calls Try.prog 28 #[.slice A n cap] w fun e w' => e = .returned (.int .i64 (sizeM L : Nat)) ∧ Below w.heap.size w w' := by
  unfold sizeM
  have HC := Lib.hid (mfault_any n cap w hL hn hs hd)
  have HS := Lib.hid (fun W (hb : Below w.heap.size w W) => msize_any n cap W hL hn (hs.later hb) hd)
  have HF := fault_cases L
  generalize psum (plens L) = t at *
  generalize faultM L = z at *
  clear hs hL hd
  rcases HF with rfl | rfl | rfl
  · go_enter Try.func28, Try.ntmps28
    go_wp2_with (first
      | (go_at_call 76; (with_reducible refine (HC.out).mono ?_); rintro e w1 ⟨rfl, hb⟩)
      | (go_at_call 80; (with_reducible refine (HS.out _ hb).mono ?_); rintro e w2 ⟨rfl, hb2⟩))
    go_ret
    exact ⟨rfl, bl_step hb hb2⟩
  · go_enter Try.func28, Try.ntmps28
    go_wp2_with (go_at_call 76; (with_reducible refine (HC.out).mono ?_); rintro e w1 ⟨rfl, hb⟩)
    go_ret
    exact ⟨rfl, hb⟩
  · go_enter Try.func28, Try.ntmps28
    go_wp2_with (go_at_call 76; (with_reducible refine (HC.out).mono ?_); rintro e w1 ⟨rfl, hb⟩)
    go_ret
    exact ⟨rfl, hb⟩
theorem row_put {B g p : Nat} {t : TypeId} {w w' : World} {cs : Array Value} {sv : Value} {bl : List Bool} (hr : Row w g t cs) (hw : WRep B w p sv bl) (h1 : t ≠ 229) (h2 : t ≠ 5) (h : Only (fun k => k = p ∨ sv.ownBlock = some k) w w') : Row w' g t cs :=
  hr.only h (fun h => by
    rcases h with h | h
    · exact hr.apart hw.2.1 h1 h
    · exact own_apart hw.2.2 hr (Ne.symm h2) h)
/-- what stands ahead of a part's data -/
def hdP (id n : Nat) : List Nat := [(2048 * id + n) / 256, (2048 * id + n) % 256]
theorem bits16 (v : Nat) : bitsOf [v / 256, v % 256] = unval (v / 2048) 5 ++ unval (v % 2048) 11 := by
  have h1 := unval_split v 5 11
  have h2 := unval_split v 8 8
  have h3 := unval_mod v 8
  have h4 := unval_mod v 11
  rw [show (2 : Nat) ^ 11 = 2048 from rfl] at h1 h4
  rw [show (2 : Nat) ^ 8 = 256 from rfl] at h2 h3
  rw [h4, ← h1, show 5 + 11 = 8 + 8 from rfl, h2, ← h3]
  simp [bitsOf]
theorem mpack_bits {hd : List Nat} (hb : ∀ x ∈ hd, x < 256) : pack (bitsOf hd) = hd := by
  have e : packLen (bitsOf hd).length = hd.length := by rw [length_bitsOf]; unfold packLen; omega
  have h1 : bitsOf (pack (bitsOf hd)) = bitsOf hd := by
    rw [bitsOf_pack, e, length_bitsOf, Nat.sub_self]
    simp
  exact bitsOf_inj (fun x hx => pack_small _ x hx) hb h1
theorem pack_hd {id n : Nat} (hi : id < 32) (hn : n < 2048) : pack (unval id 5 ++ unval n 11) = hdP id n := by
  have h := bits16 (2048 * id + n)
  rw [show (2048 * id + n) / 2048 = id by omega, show (2048 * id + n) % 2048 = n by omega] at h
  rw [← h]
  exact mpack_bits (by simp only [List.mem_cons, List.not_mem_nil, or_false]; rintro x (rfl | rfl) <;> omega)
theorem get_hd {v : Nat} (hv : v < 65536) : val (seg [v / 256, v % 256] 0 5) = v / 2048 ∧ val (seg [v / 256, v % 256] 5 11) = v % 2048 := by
  unfold seg
  rw [bits16]
  constructor
  · rw [List.drop_zero, List.take_append_of_le_length (by rw [length_unval]; exact Nat.le_refl _), List.take_of_length_le (by rw [length_unval]; exact Nat.le_refl _), val_unval]
    exact Nat.mod_eq_of_lt (by omega)
  · rw [List.drop_append_of_le_length (by rw [length_unval]; exact Nat.le_refl _), List.drop_of_length_le (by rw [length_unval]; exact Nat.le_refl _), List.nil_append, List.take_of_length_le (by rw [length_unval]; exact Nat.le_refl _), val_unval]
    exact Nat.mod_eq_of_lt (by omega)
set_option maxRecDepth 100000 in
set_option maxHeartbeats 800000 in
theorem head_any {A : Option Addr} (id n c : Nat) (w : World) (hi : id < 32) (hn : n < 2048) :
    Calls Try.prog 77 #[.agg #[.int .i64 id, .slice A n c]] w fun e w' => ∃ g, e = .returned (.slice (some ⟨g, 0, none⟩) 2 2) ∧ w.heap.size ≤ g ∧ Row w' g 5 (bts (hdP id n)).toArray ∧ Below w.heap.size w w' := by
  obtain ⟨W0, hW0⟩ : ∃ W0, W0 = w.alloc (.cells #[.int .i64 id, .slice A n c] 57) := ⟨_, rfl⟩
  have hb0 : Below w.heap.size w W0 := by rw [hW0]; exact bl_alloc (Below.refl _ _) _
  have HR0 := Lib.hid (show Row W0 w.heap.size 57 #[.int .i64 id, .slice A n c] by rw [hW0]; exact Row.made _ _ _)
  have hsz : W0.heap.size = w.heap.size + 1 := by rw [hW0]; simp
  have HSZ := Lib.hid hsz
  have HB0 := Lib.hid hb0
  have hi1 : IntKind.u64.wrap (id : Int) = (id : Int) := by rw [IntKind.wrap_u64]; omega
  have hi2 : IntKind.u64.wrap (n : Int) = (n : Int) := by rw [IntKind.wrap_u64]; omega
  have HK := Lib.hid (pack_hd hi hn)
  have HI := Lib.hid (And.intro hi hn)
  clear hsz hb0 hi hn
  go_enter Try.func77, Try.ntmps77
  go_upto_region 1 with fail
  rw [← hW0]
  clear hW0
  go_wp2_with (first
    | (go_at_call 134; (with_reducible refine (new_any W0.heap.size W0 (Nat.le_refl _)).mono ?_); rintro e w1 ⟨rfl, hr1, hb1⟩; (have R1 := HR0.out.later hb1; have r10 := R1.read (i := 0) rfl; have HP1 := Lib.hid (fun (h : id < 32) => put_any id 5 w1 hr1 (by omega) (by omega) (by simp) (by omega)); have HR1 := Lib.hid R1; have HW1 := Lib.hid hr1; have HB1 := Lib.hid hb1; clear R1 hr1 hb1))
    | (go_at_call 135; refine (HP1.out HI.out.1).mono ?_; rintro e w2 ⟨rfl, sv2, hr2, ho2, hy2⟩; (have R2 := row_put HR1.out HW1.out (by decide) (by decide) hy2; have r21 := R2.read (i := 1) rfl; have HB2 := Lib.hid (wrote_below HW1.out hy2); have HP2 := Lib.hid (fun (h : n < 2048) => put_any n 11 w2 hr2 (by omega) (by omega) (by rw [List.nil_append, length_unval]; omega) (by omega)); have HW2 := Lib.hid hr2; clear R2 hr2 ho2 hy2 r10 HP1))
    | (go_at_call 135; refine (HP2.out HI.out.2).mono ?_; rintro e w3 ⟨rfl, sv3, hr3, ho3, hy3⟩; (have HB3 := Lib.hid (wrote_below HW2.out hy3); have HY := Lib.hid (bytes_any hr3 (by rw [List.nil_append, List.length_append, length_unval, length_unval]; omega)); clear hr3 ho3 hy3))
    | (go_at_call 136; (with_reducible refine (HY.out).mono ?_); rintro e w4 ⟨g, rfl, hg, hrow, hb4⟩))
  go_ret
  have hB1 : Below W0.heap.size W0 w3 := HB1.out.trans (HB2.out.trans HB3.out)
  rw [List.nil_append] at hrow
  rw [HK.out] at hrow
  refine ⟨g, ?_, ?_, hrow, bl_step HB0.out (bl_step hB1 hb4)⟩
  · simp only [List.length_append, length_unval]
    rfl
  · have := hB1.size; have := HSZ.out; omega
end Go.Proofs.Ytdaipfmckonfpaa
namespace Go.Proofs.Ytdaipfmckonfpaa

/-- one bit further -/
def T (s : Nat) : Nat := (2 * s % 65536) ^^^ (s / 32768 * 4129)
def Tn : Nat → Nat → Nat
  | 0, s => s
  | n + 1, s => T (Tn n s)
/-- one byte further -/
def mb (s x : Nat) : Nat := Tn 8 (s ^^^ (256 * x))
def more (s : Nat) (l : List Nat) : Nat := l.foldl mb s

theorem T_lt {s : Nat} (h : s < 65536) : T s < 65536 := by
  unfold T
  have h1 : s / 32768 * 4129 < 2 ^ 16 := by
    have : s / 32768 ≤ 1 := by omega
    have := Nat.mul_le_mul_right 4129 this
    omega
  exact Nat.xor_lt_two_pow (n := 16) (by omega) h1
theorem Tn_lt {s : Nat} (n : Nat) (h : s < 65536) : Tn n s < 65536 := by
  induction n with
  | zero => exact h
  | succ n ih => exact T_lt ih
theorem xor_lt' {a b : Nat} (ha : a < 65536) (hb : b < 65536) : a ^^^ b < 65536 := Nat.xor_lt_two_pow (n := 16) ha hb
/-- nothing falls out -/
theorem T_small {s : Nat} (h : s < 32768) : T s = s * 2 := by
  unfold T
  rw [show s / 32768 = 0 by omega, Nat.zero_mul, Nat.xor_zero]
  omega
theorem mb_lt {s x : Nat} (hs : s < 65536) (hx : x < 256) : mb s x < 65536 := Tn_lt 8 (xor_lt' hs (by omega))
theorem more_lt {l : List Nat} : ∀ {s : Nat}, s < 65536 → (∀ x ∈ l, x < 256) → more s l < 65536 := by
  induction l with
  | nil => intro s hs _; exact hs
  | cons a l ih =>
    intro s hs hl
    exact ih (mb_lt hs (hl a (List.mem_cons_self ..))) fun x hx => hl x (List.mem_cons_of_mem _ hx)
theorem more_append (s : Nat) (l m : List Nat) : more s (l ++ m) = more (more s l) m := List.foldl_append ..
theorem more_snoc (s : Nat) (l : List Nat) (x : Nat) : more s (l ++ [x]) = mb (more s l) x := by rw [more_append]; rfl
end Go.Proofs.Ytdaipfmckonfpaa
namespace Go.Proofs.Ytdaipfmckonfpaa
open Go.RowKit

theorem T_go (s : Nat) (hs : s < 65536) : bits .xor .u16 (IntKind.u16.wrap ((s : Int) * 2)) ((s : Int) / 32768 * 4129) = ((T s : Nat) : Int) := by
  have h1 : IntKind.u16.wrap ((s : Int) * 2) = ((2 * s % 65536 : Nat) : Int) := by rw [IntKind.wrap_u16]; omega
  have h2 : (s : Int) / 32768 * 4129 = ((s / 32768 * 4129 : Nat) : Int) := by omega
  rw [h1, h2, u16_xor_nat _ _ (by omega) (by omega)]
  rfl

set_option maxRecDepth 100000 in
set_option maxHeartbeats 800000 in
theorem shifted_any (s : Nat) (hs : s < 65536) (w : World) : Calls Try.prog 200 #[.int .u16 s] w fun e w' => e = .returned (.int .u16 (Tn 8 s)) ∧ w = w' := by
  go_enter Try.func200, Try.ntmps200
  go_wp2
  refine wp_scope_jumps 0 (fun a' w' => ∃ k q : Nat, k ≤ 8 ∧ q < 65536 ∧ q = Tn (8 - k) s ∧ Fr [some (.int .u16 q), none, none, some (.int .i64 k), none, none, none, none, none, none, none, none, none, none, none] a' ∧ w' = w) (fun a' _ => (intOf (a'.tmps.getD 3 undef)).toNat) rfl ?_ ?_
  · have HT := Lib.hid (T_go s hs)
    go_wp2
    go_step3
    go_wp2
    go_step3
    rw [HT.out]
    refine ⟨rfl, 7, T s, by omega, T_lt hs, rfl, ?_, rfl⟩
    simp only [Fr, Holes]
    repeat apply Exists.intro
    rfl
  · rintro a' w' ⟨k, q, hk, hq, hqs, hfr, rfl⟩
    simp only [Fr, Holes] at hfr
    repeat (obtain ⟨_, hfr⟩ := hfr)
    have HQ := Lib.hid hqs
    clear hqs
    rcases Nat.eq_zero_or_pos k with hk0 | hk0
    · subst hk0
      go_wp2
      simp only [Exit.jump]
      go_ret
      exact ⟨by rw [HQ.out]; rfl, rfl⟩
    · obtain ⟨j, rfl⟩ : ∃ j, k = j + 1 := ⟨k - 1, by omega⟩
      have HT := Lib.hid (T_go q hq)
      go_wp2
      go_step3
      rw [HT.out]
      refine ⟨rfl, ⟨j, T q, by omega, T_lt hq, ?_, ?_, rfl⟩, ?_⟩
      · rw [HQ.out, show 8 - j = 8 - (j + 1) + 1 by omega]
        rfl
      · simp only [Fr, Holes]
        repeat apply Exists.intro
        rfl
      · simp [intOf]

theorem mb_go (s x : Nat) (hs : s < 65536) (hx : x < 256) : bits .xor .u16 (s : Int) ((x : Int) * 256) = ((s ^^^ 256 * x : Nat) : Int) := by
  have h1 : (x : Int) * 256 = ((256 * x : Nat) : Int) := by omega
  rw [h1, u16_xor_nat _ _ hs (by omega)]

theorem more_take_succ {s : Nat} {l : List Nat} {k : Nat} (h : k < l.length) : more s (l.take (k + 1)) = mb (more s (l.take k)) l[k] := by
  rw [List.take_succ_eq_append_getElem h, more_snoc]

set_option maxRecDepth 100000 in
set_option maxHeartbeats 800000 in
theorem more_any {A : Option Addr} {cap : Nat} {l : List Nat} (s n : Nat) (hn : l.length = n) (hs : s < 65536) (hm : n ≤ maxLen) (w : World) (hsrc : Src w A (bts l)) (hb : ∀ b ∈ l, b < 256) :
    Calls Try.prog 181 #[.int .u16 s, .slice A n cap] w fun e w' => e = .returned (.int .u16 (more s l)) ∧ w = w' := by
  have HN := Lib.hid hn
  have HS := Lib.hid hsrc
  have HB := Lib.hid hb
  clear hn hsrc hb
  unfold maxLen at hm
  go_enter Try.func181, Try.ntmps181
  go_wp2
  go_loopw [0, 9] (fun q i wr => ∃ k m : Nat, k ≤ n ∧ m < 65536 ∧ q = .int .u16 m ∧ i = .int .i64 k ∧ m = more s (l.take k) ∧ w = wr) (fun _ i _ => n - (intOf i).toNat)
  case atStart => exact ⟨0, s, by omega, hs, rfl, rfl, rfl, rfl⟩
  case round =>
    obtain ⟨k, m, hk, hm', rfl, rfl, hq, rfl⟩ := hrel
    have HQ := Lib.hid hq
    clear hq
    by_cases hlt : k < n
    · have hkl : k < l.length := by have := HN.out; omega
      have hx : l[k]? = some l[k] := List.getElem?_eq_getElem hkl
      obtain ⟨ad, rfl, hc⟩ := HS.out (by rw [length_bts]; omega)
      have hcell := hc _ _ (bts_at hx)
      have hxb := HB.out _ (List.getElem_mem hkl)
      have hst := more_take_succ (s := s) hkl
      generalize l[k] = x at *
      have HST := Lib.hid hst
      have HG := Lib.hid (mb_go m x hm' hxb)
      have hlt2 : (k : Int) < (n : Int) := by omega
      have hk0 : (0 : Int) ≤ (k : Int) := by omega
      have hxl : m ^^^ 256 * x < 65536 := xor_lt' hm' (by omega)
      clear hc hx hst
      go_wp2_with (go_at_call 200; rw [HG.out]; refine (shifted_any _ hxl _).mono ?_; rintro e w1 ⟨rfl, rfl⟩)
      go_roundw
      case rel => exact ⟨k + 1, mb m x, by omega, mb_lt hm' hxb, rfl, by go_num, by rw [HST.out, HQ.out], trivial⟩
      case measure => simp [intOf]; omega
    · obtain rfl : k = n := by omega
      have HQ2 := Lib.hid (show m = more s l by rw [HQ.out, ← HN.out, List.take_length])
      go_wp2
      go_ret
      exact ⟨by rw [HQ2.out]; rfl, rfl⟩

set_option maxHeartbeats 400000 in
theorem of_any {A : Option Addr} {cap : Nat} {l : List Nat} (n : Nat) (hn : l.length = n) (hm : n ≤ maxLen) (w : World) (hsrc : Src w A (bts l)) (hb : ∀ b ∈ l, b < 256) :
    Calls Try.prog 137 #[.slice A n cap] w fun e w' => e = .returned (.int .u16 (more 65535 l)) ∧ w = w' := by
  have HC := Lib.hid (more_any (cap := cap) 65535 n hn (by omega) hm w hsrc hb)
  clear hn hsrc hb hm
  go_enter Try.func137, Try.ntmps137
  go_wp2_with (go_at_call 181; refine HC.out.mono ?_; rintro e w1 ⟨rfl, rfl⟩)
  go_ret
  exact ⟨rfl, rfl⟩
end Go.Proofs.Ytdaipfmckonfpaa
