/-
  What a reader does: Read, Left, a bit. What a reader does: Get. What the small functions of lens answer: which widths may be, how great a length may be, how many bytes lengths have. Fields' lengths: which may be, how many bytes they are: plain lists. What a reader does: Rest. Bytes of memory as a text. BitsBack: what was put, one behind the other, and what is then read: plain lists. Lengths as bits: plain lists, no program. What one answers: the next length, and whether another one follows. What Rest tells of the bits up to the next byte; lists of ints by append; Clip. What Read answers. What is wrong with lengths that are to be written; lengths written. What Write does: the bytes of lengths, or why there are none. The document's answer for what is put: bits as a list of the call's own. The document's answer for bits as bytes. The document's answer for what is got: bytes as bits, and the number of the next of them. The document's Write. Rows of bytes as they came in; how they are gone through. An append whose run is known, at a drawn region. mux: parts in memory; which may not be, how many bytes they have.
-/
import Derived.Test.YtdaipfmckonfpaaJMuxWrites01
import Derived.Laws.BytesString
import Derived.Laws.IdiomStrings
import Derived.BigQuiet
import Derived.Laws.BitsAllLaws
import Derived.Shelf.Bytes.SlSmallAll
import Derived.StillTailTactics
import Derived.Deep.RegionLaw
namespace Go.Proofs.Ytdaipfmckonfpaa
open Go.RowKit

/-- m bits from bit i on -/
def seg (bs : List Nat) (i m : Nat) : List Bool := ((bitsOf bs).drop i).take m
theorem length_seg {bs : List Nat} {i m : Nat} (h : i + m ≤ 8 * bs.length) : (seg bs i m).length = m := by
  unfold seg
  rw [List.length_take, List.length_drop, length_bitsOf]
  omega
theorem seg_zero (bs : List Nat) (i : Nat) : seg bs i 0 = [] := by simp [seg]
theorem seg_succ {bs : List Nat} {i m : Nat} (h : i + m < 8 * bs.length) : seg bs i (m + 1) = seg bs i m ++ [bitAt bs (i + m)] := by
  unfold seg bitAt
  have hl : i + m < (bitsOf bs).length := by rw [length_bitsOf]; exact h
  have hd : m < ((bitsOf bs).drop i).length := by rw [List.length_drop]; omega
  rw [List.take_succ_eq_append_getElem hd, List.getElem_drop, List.getD_eq_getElem?_getD, List.getElem?_eq_getElem hl]
  rfl
theorem val_seg_succ {bs : List Nat} {i m : Nat} (h : i + m < 8 * bs.length) : val (seg bs i (m + 1)) = 2 * val (seg bs i m) + (bitAt bs (i + m)).toNat := by
  rw [seg_succ h, val_snoc]

/-- a reader has got the first m bits -/
def Getting (w : World) (p g : Nat) (bs : List Nat) (i m : Nat) (w' : World) : Prop := RRep w' p g bs (i + m) ∧ Only (fun k => k = p) w w'

theorem or_u64 (V : Nat) (hV : V < 9223372036854775808) (bit : Bool) : bits .or .u64 (IntKind.u64.wrap ((V : Int) * 2)) (IntKind.u64.wrap (bit.toNat : Int)) = ((2 * V + bit.toNat : Nat) : Int) := by
  have h1 : IntKind.u64.wrap ((V : Int) * 2) = ((2 * V : Nat) : Int) := by
    rw [IntKind.wrap_u64]
    omega
  have h2 : bit.toNat < 2 := by cases bit <;> decide
  have h4 : IntKind.u64.wrap (bit.toNat : Int) = (bit.toNat : Int) := by
    rw [IntKind.wrap_u64]
    omega
  rw [h1, h4, u64_or_nat _ _ (by omega) (by omega)]
  have h3 := Nat.two_pow_add_eq_or_of_lt (i := 1) (b := bit.toNat) (by simpa using h2) V
  simp only [Nat.pow_one] at h3
  rw [← h3]
theorem or_u64_0 (bit : Bool) : bits .or .u64 0 (IntKind.u64.wrap (bit.toNat : Int)) = (bit.toNat : Int) := by
  have h := or_u64 0 (by omega) bit
  rw [show IntKind.u64.wrap (((0 : Nat) : Int) * 2) = 0 from rfl] at h
  rw [h]
  simp
theorem val_one {bs : List Nat} {i : Nat} (h : i < 8 * bs.length) : val (seg bs i 1) = (bitAt bs i).toNat := by
  have h1 := val_seg_succ (bs := bs) (i := i) (m := 0) (by omega)
  rw [seg_zero] at h1
  simpa [val_nil] using h1
theorem val_small {l : List Bool} (h : l.length ≤ 63) : val l < 9223372036854775808 :=
  Nat.lt_of_lt_of_le (val_lt l) (Nat.le_trans (Nat.pow_le_pow_right (by omega) h) (by decide))

set_option maxRecDepth 100000 in
set_option maxHeartbeats 1600000 in
theorem get_any {p g : Nat} {bs : List Nat} {i : Nat} (n : Nat) (w : World) (hr : RRep w p g bs i) (hn : n ≤ 64) (h : i + n ≤ 8 * bs.length) :
    Calls Try.prog 140 #[.pointer (some ⟨p, 0, none⟩), .int .i64 n] w fun e w' => e = .returned (.tuple #[.int .u64 (val (seg bs i n)), .int .i64 0]) ∧ Getting w p g bs i n w' := by
  have HR := Lib.hid hr
  have hle : 8 * bs.length ≤ 65536 := by have := hr.2.2.2.1; omega
  have hin : n ≤ 8 * bs.length - i := by omega
  clear hr
  go_enter Try.func140, Try.ntmps140
  go_wp2
  refine wp_scope_jumps 0 (fun a' w' => ∃ k : Nat, k ≤ n ∧ Fr [some (.pointer (some ⟨p, 0, none⟩)), some (.int .i64 k), none, none, none, none, some (.int .u64 (val (seg bs i (n - k)))), none, none, none, none, none, none, none, none, none, none, none, none, none, none, none, none, none, none, none, none, none, none, none, none, none, none, none, none, none, none, none, none, none, none] a' ∧ Getting w p g bs i (n - k) w') (fun a' _ => (intOf (a'.tmps.getD 1 undef)).toNat) rfl ?_ ?_
  · rcases Nat.eq_zero_or_pos n with hk0 | hk0
    · subst hk0
      go_wp2_with (first
        | (go_at_call 178; refine (mayBe_yes _ _ (by omega) (by omega)).mono ?_; rintro e w1 ⟨rfl, rfl⟩)
        | (go_at_call 182; refine (left_any HR.out).mono ?_; rintro e w2 ⟨rfl, hb⟩))
      go_step3
      go_wp2
      simp only [Exit.jump]
      go_ret2
      exact ⟨rfl, HR.out.later hb, .of_below hb⟩
    · go_wp2_with (first
        | (go_at_call 178; refine (mayBe_yes _ _ (by omega) (by omega)).mono ?_; rintro e w1 ⟨rfl, rfl⟩)
        | (go_at_call 182; refine (left_any HR.out).mono ?_; rintro e w2 ⟨rfl, hb⟩))
      go_step3
      have hrr := HR.out.later hb
      have hc1 : w2.cell? ⟨p, 1, none⟩ = some (.int .i64 i) := hrr.1.read rfl
      have hf1 := hrr.1.free 1
      have HRR := Lib.hid hrr
      have HO := Lib.hid (Only.of_below (S := fun k => k = p) hb)
      obtain ⟨j, rfl⟩ : ∃ j, n = j + 1 := ⟨n - 1, by omega⟩
      have hq : i < 8 * bs.length := by omega
      have hstep := Lib.hid (val_one hq)
      clear hb hrr
      go_wp2_with (go_at_call 183; refine (bit_any HRR.out hq).mono ?_; rintro e w1 ⟨rfl, rfl⟩)
      go_step3
      rw [or_u64_0, ← hstep.out]
      have e1 : j + 1 - j = 1 := by omega
      refine ⟨rfl, j, by omega, ?_, ?_, ?_⟩
      · rw [e1]
        simp only [Fr, Holes]
        repeat apply Exists.intro
        rfl
      · rw [e1]
        obtain ⟨h1, h2, h3, h4, h5⟩ := HRR.out
        exact ⟨h1.written 1 _, h2.elsewhere (p := ⟨p, 1, none⟩) (RRep.ne HRR.out) _, by omega, h4, h5⟩
      · exact HO.out.set (p := ⟨p, 1, none⟩) (.inl rfl) _
  · rintro a' w' ⟨k, hk, hfr, hget⟩
    simp only [Fr, Holes] at hfr
    repeat (obtain ⟨_, hfr⟩ := hfr)
    obtain ⟨hrr, ho⟩ := hget
    have hc1 : w'.cell? ⟨p, 1, none⟩ = some (.int .i64 ((i + (n - k) : Nat) : Int)) := hrr.1.read rfl
    have hf1 := hrr.1.free 1
    rcases Nat.eq_zero_or_pos k with hk0 | hk0
    · subst hk0
      clear hc1 hf1
      go_wp2
      simp only [Exit.jump]
      go_ret2
      exact ⟨rfl, hrr, ho⟩
    · obtain ⟨j, rfl⟩ : ∃ j, k = j + 1 := ⟨k - 1, by omega⟩
      have hstep := Lib.hid (val_seg_succ (bs := bs) (i := i) (m := n - (j + 1)) (by omega))
      have hV := Lib.hid (val_small (l := seg bs i (n - (j + 1))) (by rw [length_seg (by omega)]; omega))
      have e1 : n - (j + 1) + 1 = n - j := by omega
      rw [e1] at hstep
      have hq : i + (n - (j + 1)) < 8 * bs.length := by omega
      have hq2 : i + (n - j) = i + (n - (j + 1)) + 1 := by omega
      generalize val (seg bs i (n - (j + 1))) = V at *
      generalize i + (n - (j + 1)) = q at *
      have HQ := Lib.hid hq2
      have HO := Lib.hid ho
      have HRR := Lib.hid hrr
      have hor := or_u64 V hV.out (bitAt bs q)
      have HOR := Lib.hid hor
      clear e1 hq2 ho hrr hor
      go_wp2_with (go_at_call 183; refine (bit_any HRR.out hq).mono ?_; rintro e w1 ⟨rfl, rfl⟩)
      go_step3
      rw [HOR.out, ← hstep.out]
      refine ⟨rfl, ⟨j, by omega, ?_, ?_, ?_⟩, ?_⟩
      · simp only [Fr, Holes]
        repeat apply Exists.intro
        rfl
      · rw [HQ.out]
        obtain ⟨h1, h2, h3, h4, h5⟩ := HRR.out
        exact ⟨h1.written 1 _, h2.elsewhere (p := ⟨p, 1, none⟩) (RRep.ne HRR.out) _, by omega, h4, h5⟩
      · exact HO.out.set (p := ⟨p, 1, none⟩) (.inl rfl) _
      · simp [intOf]
end Go.Proofs.Ytdaipfmckonfpaa
namespace Go.Proofs.Ytdaipfmckonfpaa
open Go.RowKit

end Go.Proofs.Ytdaipfmckonfpaa
namespace Go.Proofs.Ytdaipfmckonfpaa


end Go.Proofs.Ytdaipfmckonfpaa
namespace Go.Proofs.Ytdaipfmckonfpaa
open Go.RowKit

/-- how many bytes are begun -/
def up (i : Nat) : Nat := (i + 7) / 8

theorem bts_drop (l : List Nat) (m : Nat) : bts (l.drop m) = (bts l).drop m := by simp [bts, List.map_drop]
theorem src_drop {w : World} {g m : Nat} {xs : List Value} (h : Row w g 5 xs.toArray) : Src w (some ⟨g, m, none⟩) (xs.drop m) := by
  intro _
  refine ⟨_, rfl, fun j u hu => ?_⟩
  have e : (⟨g, m, none⟩ : Addr).add j = ⟨g, m + j, none⟩ := by
    unfold Addr.add
    split
    · rename_i h0
      rw [h0]
      rfl
    · rfl
  rw [e]
  rw [List.getElem?_drop] at hu
  exact h.read (by simpa using hu)

end Go.Proofs.Ytdaipfmckonfpaa
namespace Go.Proofs.Ytdaipfmckonfpaa
open Go.RowKit

/-- bytes as a text -/
def strOf (l : List Nat) : ByteArray := ⟨(l.map UInt8.ofNat).toArray⟩

theorem conv_str {w : World} {g c : Nat} {l : List Nat} (h : Row w g 5 (bts l).toArray) (hb : ∀ b ∈ l, b < 256) :
    (convert 42 9 (.slice (some ⟨g, 0, none⟩) l.length c)).run Try.prog w = .ok (.string (strOf l)) w := by
  have hx := run_convert_bytes_back (P := Try.prog) w 42 9 5 ⟨g, 0, none⟩ c (l.map UInt8.ofNat) Try.underlying42 Try.underlying5 Try.underlying9 (fun j hj => by
    have hj' : j < l.length := by simpa using hj
    rw [add_zero_addr]
    have h1 : (bts l)[j]? = some (.int .u8 (l[j] : Nat)) := bts_at (List.getElem?_eq_getElem hj')
    have h2 := h.read (i := j) (x := .int .u8 (l[j] : Nat)) (by simpa using h1)
    rw [h2, List.getElem_map]
    have h3 : (UInt8.ofNat l[j]).toNat = l[j] := UInt8.toNat_ofNat_of_lt' (hb _ (List.getElem_mem hj'))
    rw [h3])
  rw [List.length_map] at hx
  exact hx

theorem wrote_below {B : Nat} {w w' : World} {p : Nat} {sv : Value} {bl : List Bool} (hr : WRep B w p sv bl) (h : Only (fun k => k = p ∨ sv.ownBlock = some k) w w') : Below B w w' :=
  h.below (by have := hr.1; have := hr.2.1.inside; omega) (fun k hk hS => by
    rcases hS with h1 | h1
    · have := hr.1; omega
    · have := (hr.2.2.lt k h1).1; omega)
theorem get_below {B p : Nat} {w w' : World} (h : Only (fun k => k = p) w w') (hp : B ≤ p) (hB : B ≤ w.heap.size) : Below B w w' :=
  h.below hB (fun k hk hS => by omega)
end Go.Proofs.Ytdaipfmckonfpaa
namespace Go.Proofs.Ytdaipfmckonfpaa
open Go.RowKit

def bitsP (kp : List (Nat × Nat)) : List Bool := kp.flatMap fun x => unval x.1 x.2
theorem pack_small (bl : List Bool) : ∀ b ∈ pack bl, b < 256 := by
  intro b hb
  unfold pack at hb
  simp only [List.mem_map] at hb
  obtain ⟨i, _, rfl⟩ := hb
  exact byteAt_lt _ _
end Go.Proofs.Ytdaipfmckonfpaa
namespace Go.Proofs.Ytdaipfmckonfpaa

/-- lengths read from bits, at most f: the lengths, how many bits, or why there are none -/
def prs (w : Nat) : Nat → List Bool → List Nat × Nat × Int
  | 0, _ => ([], 0, 2)
  | f + 1, y =>
    if y.length < w + 1 then ([], 0, 8)
    else if val ((y.drop 1).take w) = 0 then ([], 0, 3)
    else if y.getD 0 false then
      if (prs w f (y.drop (w + 1))).2.2 = 0 then (val ((y.drop 1).take w) :: (prs w f (y.drop (w + 1))).1, (prs w f (y.drop (w + 1))).2.1 + (w + 1), 0)
      else ([], 0, (prs w f (y.drop (w + 1))).2.2)
    else ([val ((y.drop 1).take w)], w + 1, 0)
/-- behind lengths that were read -/
def onto (w : Nat) (acc : List Nat) (r : List Nat × Nat × Int) : List Nat × Nat × Int := if r.2.2 = 0 then (acc ++ r.1, acc.length * (w + 1) + r.2.1, 0) else ([], 0, r.2.2)

theorem unval_inj {a b : Nat} (ha : a < 256) (hb : b < 256) (h : unval a 8 = unval b 8) : a = b := by
  have h1 := val_unval a 8
  have h2 := val_unval b 8
  rw [h, h2] at h1
  omega
theorem bitsOf_inj : ∀ {a b : List Nat}, (∀ x ∈ a, x < 256) → (∀ x ∈ b, x < 256) → bitsOf a = bitsOf b → a = b
  | [], [], _, _, _ => rfl
  | [], y :: b, _, _, h => by
    have := congrArg List.length h
    rw [length_bitsOf, length_bitsOf] at this
    simp at this
  | x :: a, [], _, _, h => by
    have := congrArg List.length h
    rw [length_bitsOf, length_bitsOf] at this
    simp at this
  | x :: a, y :: b, ha, hb, h => by
    have h' : unval x 8 ++ bitsOf a = unval y 8 ++ bitsOf b := h
    obtain ⟨h1, h2⟩ := List.append_inj h' (by rw [length_unval, length_unval])
    rw [unval_inj (ha x (List.mem_cons_self ..)) (hb y (List.mem_cons_self ..)) h1, bitsOf_inj (fun z hz => ha z (List.mem_cons_of_mem _ hz)) (fun z hz => hb z (List.mem_cons_of_mem _ hz)) h2]
/-- behind the lengths acc the rest comes to what all comes to -/
def LInv (w : Nat) (x : List Bool) (acc : List Nat) : Prop := acc.length ≤ 22 ∧ onto w acc (prs w (23 - acc.length) (x.drop (acc.length * (w + 1)))) = prs w 23 x
theorem LInv.start (w : Nat) (x : List Bool) : LInv w x [] := by
  refine ⟨by simp, ?_⟩
  simp only [List.length_nil, Nat.sub_zero, Nat.zero_mul, List.drop_zero, onto, List.nil_append, Nat.zero_add]
  split
  · rename_i h
    rw [← h]
  · rename_i h
    have : ∀ f y, (prs w f y).2.2 ≠ 0 → prs w f y = ([], 0, (prs w f y).2.2) := by
      intro f y
      cases f with
      | zero => intro _; rfl
      | succ f =>
        unfold prs
        split
        · intro _; rfl
        · split
          · intro _; rfl
          · split
            · split
              · intro h; exact absurd rfl h
              · intro _; rfl
            · intro h; exact absurd rfl h
    exact (this 23 x h).symm
section
variable {w : Nat} {x : List Bool} {acc : List Nat}
theorem LInv.last (h : LInv w x acc) (h1 : ¬ x.length - acc.length * (w + 1) < w + 1) (h2 : val ((x.drop (acc.length * (w + 1) + 1)).take w) ≠ 0) (h3 : x.getD (acc.length * (w + 1)) false = false) :
    prs w 23 x = (acc ++ [val ((x.drop (acc.length * (w + 1) + 1)).take w)], (acc.length + 1) * (w + 1), 0) := by
  obtain ⟨h0, h⟩ := h
  rw [← h, show 23 - acc.length = (22 - acc.length) + 1 by omega]
  unfold prs
  have e : (x.drop (acc.length * (w + 1))).getD 0 false = x.getD (acc.length * (w + 1)) false := by
    rw [List.getD_eq_getElem?_getD, List.getElem?_drop, Nat.add_zero, ← List.getD_eq_getElem?_getD]
  rw [if_neg (by rw [List.length_drop]; exact h1), List.drop_drop, if_neg h2, e, h3]
  simp [onto, Nat.add_mul]
theorem LInv.more (h : LInv w x acc) (h1 : ¬ x.length - acc.length * (w + 1) < w + 1) (h2 : val ((x.drop (acc.length * (w + 1) + 1)).take w) ≠ 0) (h3 : x.getD (acc.length * (w + 1)) false = true) (h4 : acc.length < 22) :
    LInv w x (acc ++ [val ((x.drop (acc.length * (w + 1) + 1)).take w)]) := by
  obtain ⟨h0, h⟩ := h
  have e : (x.drop (acc.length * (w + 1))).getD 0 false = x.getD (acc.length * (w + 1)) false := by
    rw [List.getD_eq_getElem?_getD, List.getElem?_drop, Nat.add_zero, ← List.getD_eq_getElem?_getD]
  have hl : (acc ++ [val ((x.drop (acc.length * (w + 1) + 1)).take w)]).length = acc.length + 1 := by simp
  have hs : prs w (23 - acc.length) (x.drop (acc.length * (w + 1))) = if (prs w (22 - acc.length) (x.drop ((acc.length + 1) * (w + 1)))).2.2 = 0 then (val ((x.drop (acc.length * (w + 1) + 1)).take w) :: (prs w (22 - acc.length) (x.drop ((acc.length + 1) * (w + 1)))).1, (prs w (22 - acc.length) (x.drop ((acc.length + 1) * (w + 1)))).2.1 + (w + 1), 0) else ([], 0, (prs w (22 - acc.length) (x.drop ((acc.length + 1) * (w + 1)))).2.2) := by
    rw [show 23 - acc.length = (22 - acc.length) + 1 by omega]
    conv => lhs; unfold prs
    rw [if_neg (by rw [List.length_drop]; exact h1), List.drop_drop, if_neg h2, e, h3, List.drop_drop, show acc.length * (w + 1) + (w + 1) = (acc.length + 1) * (w + 1) by rw [Nat.add_mul, Nat.one_mul]]
    rfl
  refine ⟨by rw [hl]; omega, ?_⟩
  rw [← h, hs, hl, show 23 - (acc.length + 1) = 22 - acc.length by omega]
  unfold onto
  generalize prs w (22 - acc.length) (x.drop ((acc.length + 1) * (w + 1))) = r
  by_cases hr : r.2.2 = 0
  · simp [hr, Nat.add_mul]
    omega
  · simp [hr]
end
end Go.Proofs.Ytdaipfmckonfpaa
namespace Go.Proofs.Ytdaipfmckonfpaa
open Go.RowKit

end Go.Proofs.Ytdaipfmckonfpaa
namespace Go.Proofs.Ytdaipfmckonfpaa
open Go.RowKit

theorem Try.info3 : (Try.prog.info? 3).map (fun i => (i.zero, i.size, i.bytes)) = some (some (.int .i64 0), 1, 8) := by kernel_rfl
theorem Try.under30 : Try.prog.underlying 30 = some (.slice 3) := by kernel_rfl

theorem int_tail {B : Nat} {W : World} {v : Value} {n : Nat} {xs : List Value} (hown : W.ownsRow B 3 1 v n xs) (hB : B ≤ W.heap.size) (x : Int) (hn : n ≤ 1000000) :
    ∃ g cap W', (Builtin.append_ #[30, 30] 30 #[v, .slice (some ⟨W.heap.size, 0, none⟩) 1 1]).run Try.prog (W.alloc (.cells #[.int .i64 x] 3)) = .ok (.slice (some ⟨g, 0, none⟩) (n + 1) cap) W' ∧
      W'.ownsRow B 3 1 (.slice (some ⟨g, 0, none⟩) (n + 1) cap) (n + 1) (xs ++ [.int .i64 x]) ∧ Only (fun k => v.ownBlock = some k) W W' := by
  obtain ⟨i0, hi, hi0, hi1, hi2⟩ := info_parts Try.info3
  obtain ⟨g, cap, w3, hr3, h2, h3, _, _⟩ := run_append_lies (P := Try.prog) (W.alloc (.cells #[.int .i64 x] 3)) 30 30 B 3 i0 _ 1 8 Try.under30 hi hi0 hi1 hi2 rfl (by omega) v n xs (hown.alloc _) ⟨W.heap.size, 0, none⟩ 1 1 [.int .i64 x] rfl
    (World.news_of_block (cs := #[.int .i64 x]) (heap_alloc_new W _)) (by intro u hu; simp at hu; rw [hu]; rfl) (by omega) (by unfold maxLen; omega) (by omega) (by simp; omega) _ rfl
  exact ⟨g, cap, w3, hr3, h2, ((Only.refl _ W).alloc (.cells #[.int .i64 x] 3)).grown h3 (fun k hk => .inl hk)⟩

/-- a list of ints of its own, without room behind -/
def Ints (B : Nat) (w : World) (v : Value) (l : List Int) : Prop :=
  ∃ A, v = .slice A l.length l.length ∧ ((A = none ∧ l = []) ∨ ∃ g cs, A = some ⟨g, 0, none⟩ ∧ B ≤ g ∧ Row w g 3 cs ∧ ∀ (i : Nat) (x : Int), l[i]? = some x → cs[i]? = some (Value.int .i64 x))

section
variable {B : Nat} {w v : World} {u : Value} {l : List Int}
theorem Ints.later (h : Ints B w u l) (hb : Below w.heap.size w v) : Ints B v u l := by
  obtain ⟨A, h1, h2⟩ := h
  refine ⟨A, h1, ?_⟩
  rcases h2 with h2 | ⟨g, cs, h3, h4, h5, h6⟩
  · exact .inl h2
  · exact .inr ⟨g, cs, h3, h4, h5.later hb, h6⟩
theorem Ints.read (h : Ints B w u l) : ∃ A, u = .slice A l.length l.length ∧ ∀ (i : Nat) (x : Int), l[i]? = some x → ∃ g, A = some ⟨g, 0, none⟩ ∧ B ≤ g ∧ w.cell? ⟨g, i, none⟩ = some (Value.int .i64 x) := by
  obtain ⟨A, h1, h2⟩ := h
  refine ⟨A, h1, fun i x hx => ?_⟩
  rcases h2 with ⟨_, rfl⟩ | ⟨g, cs, h3, h4, h5, h6⟩
  · simp at hx
  · exact ⟨g, h3, h4, h5.read (h6 i x hx)⟩
end

end Go.Proofs.Ytdaipfmckonfpaa
namespace Go.Proofs.Ytdaipfmckonfpaa
open Go.RowKit

/-- lengths as values -/
def insN (l : List Nat) : List Value := (l.map (fun n : Nat => (n : Int))).map (fun x => Value.int .i64 x)
/-- at a jump: the lengths so far, and where the reader stands -/
structure RdInv (B wd p g : Nat) (bs acc : List Nat) (v : Value) (w w' : World) : Prop where
  rd : RRep w' p g bs (acc.length * (wd + 1))
  own : w'.ownsRow B 3 1 v acc.length (insN acc)
  below : Below B w w'
  above : B ≤ p
  size : B ≤ w'.heap.size
theorem RdInv.start (wd : Nat) {p g : Nat} {bs : List Nat} {w w' : World} (hr : RRep w' p g bs 0) (hb : Below w.heap.size w w') (hp : w.heap.size ≤ p) : RdInv w.heap.size wd p g bs [] (.slice none 0 0) w w' :=
  ⟨by simpa using hr, World.ownsRow_nil _ _ _ _, hb, hp, hb.size⟩
section
variable {B wd p g : Nat} {bs acc : List Nat} {v : Value} {w w' w1 : World}
theorem RdInv.form (h : RdInv B wd p g bs acc v w w') : ∃ A c, v = .slice A acc.length c := by
  rcases h.own.2 with ⟨rfl, h0⟩ | ⟨g, c, cur, rfl, _⟩
  · exact ⟨none, 0, by rw [h0]⟩
  · exact ⟨_, c, rfl⟩
/-- one length more -/
theorem RdInv.next (h : RdInv B wd p g bs acc v w w') (m : Nat) (hr : RRep w1 p g bs (acc.length * (wd + 1) + (wd + 1))) (ho : Only (fun k => k = p) w' w1) : RRep w1 p g bs ((acc.length + 1) * (wd + 1)) ∧
    ∃ g3 c3 w3, (Builtin.append_ #[30, 30] 30 #[v, .slice (some ⟨w1.heap.size, 0, none⟩) 1 1]).run Try.prog (w1.alloc (.cells #[.int .i64 m] 3)) = .ok (.slice (some ⟨g3, 0, none⟩) (acc.length + 1) c3) w3 ∧
      RdInv B wd p g bs (acc ++ [m]) (.slice (some ⟨g3, 0, none⟩) (acc.length + 1) c3) w w3 := by
  have h2 : RRep w1 p g bs ((acc.length + 1) * (wd + 1)) := by rw [Nat.add_mul, Nat.one_mul]; exact hr
  have hl : acc.length ≤ 1000000 := by
    have h3 := h.rd.2.2.1
    have h4 := h.rd.2.2.2.1
    have h5 : acc.length * 1 ≤ acc.length * (wd + 1) := Nat.mul_le_mul_left _ (by omega)
    omega
  have hown : w1.ownsRow B 3 1 v acc.length (insN acc) := own_only h.own ho (fun k hk e => by subst e; exact own_apart h.own h.rd.1 (by decide) hk)
  have hbl : Below B w w1 := h.below.trans (get_below ho h.above h.size)
  have hB1 : B ≤ w1.heap.size := Nat.le_trans h.size ho.size
  obtain ⟨g3, c3, w3, hrun, hown3, ho3⟩ := int_tail hown hB1 m hl
  refine ⟨h2, g3, c3, w3, hrun, ?_, ?_, ?_, h.above, Nat.le_trans hB1 ho3.size⟩
  · have e : (acc ++ [m]).length = acc.length + 1 := by simp
    rw [e]
    exact h2.only ho3 (own_apart hown h2.1 (by decide)) (own_apart hown h2.2.1 (by decide))
  · rw [List.length_append, List.length_singleton]
    have e : insN (acc ++ [m]) = insN acc ++ [.int .i64 m] := by simp [insN]
    rw [e]
    exact hown3
  · exact hbl.trans (ho3.below hB1 fun k hk hk' => by have := (hown.lt k hk').1; omega)
end
end Go.Proofs.Ytdaipfmckonfpaa
namespace Go.Proofs.Ytdaipfmckonfpaa
open Go.RowKit

end Go.Proofs.Ytdaipfmckonfpaa
namespace Go.Proofs.Ytdaipfmckonfpaa
open Go.RowKit

theorem cell_below {w v : World} {p : Addr} {x : Value} (hb : Below w.heap.size w v) (h : w.cell? p = some x) : v.cell? p = some x := by
  have hp : p.block < w.heap.size := by
    rcases Nat.lt_or_ge p.block w.heap.size with h2 | h2
    · exact h2
    · exfalso
      simp [World.cell?, Array.getElem?_eq_none h2] at h
  exact (hb.cell hp).trans h

end Go.Proofs.Ytdaipfmckonfpaa
namespace Go.Proofs.Ytdaipfmckonfpaa
open Go.RowKit

/-- bits as values -/
def bls (l : List Bool) : List Value := l.map Value.bool
theorem length_bls (l : List Bool) : (bls l).length = l.length := by simp [bls]
theorem bls_append (l k : List Bool) : bls (l ++ k) = bls l ++ bls k := by simp [bls]
/-- a list of bits of the call's own -/
def OwnB (B : Nat) (w : World) (x : Value) (bl : List Bool) : Prop := w.ownsRow B 4 1 x bl.length (bls bl) ∧ (bl = [] → x = .slice none 0 0)
theorem OwnB.nil (B : Nat) (w : World) : OwnB B w (.slice none 0 0) [] := ⟨World.ownsRow_nil _ _ _ _, fun _ => rfl⟩
theorem OwnB.later {B : Nat} {w v : World} {x : Value} {bl : List Bool} (h : OwnB B w x bl) (hb : Below w.heap.size w v) : OwnB B v x bl :=
  ⟨own_only h.1 (S := fun _ => False) (.of_below hb) (fun _ _ h => h), h.2⟩
theorem OwnB.form {B : Nat} {w : World} {x : Value} {bl : List Bool} (h : OwnB B w x bl) : ∃ A c, x = .slice A bl.length c := by
  rcases h.1.2 with ⟨rfl, h0⟩ | ⟨g, c, cur, rfl, _⟩
  · exact ⟨none, 0, by rw [h0]⟩
  · exact ⟨_, c, rfl⟩

end Go.Proofs.Ytdaipfmckonfpaa
namespace Go.Proofs.Ytdaipfmckonfpaa
open Go.RowKit

/-- where the elements of a slice of bits lie -/
def SrcB (w : World) (A : Option Addr) (xs : List Value) : Prop := 0 < xs.length → ∃ b off, A = some ⟨b, off, none⟩ ∧ ∀ j u, xs[j]? = some u → w.cell? ⟨b, off + j, none⟩ = some u
theorem SrcB.later {w v : World} {A : Option Addr} {xs : List Value} (h : SrcB w A xs) (hb : Below w.heap.size w v) : SrcB v A xs := by
  intro h0
  obtain ⟨b, off, hA, hc⟩ := h h0
  exact ⟨b, off, hA, fun j u hu => kept_box hb (hc j u hu)⟩
theorem OwnB.src {B : Nat} {w : World} {A : Option Addr} {n c : Nat} {bl : List Bool} (h : OwnB B w (.slice A n c) bl) : SrcB w A (bls bl) := by
  intro h0
  rw [length_bls] at h0
  obtain ⟨g, cap, e, _, _⟩ := h.1.form h0
  injection e with e1 e2 _
  subst e1
  refine ⟨g, 0, rfl, fun j u hu => ?_⟩
  have h1 := h.1.cells (g := g) rfl j u hu
  rw [add_zero_addr] at h1
  rw [Nat.zero_add]
  exact h1

theorem conv_own {w : World} {B : Nat} {x : Value} {n : Nat} {l : List Nat} (h : w.ownsRow B 5 1 x n (bts l)) (hb : ∀ b ∈ l, b < 256) :
    (convert 42 9 x).run Try.prog w = .ok (.string (strOf l)) w := by
  have hl : l.length = n := by
    have := h.1
    rw [length_bts, Nat.mul_one] at this
    exact this
  rcases h.2 with ⟨rfl, h0⟩ | ⟨g, cap, cur, rfl, _⟩
  · have e : l = [] := List.eq_nil_of_length_eq_zero (by omega)
    subst e
    exact run_convert_bytes_nil w 42 5 Try.underlying42 Try.underlying5 0 0 9 Try.underlying9
  · have hx := run_convert_bytes_back (P := Try.prog) w 42 9 5 ⟨g, 0, none⟩ cap (l.map UInt8.ofNat) Try.underlying42 Try.underlying5 Try.underlying9 (fun j hj => by
      have hj' : j < l.length := by simpa using hj
      have h1 : (bts l)[j]? = some (.int .u8 (l[j] : Nat)) := bts_at (List.getElem?_eq_getElem hj')
      rw [h.cells (g := g) rfl j _ h1, List.getElem_map]
      have h3 : (UInt8.ofNat l[j]).toNat = l[j] := UInt8.toNat_ofNat_of_lt' (hb _ (List.getElem_mem hj'))
      rw [h3])
    rw [List.length_map, hl] at hx
    exact hx

end Go.Proofs.Ytdaipfmckonfpaa
namespace Go.Proofs.Ytdaipfmckonfpaa
open Go.RowKit

/-- one more bit behind a list of the call's own -/
theorem OwnB.more {B g cap : Nat} {w0 w w2 : World} {x : Value} {bl : List Bool} {bit : Bool} {o : Obj} (h : OwnB B w x bl) (hb : Below B w0 w) (hB : B ≤ w.heap.size) (hown : w2.ownsRow B 4 1 (.slice (some ⟨g, 0, none⟩) (bl.length + 1) cap) (bl.length + 1) (bls bl ++ [.bool bit]))
    (hgrow : (w.alloc o).grownBy w2 x.ownBlock) : OwnB B w2 (.slice (some ⟨g, 0, none⟩) (bl.length + 1) cap) (bl ++ [bit]) ∧ Below B w0 w2 := by
  refine ⟨⟨?_, fun h => by simp at h⟩, (hb.alloc hB _).grown hgrow (by simp; omega) (fun r hr => (h.1.lt r hr).1)⟩
  rw [List.length_append, bls_append]
  exact hown

end Go.Proofs.Ytdaipfmckonfpaa
namespace Go.Proofs.Ytdaipfmckonfpaa
open Go.RowKit

theorem own_down {B B' : Nat} {e : TypeId} {size n : Nat} {w : World} {x : Value} {xs : List Value} (h : w.ownsRow B e size x n xs) (hb : B' ≤ B) : w.ownsRow B' e size x n xs := by
  refine ⟨h.1, ?_⟩
  rcases h.2 with h0 | ⟨g, cap, cur, rfl, h1, h2⟩
  · exact .inl h0
  · exact .inr ⟨g, cap, cur, rfl, Nat.le_trans hb h1, h2⟩

end Go.Proofs.Ytdaipfmckonfpaa
namespace Go.Proofs.Ytdaipfmckonfpaa
open Go.RowKit


/-- bytes that lie in a row of rows -/
structure RowB where
  A : Option Addr
  cap : Nat
  bs : List Nat
def RowB.ok (W : World) (r : RowB) : Prop := Src W r.A (bts r.bs) ∧ r.bs.length ≤ r.cap ∧ r.cap ≤ 9223372036854775807 ∧ ∀ b ∈ r.bs, b < 256
def RowB.v (r : RowB) : Value := .slice r.A r.bs.length r.cap
def RSrc (W : World) (A : Option Addr) (L : List RowB) : Prop :=
  0 < L.length → ∃ ad, A = some ad ∧ ∀ k r, L[k]? = some r → W.cell? (ad.add k) = some r.v ∧ r.ok W
def texts (L : List RowB) : List (List Nat) := L.map fun r => r.bs
theorem src_later {w v : World} {A : Option Addr} {xs : List Value} (h : Src w A xs) (hb : Below w.heap.size w v) : Src v A xs := by
  intro h0
  obtain ⟨ad, rfl, hc⟩ := h h0
  exact ⟨ad, rfl, fun j u hu => cell_below hb (hc j u hu)⟩
theorem RowB.ok.later {w v : World} {r : RowB} (h : r.ok w) (hb : Below w.heap.size w v) : r.ok v := ⟨src_later h.1 hb, h.2⟩
theorem RSrc.later {w v : World} {A : Option Addr} {L : List RowB} (h : RSrc w A L) (hb : Below w.heap.size w v) : RSrc v A L := by
  intro h0
  obtain ⟨ad, hA, hc⟩ := h h0
  exact ⟨ad, hA, fun k r hr => ⟨cell_below hb (hc k r hr).1, (hc k r hr).2.later hb⟩⟩
theorem RSrc.take {w : World} {A : Option Addr} {L : List RowB} (h : RSrc w A L) (n : Nat) : RSrc w A (L.take n) := by
  intro h0
  obtain ⟨ad, hA, hc⟩ := h (by rw [List.length_take] at h0; omega)
  refine ⟨ad, hA, fun k r hr => hc k r ?_⟩
  rw [List.getElem?_take] at hr
  split at hr
  · exact hr
  · cases hr

end Go.Proofs.Ytdaipfmckonfpaa
namespace Go.Proofs.Ytdaipfmckonfpaa
open Go.RowKit

end Go.Proofs.Ytdaipfmckonfpaa
namespace Go.Proofs.Ytdaipfmckonfpaa
open Go.RowKit


/-- a part as it lies in memory -/
structure PartM where
  id : Int
  r : RowB
def PartM.v (m : PartM) : Value := .agg #[.int .i64 m.id, m.r.v]
def XSrc (W : World) (A : Option Addr) (L : List PartM) : Prop :=
  0 < L.length → ∃ b o, A = some ⟨b, o, none⟩ ∧ ∀ (k : Nat) (m : PartM), L[k]? = some m → W.cell? ⟨b, o + k * 2, none⟩ = some (.int .i64 m.id) ∧ W.cell? ⟨b, o + k * 2 + 1, none⟩ = some m.r.v ∧ m.r.ok W
theorem XSrc.later {w v : World} {A : Option Addr} {L : List PartM} (h : XSrc w A L) (hb : Below w.heap.size w v) : XSrc v A L := fun h0 => by
  obtain ⟨b, o, h1, h2⟩ := h h0
  exact ⟨b, o, h1, fun k m hm => by
    obtain ⟨a, b, c⟩ := h2 k m hm
    exact ⟨cell_below hb a, cell_below hb b, c.later hb⟩⟩
def badP (id : Int) (n : Nat) : Bool := decide (id < 1) || decide (31 < id) || decide (n < 1) || decide (2047 < n)
def bad (m : PartM) : Bool := badP m.id m.r.bs.length
set_option maxRecDepth 100000 in
set_option maxHeartbeats 800000 in
theorem wrong_any {A : Option Addr} (id : Int) (n c : Nat) (w : World) (hn : n ≤ 9223372036854775807) :
    Calls Try.prog 133 #[.agg #[.int .i64 id, .slice A n c]] w fun e w' => e = .returned (.bool (badP id n)) ∧ Below w.heap.size w w' := by
  unfold badP
  have HB := Lib.hid (bl_alloc (Below.refl w.heap.size w) (.cells #[.int .i64 id, .slice A n c] 57))
  by_cases h1 : id < 1
  · rw [decide_eq_true h1]
    go_enter Try.func133, Try.ntmps133
    go_wp2
    go_ret
    exact ⟨rfl, HB.out⟩
  · rw [decide_eq_false h1]
    by_cases h2 : 31 < id
    · rw [decide_eq_true h2]
      go_enter Try.func133, Try.ntmps133
      go_wp2
      go_ret
      exact ⟨rfl, HB.out⟩
    · rw [decide_eq_false h2]
      by_cases h3 : n < 1
      · rw [decide_eq_true h3]
        have h3' : (n : Int) < 1 := by omega
        go_enter Try.func133, Try.ntmps133
        go_wp2
        go_ret
        exact ⟨rfl, HB.out⟩
      · rw [decide_eq_false h3]
        have h3' : ¬ (n : Int) < 1 := by omega
        by_cases h4 : 2047 < n
        · rw [decide_eq_true h4]
          have h4' : (2047 : Int) < (n : Int) := by omega
          go_enter Try.func133, Try.ntmps133
          go_wp2
          go_ret
          exact ⟨rfl, HB.out⟩
        · rw [decide_eq_false h4]
          have h4' : ¬ (2047 : Int) < (n : Int) := by omega
          go_enter Try.func133, Try.ntmps133
          go_wp2
          go_ret
          exact ⟨rfl, HB.out⟩
set_option maxRecDepth 100000 in
set_option maxHeartbeats 1600000 in
theorem midx_any {A : Option Addr} {L : List PartM} (n cap : Nat) (w : World) (hL : L.length = n) (hn : n ≤ 1000) (hs : XSrc w A L) :
    Calls Try.prog 177 #[.slice A n cap, .func (.func 133) #[] #[]] w fun e w' => (∃ i : Int, e = .returned (.int .i64 i) ∧ (decide (0 ≤ i) = L.any bad)) ∧ Below w.heap.size w w' := by
  have HE := Lib.hid (fun (A : Option Addr) (id : Int) (m c : Nat) (w : World) h => wrong_any (A := A) id m c w h)
  have HS := Lib.hid hs
  have HL := Lib.hid hL
  clear hs hL
  go_enter Try.func177, Try.ntmps177
  go_wp2
  go_loopw [8] (fun i wr => ∃ k : Nat, k ≤ n ∧ i = .int .i64 k ∧ Hid (L.any bad = (L.drop k).any bad) ∧ Hid (Below w.heap.size w wr)) (fun i _ => n - (intOf i).toNat)
  case atStart => exact ⟨0, by omega, rfl, Lib.hid (by simp), Lib.hid (Below.refl _ _)⟩
  case round =>
    obtain ⟨k, hk, rfl, HK, HB⟩ := hrel
    by_cases hlt : k < n
    · obtain ⟨ab, ao, rfl, hc⟩ := HS.out (by rw [HL.out]; omega)
      obtain ⟨⟨id, ⟨RA, rcap, bs⟩⟩, hr⟩ : ∃ r, L[k]? = some r := ⟨_, List.getElem?_eq_getElem (by rw [HL.out]; exact hlt)⟩
      obtain ⟨e0, e1, e2⟩ := hc k _ hr
      have f0 := cell_below HB.out e0
      have f1 := cell_below HB.out e1
      simp only [RowB.v] at f0 f1
      have HD := Lib.hid (show L.drop k = ⟨id, ⟨RA, rcap, bs⟩⟩ :: L.drop (k + 1) by
        obtain ⟨h1, h2⟩ := List.getElem?_eq_some_iff.1 hr
        rw [List.drop_eq_getElem_cons h1, h2])
      have HN := Lib.hid (show bs.length ≤ 9223372036854775807 from Nat.le_trans e2.2.1 e2.2.2.1)
      have hkI : (k : Int) < (n : Int) := by omega
      clear hc hr e0 e1 e2
      cases hz : badP id bs.length
      · go_wp2_with (go_at_call 133; (with_reducible refine (HE.out _ _ _ _ _ HN.out).mono ?_); rintro e w1 ⟨rfl, hb⟩; rw [hz])
        go_roundw
        case rel => exact ⟨k + 1, by omega, by go_num, Lib.hid (by rw [HK.out, HD.out, List.any_cons, show bad ⟨id, ⟨RA, rcap, bs⟩⟩ = false from hz, Bool.false_or]), Lib.hid (bl_step HB.out hb)⟩
        case measure => simp [intOf]; omega
      · have HF := Lib.hid (show decide (0 ≤ (k : Int)) = L.any bad from by
          rw [decide_eq_true (by omega : 0 ≤ (k : Int)), HK.out, HD.out, List.any_cons, show bad ⟨id, ⟨RA, rcap, bs⟩⟩ = true from hz, Bool.true_or])
        go_wp2_with (go_at_call 133; (with_reducible refine (HE.out _ _ _ _ _ HN.out).mono ?_); rintro e w1 ⟨rfl, hb⟩; rw [hz])
        go_ret
        exact ⟨⟨_, rfl, HF.out⟩, bl_step HB.out hb⟩
    · have hkn : k = n := by omega
      subst hkn
      have HF := Lib.hid (show decide (0 ≤ (-1 : Int)) = L.any bad from by
        rw [HK.out, List.drop_of_length_le (by rw [HL.out]; exact Nat.le_refl _)]; rfl)
      go_wp2
      go_ret
      exact ⟨⟨_, rfl, HF.out⟩, HB.out⟩
theorem mcontains_any {A : Option Addr} {L : List PartM} (n cap : Nat) (w : World) (hL : L.length = n) (hn : n ≤ 1000) (hs : XSrc w A L) :
    Calls Try.prog 132 #[.slice A n cap, .func (.func 133) #[] #[]] w fun e w' => e = .returned (.bool (L.any bad)) ∧ Below w.heap.size w w' := by
  have HI := Lib.hid (midx_any n cap w hL hn hs)
  generalize L.any bad = z at *
  clear hs hL
  go_enter Try.func132, Try.ntmps132
  go_wp2_with (go_at_call 177; (with_reducible refine (HI.out).mono ?_); rintro e w1 ⟨⟨i, rfl, hi⟩, hb⟩; (have HZ := Lib.hid hi; clear hi))
  go_ret
  exact ⟨by rw [← HZ.out]; rfl, hb⟩
/-- how many bytes parts have -/
def psum (ls : List Nat) : Nat := (ls.map (2 + ·)).sum
def plens (L : List PartM) : List Nat := L.map fun m => m.r.bs.length
theorem psum_snoc (ls : List Nat) (n : Nat) : psum (ls ++ [n]) = psum ls + (2 + n) := by simp [psum]
theorem plens_take {L : List PartM} {k : Nat} {m : PartM} (h : L[k]? = some m) : plens (L.take (k + 1)) = plens (L.take k) ++ [m.r.bs.length] := by
  rw [List.take_add_one, h]; simp [plens]
set_option maxRecDepth 100000 in
set_option maxHeartbeats 1600000 in
theorem msize_any {A : Option Addr} {L : List PartM} (n cap : Nat) (w : World) (hL : L.length = n) (hn : n ≤ 1000) (hs : XSrc w A L) (hd : ∀ m ∈ L, m.r.bs.length ≤ 100000) :
    Calls Try.prog 80 #[.slice A n cap] w fun e w' => e = .returned (.int .i64 ((2 + psum (plens L) : Nat) : Int)) ∧ Below w.heap.size w w' := by
  have HS := Lib.hid hs
  have HL := Lib.hid hL
  have HD := Lib.hid hd
  clear hs hL hd
  go_enter Try.func80, Try.ntmps80
  go_wp2
  go_loopw [3, 8] (fun s i wr => ∃ k t : Nat, k ≤ n ∧ i = .int .i64 k ∧ s = .int .i64 t ∧ t ≤ 2 + 100002 * k ∧ Hid (t = 2 + psum (plens (L.take k))) ∧ Hid (Below w.heap.size w wr)) (fun _ i _ => n - (intOf i).toNat)
  case atStart => exact ⟨0, 2, by omega, rfl, rfl, by omega, Lib.hid rfl, Lib.hid (Below.refl _ _)⟩
  case round =>
    obtain ⟨k, t, hk, rfl, rfl, ht, HK, HB⟩ := hrel
    by_cases hlt : k < n
    · obtain ⟨ab, ao, rfl, hc⟩ := HS.out (by rw [HL.out]; omega)
      obtain ⟨⟨id, ⟨RA, rcap, bs⟩⟩, hr⟩ : ∃ r, L[k]? = some r := ⟨_, List.getElem?_eq_getElem (by rw [HL.out]; exact hlt)⟩
      obtain ⟨e0, e1, e2⟩ := hc k _ hr
      have f0 := cell_below HB.out e0
      have f1 := cell_below HB.out e1
      simp only [RowB.v] at f0 f1
      have hm := HD.out _ (List.mem_of_getElem? hr)
      simp only at hm
      have HT := Lib.hid (plens_take hr)
      simp only at HT
      have hkI : (k : Int) < (n : Int) := by omega
      have R1 := Row.made wr 57 #[.int .i64 id, .slice RA bs.length rcap]
      have r1 := R1.read (i := 1) rfl
      clear hc hr e0 e1 e2 R1
      go_wp2
      go_roundw
      case rel => exact ⟨k + 1, t + (2 + bs.length), by omega, by go_num, by go_num, by omega, Lib.hid (by rw [HT.out, psum_snoc, HK.out]; omega), Lib.hid (bl_alloc HB.out _)⟩
      case measure => simp [intOf]; omega
    · have hkn : k = n := by omega
      subst hkn
      have HF := Lib.hid (show t = 2 + psum (plens L) by rw [HK.out, List.take_of_length_le (by rw [HL.out]; exact Nat.le_refl _)])
      go_wp2
      go_ret
      exact ⟨by rw [HF.out]; rfl, HB.out⟩
end Go.Proofs.Ytdaipfmckonfpaa
