/-
  Which packets of amd may be, and how many bytes they are: Size and Right. A packet's bytes. A head of amd is put bit by bit. Bytes cut into fields: plain lists. Bytes cut into fields of a call's own. Bytes cut into fields of a call's own: the loop. The fields behind a head, read. The packet that bytes are. How many bytes a head of amd has. A head of amd is written: its bytes, of each width, of a part or not. A packet of amd is written: its bytes, or why it has none. A head of amd is got bit by bit. A head of amd is read: what it tells, of each width, of a part or not. A head of amd is read: what it tells, of each width, of a part or not. A head of amd is read: what it tells, of each width, of a part or not. A head of amd is read: what it tells, of each width, of a part or not. The packet of amd that bytes are. The packet of amd that bytes are: Read walked. The packet of amd that bytes are: Read walked to its end. The packet of amd that bytes are: whatever the bytes. Fields go there and back: plain lists. A packet of umd goes there and back: plain lists. A packet of amd goes there and back: plain lists. A packet of amd goes there and back: plain lists, its fields too. The packet that bytes are, of 5 bits. The packet that bytes are, of 10 bits. What umd answers to fixed calls. What amd answers to fixed calls. Are fields too much for a statement?. A byte more in the last field: plain numbers. UmdGrows: with a byte more in its last field a packet has a byte more: the law walked. AmdHeads: how many bytes a packet of amd has, and one with a field more: plain numbers; its data. Whether two packets of amd are equal, as the code and the document say. reseg: a part's least, how many bytes a packet has, where a field ends.
-/
import Derived.Test.YtdaipfmckonfpaaJSentCounts03
import Derived.Deep.RegionHeld3
import Derived.Test.YtdaipfmckonfpaaJSentCounts02
import Derived.Test.YtdaipfmckonfpaaJSentCounts01
import Derived.DataElems
import Derived.Laws.ResultCell
namespace Go.Proofs.Ytdaipfmckonfpaa
open Go.RowKit

theorem headA_code {part : Bool} {wd : Int} (h : wd = 10 ∨ wd = 16) : 2 ≤ headA part wd ∧ headA part wd ≤ 5 := by
  unfold headA
  rcases h with rfl | rfl <;> cases part <;> decide
theorem placed_below (poll part last : Bool) (fi sn off wd : Int) (s : Value) (w : World) (hw : wd = 10 ∨ wd = 16) :
    Calls Try.prog 166 #[.agg #[.bool poll, .int .i64 fi, .int .i64 sn, .bool part, .bool last, .int .i64 off, s], .int .i64 wd] w fun e w' => e = .returned (.bool (placedA part last off wd)) ∧ Below w.heap.size w w' := by
  refine (placed_one poll part last fi sn off wd s w hw).mono ?_
  rintro e w' ⟨rfl, k, rfl⟩
  exact ⟨rfl, below_drewN (bl_alloc (Below.refl _ _) _) k⟩
theorem cells_amd {w w' : World} {g : Nat} {a b c d e f s : Value} (hr : Row w g 61 #[a, b, c, d, e, f, s]) (hb : Below w.heap.size w w') :
    w'.cell? ⟨g, 0, none⟩ = some a ∧ w'.cell? ⟨g, 1, none⟩ = some b ∧ w'.cell? ⟨g, 2, none⟩ = some c ∧ w'.cell? ⟨g, 3, none⟩ = some d ∧ w'.cell? ⟨g, 4, none⟩ = some e ∧ w'.cell? ⟨g, 5, none⟩ = some f ∧ w'.cell? ⟨g, 6, none⟩ = some s :=
  ⟨(hr.later hb).read rfl, (hr.later hb).read rfl, (hr.later hb).read rfl, (hr.later hb).read rfl, (hr.later hb).read rfl, (hr.later hb).read rfl, (hr.later hb).read rfl⟩
set_option maxRecDepth 100000 in
set_option maxHeartbeats 3200000 in
theorem asize_any {A : Option Addr} {L : List RowB} (poll part last : Bool) (fi sn off wd : Int) (n cap : Nat) (w : World) (hL : L.length = n) (hn : n ≤ 9223372036854775807) (hs : RSrc w A L) (hm : ∀ m ∈ lens L, m ≤ 9223372036854775807) :
    Calls Try.prog 111 #[.agg #[.bool poll, .int .i64 fi, .int .i64 sn, .bool part, .bool last, .int .i64 off, .slice A n cap], .int .i64 wd] w (fun e w' => e = .returned (.int .i64 (amdF part last fi sn off (lens L) wd)) ∧ Below w.heap.size w w') := by
  have HSH := Lib.hid (fun W => ahead_any part wd W)
  have HZ := Lib.hid (fun W (hb : Below w.heap.size w W) => fsize_any n cap (lwA wd) W hL hn (hs.later hb) hm)
  have hz : 0 ≤ szF (lens L) (lwA wd) ∧ szF (lens L) (lwA wd) ≤ 100000 := by
    rcases szF_pos (ls := lens L) (wd := lwA wd) with h | h <;> omega
  have HI := Lib.hid (fun W => sqis_any wd sn W)
  have HLE := Lib.hid (fun W => alen_any wd W)
  have hF : amdF part last fi sn off (lens L) wd = if (wd = 10 ∨ wd = 16) ∧ 0 ≤ fi ∧ fi ≤ 3 ∧ okn wd sn = true ∧ placedA part last off wd = true then (if szF (lens L) (lwA wd) = 0 ∨ 4000 < headA part wd + szF (lens L) (lwA wd) then 0 else headA part wd + szF (lens L) (lwA wd)) else 0 := by
    unfold amdF
    rw [fieldsF_code]
  generalize szF (lens L) (lwA wd) = z at *
  generalize amdF part last fi sn off (lens L) wd = F at *
  generalize lwA wd = lw at *
  obtain ⟨hz0, hz1⟩ := hz
  clear hs hm hL
  by_cases hw : wd = 10 ∨ wd = 16
  · obtain ⟨hd2, hd3⟩ := headA_code (part := part) hw
    have HPL := Lib.hid (fun W => placed_below poll part last fi sn off wd (.slice A n cap) W hw)
    have hF2 : F = if 0 ≤ fi ∧ fi ≤ 3 ∧ okn wd sn = true ∧ placedA part last off wd = true then (if z = 0 ∨ 4000 < headA part wd + z then 0 else headA part wd + z) else 0 := by
      rw [hF]
      by_cases h : 0 ≤ fi ∧ fi ≤ 3 ∧ okn wd sn = true ∧ placedA part last off wd = true
      · rw [if_pos ⟨hw, h⟩, if_pos h]
      · rw [if_neg (fun h2 => h h2.2), if_neg h]
    clear hF hw
    generalize headA part wd = hd at *
    generalize placedA part last off wd = pl at *
    have h0 : (hd == 0) = false := by simp; omega
    have HF2 := Lib.hid hF2
    clear hF2
    have ROW0 := Lib.hid (Row.made w 61 #[.bool poll, .int .i64 fi, .int .i64 sn, .bool part, .bool last, .int .i64 off, .slice A n cap])
    have HB0 := Lib.hid (bl_drew (bl_alloc (Below.refl w.heap.size w) (.cells #[.bool poll, .int .i64 fi, .int .i64 sn, .bool part, .bool last, .int .i64 off, .slice A n cap] 61)))
    have d0 : (w.alloc (.cells #[.bool poll, .int .i64 fi, .int .i64 sn, .bool part, .bool last, .int .i64 off, .slice A n cap] 61)).drew.cell? ⟨w.heap.size, 6, none⟩ = some (.slice A n cap) := ROW0.out.read (i := 6) rfl
    go_enter Try.func111, Try.ntmps111
    go_wp2_with (go_at_call 87; refine (HSH.out _).mono ?_; rintro e w1 ⟨rfl, rfl⟩)
    go_region_held3 (fun w' => w'.cell? ⟨w.heap.size, 6, none⟩ = some (.slice A n cap)) (first | assumption | go_keep) (first
      | (go_at_call 116; (with_reducible refine (HLE.out _).mono ?_); rintro e v1 ⟨rfl, rfl⟩)
      | (go_at_call 164; (with_reducible refine (HZ.out _ HB0.out).mono ?_); rintro e w2 ⟨rfl, hb2⟩; have k2 := (ROW0.out.later (bl_drew (Below.refl _ _))).later hb2; have c6 := k2.read (i := 6) rfl))
    obtain ⟨c0, c1, c2, c3, c4, c5, _⟩ := cells_amd k2 (Below.refl _ _)
    have HB2 := Lib.hid (HB0.out.trans (hb2.mono HB0.out.size))
    have K2 := Lib.hid k2
    clear hb2 k2
    rcases Decidable.em (z = 0) with hz2 | hz2
    · have HF := Lib.hid (show F = 0 by rw [HF2.out]; split <;> simp [hz2])
      subst hz2
      go_wp2
      go_ret
      exact ⟨ret_int (by rw [HF.out]), HB2.out⟩
    · have hz3 : (z == 0) = false := by simpa using hz2
      rcases Decidable.em (4000 < hd + z) with hz4 | hz4
      · have HF := Lib.hid (show F = 0 by rw [HF2.out]; split <;> simp [hz4])
        clear hz2
        go_wp2
        go_ret
        exact ⟨ret_int (by rw [HF.out]), HB2.out⟩
      · have HF3 := Lib.hid (show F = if 0 ≤ fi ∧ fi ≤ 3 ∧ okn wd sn = true ∧ pl = true then hd + z else 0 by
          rw [HF2.out, if_neg (show ¬ (z = 0 ∨ 4000 < hd + z) by omega)])
        clear hz2
        rcases Decidable.em (fi < 0) with hfi | hfi
        · have HF := Lib.hid (show F = 0 by rw [HF3.out, if_neg (by omega)])
          go_wp2
          go_ret
          exact ⟨ret_int (by rw [HF.out]), HB2.out⟩
        · rcases Decidable.em (3 < fi) with hfi2 | hfi2
          · have HF := Lib.hid (show F = 0 by rw [HF3.out, if_neg (by omega)])
            go_wp2
            go_ret
            exact ⟨ret_int (by rw [HF.out]), HB2.out⟩
          · cases hi : okn wd sn
            · have HF := Lib.hid (show F = 0 by rw [HF3.out, if_neg (by rw [hi]; simp)])
              rw [hi] at HI
              clear hi
              go_wp2_with (go_at_call 165; refine (HI.out _).mono ?_; rintro e w3 ⟨rfl, hb3⟩)
              go_ret
              exact ⟨ret_int (by rw [HF.out]), HB2.out.trans (hb3.mono HB2.out.size)⟩
            · cases pl
              · have HF := Lib.hid (show F = 0 by rw [HF3.out, if_neg (by simp)])
                rw [hi] at HI
                clear hi
                go_wp2_with (first
                  | (go_at_call 165; refine (HI.out _).mono ?_; rintro e w3 ⟨rfl, hb3⟩; obtain ⟨e0, e1, e2, e3, e4, e5, e6⟩ := cells_amd K2.out hb3; have HB3 := Lib.hid (HB2.out.trans (hb3.mono HB2.out.size)); clear hb3)
                  | (go_at_call 166; refine (HPL.out _).mono ?_; rintro e w4 ⟨rfl, hb4⟩))
                go_ret
                exact ⟨ret_int (by rw [HF.out]), HB3.out.trans (hb4.mono HB3.out.size)⟩
              · have HF := Lib.hid (show F = hd + z by rw [HF3.out, if_pos ⟨by omega, by omega, hi, rfl⟩])
                rw [hi] at HI
                clear hi
                go_wp2_with (first
                  | (go_at_call 165; refine (HI.out _).mono ?_; rintro e w3 ⟨rfl, hb3⟩; obtain ⟨e0, e1, e2, e3, e4, e5, e6⟩ := cells_amd K2.out hb3; have HB3 := Lib.hid (HB2.out.trans (hb3.mono HB2.out.size)); clear hb3)
                  | (go_at_call 166; refine (HPL.out _).mono ?_; rintro e w4 ⟨rfl, hb4⟩))
                go_ret
                exact ⟨ret_int (by rw [HF.out]), HB3.out.trans (hb4.mono HB3.out.size)⟩
  · have HF := Lib.hid (show F = 0 by rw [hF, if_neg (fun h => hw h.1)])
    have hh : headA part wd = 0 := by unfold headA; rw [if_neg (fun h => hw (.inl h)), if_neg (fun h => hw (.inr h))]
    rw [hh] at HSH
    clear hF hw hh
    go_enter Try.func111, Try.ntmps111
    go_wp2_with (go_at_call 87; refine (HSH.out _).mono ?_; rintro e w1 ⟨rfl, rfl⟩)
    go_ret
    exact ⟨ret_int (by rw [HF.out]), bl_alloc (Below.refl _ _) _⟩
set_option maxRecDepth 100000 in
set_option maxHeartbeats 800000 in
theorem aright_any {A : Option Addr} {L : List RowB} (poll part last : Bool) (fi sn off wd : Int) (n cap : Nat) (w : World) (hL : L.length = n) (hn : n ≤ 9223372036854775807) (hs : RSrc w A L) (hm : ∀ m ∈ lens L, m ≤ 9223372036854775807) :
    Calls Try.prog 52 #[.agg #[.bool poll, .int .i64 fi, .int .i64 sn, .bool part, .bool last, .int .i64 off, .slice A n cap], .int .i64 wd] w (fun e w' => e = .returned (.bool (decide (0 < amdF part last fi sn off (lens L) wd))) ∧ Below w.heap.size w w') := by
  have HZ := Lib.hid (fun W (hb : Below w.heap.size w W) => asize_any (A := A) poll part last fi sn off wd n cap W hL hn (hs.later hb) hm)
  generalize amdF part last fi sn off (lens L) wd = F at *
  clear hs hm hL
  go_enter Try.func52, Try.ntmps52
  go_wp2_with (go_at_call 111; refine (HZ.out _ (bl_alloc (Below.refl _ _) _)).mono ?_; rintro e w2 ⟨rfl, hb2⟩)
  go_ret
  exact ⟨rfl, (bl_alloc (Below.refl w.heap.size w) _).trans (hb2.mono (by simp))⟩
end Go.Proofs.Ytdaipfmckonfpaa
namespace Go.Proofs.Ytdaipfmckonfpaa
open Go.RowKit


end Go.Proofs.Ytdaipfmckonfpaa
namespace Go.Proofs.Ytdaipfmckonfpaa
open Go.RowKit

/-- a writer in a cell that a closure holds, while numbers are put -/
structure WrSt (B : Nat) (w0 : World) (pr p : Nat) (kp : List (Nat × Nat)) (t : Nat) (w : World) : Prop where
  rep : ∃ sv, WRep B w p sv (bitsP kp)
  cell : Row w pr 184 #[.pointer (some ⟨p, 0, none⟩)]
  below : Below B w0 w
  size : B ≤ w.heap.size
  len : (bitsP kp).length = t
end Go.Proofs.Ytdaipfmckonfpaa
namespace Go.Proofs.Ytdaipfmckonfpaa


/-- bytes cut into fields of these lengths, and a last one of what is left -/
def cutF : List Nat → List Nat → Option (List (List Nat))
  | bs, [] => if bs = [] then none else some [bs]
  | bs, m :: r => if m ≤ bs.length then (cutF (bs.drop m) r).map (bs.take m :: ·) else none
/-- behind fields that were cut the rest comes to what all comes to -/
def CInv (bs ls : List Nat) (acc : List (List Nat)) (c : Nat) : Prop := acc.length ≤ ls.length ∧ c ≤ bs.length ∧ cutF bs ls = (cutF (bs.drop c) (ls.drop acc.length)).map (acc ++ ·)
section
variable {bs ls : List Nat} {acc : List (List Nat)} {c m : Nat}
theorem CInv.next (h : CInv bs ls acc c) (hm : ls[acc.length]? = some m) (h2 : m ≤ bs.length - c) : CInv bs ls (acc ++ [(bs.drop c).take m]) (c + m) := by
  obtain ⟨h0, h1, h⟩ := h
  obtain ⟨hk, rfl⟩ := List.getElem?_eq_some_iff.1 hm
  refine ⟨by simp; omega, by omega, ?_⟩
  rw [h, List.drop_eq_getElem_cons hk, cutF, if_pos (by rw [List.length_drop]; omega), List.drop_drop, List.length_append, List.length_singleton]
  cases cutF (bs.drop (c + ls[acc.length])) (ls.drop (acc.length + 1)) <;> simp
theorem CInv.last (h : CInv bs ls acc c) (hm : acc.length = ls.length) (h2 : bs.length - c ≠ 0) : cutF bs ls = some (acc ++ [bs.drop c]) := by
  obtain ⟨h0, h1, h⟩ := h
  have h3 : bs.drop c ≠ [] := fun e => h2 (by rw [← List.length_drop, e]; rfl)
  have h4 : cutF (bs.drop c) [] = some [bs.drop c] := by unfold cutF; rw [if_neg h3]
  rw [h, List.drop_of_length_le (l := ls) (by omega), h4]
  rfl
end
end Go.Proofs.Ytdaipfmckonfpaa
namespace Go.Proofs.Ytdaipfmckonfpaa
open Go.RowKit


/-- bytes in a block of the call's own -/
def RowB.mine (B : Nat) (w : World) (r : RowB) : Prop := (∃ g cs, r.A = some ⟨g, 0, none⟩ ∧ B ≤ g ∧ Row w g 5 cs ∧ ∀ (j b : Nat), r.bs[j]? = some b → cs[j]? = some (Value.int .u8 b)) ∧ r.bs.length ≤ r.cap ∧ r.cap ≤ 9223372036854775807 ∧ ∀ b ∈ r.bs, b < 256
theorem RowB.mine.ok {B : Nat} {w : World} {r : RowB} (h : r.mine B w) : r.ok w := by
  obtain ⟨⟨g, cs, h1, h2, h3, h4⟩, h5⟩ := h
  refine ⟨fun _ => ⟨_, h1, fun j u hu => ?_⟩, h5⟩
  rw [add_zero_addr]
  simp only [bts, List.getElem?_map, Option.map_eq_some_iff] at hu
  obtain ⟨b, hb, rfl⟩ := hu
  exact h3.read (h4 j b hb)
theorem RowB.mine.only {B : Nat} {w v : World} {r : RowB} {S : Nat → Prop} (h : r.mine B w) (ho : Only S w v) (hS : ∀ k cs, Row w k 5 cs → B ≤ k → ¬ S k) : r.mine B v := by
  obtain ⟨⟨g, cs, h1, h2, h3, h4⟩, h5⟩ := h
  exact ⟨⟨g, cs, h1, h2, h3.only ho (hS g cs h3 h2), h4⟩, h5⟩
theorem RowB.mine.down {B B' : Nat} {w : World} {r : RowB} (h : r.mine B w) (hb : B' ≤ B) : r.mine B' w := by
  obtain ⟨⟨g, cs, h1, h2, h3, h4⟩, h5⟩ := h
  exact ⟨⟨g, cs, h1, by omega, h3, h4⟩, h5⟩
theorem Try.info42 : (Try.prog.info? 42).map (fun i => (i.zero, i.size, i.bytes)) = some (some (.slice none 0 0), 1, 24) := by kernel_rfl
set_option maxRecDepth 100000 in
/-- one row more -/
theorem app_row {B n : Nat} {w : World} {v : Value} {xs : List Value} (h : w.ownsRow B 42 1 v n xs) (hB : B ≤ w.heap.size) (r : RowB) (hl : n ≤ 1000000) :
    ∃ g c w3, (Builtin.append_ #[59, 59] 59 #[v, .slice (some ⟨w.heap.size, 0, none⟩) 1 1]).run Try.prog (w.alloc (.cells #[.slice r.A r.bs.length r.cap] 42)) = .ok (.slice (some ⟨g, 0, none⟩) (n + 1) c) w3 ∧
      w3.ownsRow B 42 1 (.slice (some ⟨g, 0, none⟩) (n + 1) c) (n + 1) (xs ++ [r.v]) ∧ Only (fun k => v.ownBlock = some k) w w3 := by
  obtain ⟨i0, hi, hi0, hi1, hi2⟩ := info_parts Try.info42
  obtain ⟨g, cap, w3, hr3, h2, h3, _, _⟩ := run_append_lies (P := Try.prog) (w.alloc (.cells #[r.v] 42)) 59 59 B 42 i0 _ 1 24 Try.underlying59 hi hi0 hi1 hi2 rfl (by omega) v n _ (h.alloc _) ⟨w.heap.size, 0, none⟩ 1 1 [r.v] rfl
    (World.news_of_block (cs := #[r.v]) (heap_alloc_new w _)) (by intro u hu; simp at hu; rw [hu]; rfl) (by omega) (by unfold maxLen; omega) (by omega) (by simp; omega) _ rfl
  exact ⟨g, cap, w3, hr3, h2, ((Only.refl (fun k => v.ownBlock = some k) w).alloc (.cells #[r.v] 42)).grown h3 (fun k hk => .inl hk)⟩
/-- a list of rows of the call's own, while it grows -/
structure OwnR (B : Nat) (w : World) (v : Value) (L : List RowB) : Prop where
  own : w.ownsRow B 42 1 v L.length (L.map RowB.v)
  mine : ∀ r ∈ L, r.mine B w
section
variable {B : Nat} {w w' : World} {v : Value} {L : List RowB}
theorem OwnR.only {S : Nat → Prop} (h : OwnR B w v L) (ho : Only S w w') (h1 : ∀ k, v.ownBlock = some k → ¬ S k) (h2 : ∀ k cs, Row w k 5 cs → B ≤ k → ¬ S k) : OwnR B w' v L :=
  ⟨own_only h.own ho h1, fun r hr => (h.mine r hr).only ho h2⟩
theorem OwnR.later (h : OwnR B w v L) (hb : Below w.heap.size w w') : OwnR B w' v L := h.only (S := fun _ => False) (.of_below hb) (fun _ _ h => h) (fun _ _ _ _ h => h)
theorem OwnR.form (h : OwnR B w v L) : ∃ A c, v = .slice A L.length c ∧ L.length ≤ c ∧ c ≤ 9223372036854775807 := by
  rcases h.own.2 with ⟨rfl, h0⟩ | ⟨g, cap, cur, rfl, _, _, h1, h2, _⟩
  · exact ⟨none, 0, by rw [h0], by omega, by omega⟩
  · exact ⟨_, cap, rfl, h1, by unfold maxLen at h2; exact h2⟩
theorem OwnR.src {A : Option Addr} {n c : Nat} (h : OwnR B w (.slice A n c) L) : RSrc w A L := by
  intro h0
  obtain ⟨g, cap, hv, _, _⟩ := h.own.form h0
  injection hv with h1 h2 h3
  subst h1
  refine ⟨_, rfl, fun k r hr => ⟨?_, (h.mine r (List.mem_of_getElem? hr)).ok⟩⟩
  exact h.own.cells (g := g) rfl k _ (by rw [List.getElem?_map, hr]; rfl)
theorem OwnR.next (h : OwnR B w v L) (hB : B ≤ w.heap.size) (r : RowB) (hr : r.mine B w) (hl : L.length ≤ 1000000) :
    ∃ g c w3, (Builtin.append_ #[59, 59] 59 #[v, .slice (some ⟨w.heap.size, 0, none⟩) 1 1]).run Try.prog (w.alloc (.cells #[.slice r.A r.bs.length r.cap] 42)) = .ok (.slice (some ⟨g, 0, none⟩) (L.length + 1) c) w3 ∧
      OwnR B w3 (.slice (some ⟨g, 0, none⟩) (L.length + 1) c) (L ++ [r]) ∧ Below B w w3 := by
  obtain ⟨g, c, w3, h1, h2, h3⟩ := app_row h.own hB r hl
  have hne : ∀ k cs, Row w k 5 cs → B ≤ k → ¬ v.ownBlock = some k := fun k cs hk _ => own_apart h.own hk (by decide)
  refine ⟨g, c, w3, h1, ⟨by rw [List.length_append, List.map_append]; exact h2, fun x hx => ?_⟩, own_only_below h.own h3 hB⟩
  rw [List.mem_append, List.mem_singleton] at hx
  rcases hx with hx | rfl
  · exact (h.mine x hx).only h3 hne
  · exact hr.only h3 hne
end
set_option maxRecDepth 100000 in
set_option maxHeartbeats 400000 in
theorem copied_f {A : Option Addr} {l : List Nat} (B n c : Nat) (w : World) (hn : l.length = n) (h0 : 0 < n) (hm : n ≤ 1000000) (hs : Src w A (bts l)) (hb : ∀ b ∈ l, b < 256) (hB : B ≤ w.heap.size) :
    Calls Try.prog 168 #[.slice A n c] w fun e w' => ∃ A', e = .returned (.slice A' n n) ∧ RowB.mine B w' ⟨A', n, l⟩ ∧ Below B w w' := by
  obtain ⟨A', c', W', hrun, hown, hbl, _, _⟩ := app_bytes (B := B) (l := []) (v := .slice none 0 0) n c (World.ownsRow_nil _ _ _ _) hB hs hn (by simp; omega)
  simp only [List.length_nil, Nat.zero_add, List.nil_append] at hrun hown
  rcases hown.2 with ⟨h1, h2⟩ | ⟨g, cap, cur, h1, hBg, hh, hnc, hcm, hsz, htk⟩
  · omega
  · injection h1 with e1 e2 e3
    subst e1 e2 e3
    have HM := Lib.hid (show RowB.mine B W' ⟨some ⟨g, 0, none⟩, l.length, l⟩ from ⟨⟨g, cur, rfl, hBg, hh, fun j b hj => by
      have h9 := bts_at hj
      rw [← htk, List.getElem?_take] at h9
      split at h9
      · simpa using h9
      · cases h9⟩, Nat.le_refl _, by show l.length ≤ _; omega, hb⟩)
    have HBL := Lib.hid hbl
    unfold maxLen at hcm
    clear hs hb hown hh htk hsz hbl
    clear hn
    generalize l.length = n at *
    go_enter Try.func168, Try.ntmps168
    go_wp2_with (at_builtin; refine wpList_run rfl (.const (.slice none 0 0)) (.tmp 4) 42 rfl (.slice none 0 0) (.slice A n c) (by rfl) (by rfl) hrun ?_)
    go_ret
    exact ⟨_, rfl, HM.out, HBL.out⟩
end Go.Proofs.Ytdaipfmckonfpaa
namespace Go.Proofs.Ytdaipfmckonfpaa
open Go.RowKit


theorem bts_take (l : List Nat) (n : Nat) : bts (l.take n) = (bts l).take n := by simp [bts, List.map_take]
theorem src_take {w : World} {A : Option Addr} {l : List Nat} (n : Nat) (h : Src w A (bts l)) : Src w A (bts (l.take n)) := by
  intro h0
  obtain ⟨ad, e, hc⟩ := h (by rw [length_bts] at *; rw [List.length_take] at h0; omega)
  refine ⟨ad, e, fun j u hu => hc j u ?_⟩
  rw [bts_take, List.getElem?_take] at hu
  split at hu
  · exact hu
  · cases hu
theorem src_dropc {w : World} {ad : Addr} {l : List Nat} {c : Nat} (n : Nat) (h : Src w (some ad) (bts (l.drop c))) : Src w (some (ad.add n)) (bts (l.drop (c + n))) := by
  intro h0
  obtain ⟨ad2, e, hc⟩ := h (by rw [length_bts, List.length_drop] at *; omega)
  injection e with e
  subst e
  refine ⟨_, rfl, fun j u hu => ?_⟩
  rw [Addr.add_add]
  refine hc (n + j) u ?_
  unfold bts at hu ⊢
  rw [List.getElem?_map, List.getElem?_drop] at hu ⊢
  rw [show c + (n + j) = c + n + j by omega]
  exact hu
/-- at the jump: the fields so far, and what is left -/
structure CutSt (B : Nat) (w0 : World) (bs ls : List Nat) (c : Nat) (L : List RowB) (v : Value) (Ab : Option Addr) (nb cb : Nat) (w : World) : Prop where
  own : OwnR B w v L
  inv : CInv bs ls (texts L) c
  left : nb = bs.length - c
  room : nb ≤ cb
  small : cb ≤ 9223372036854775807
  src : Src w0 Ab (bts (bs.drop c))
  below : Below B w0 w
section
variable {B : Nat} {w0 w : World} {bs ls : List Nat} {c nb cb : Nat} {L : List RowB} {v : Value} {Ab : Option Addr}
theorem CutSt.len (h : CutSt B w0 bs ls c L v Ab nb cb w) : L.length ≤ ls.length := by
  have := h.inv.1
  rwa [length_texts] at this
end
end Go.Proofs.Ytdaipfmckonfpaa
namespace Go.Proofs.Ytdaipfmckonfpaa
open Go.RowKit


end Go.Proofs.Ytdaipfmckonfpaa
namespace Go.Proofs.Ytdaipfmckonfpaa
open Go.RowKit


theorem OwnR.down {B B' : Nat} {w : World} {v : Value} {L : List RowB} (h : OwnR B w v L) (hb : B' ≤ B) : OwnR B' w v L := ⟨own_down h.own hb, fun r hr => (h.mine r hr).down hb⟩
end Go.Proofs.Ytdaipfmckonfpaa
namespace Go.Proofs.Ytdaipfmckonfpaa
open Go.RowKit

end Go.Proofs.Ytdaipfmckonfpaa
namespace Go.Proofs.Ytdaipfmckonfpaa
open Go.RowKit

theorem WrSt.drew {B pr p t : Nat} {w0 w : World} {kp : List (Nat × Nat)} (h : WrSt B w0 pr p kp t w) : WrSt B w0 pr p kp t w.drew := by
  obtain ⟨sv, h1⟩ := h.rep
  exact ⟨⟨sv, h1.later (bl_drew (Below.refl _ _))⟩, h.cell, h.below.drew, h.size, h.len⟩
end Go.Proofs.Ytdaipfmckonfpaa
namespace Go.Proofs.Ytdaipfmckonfpaa
open Go.RowKit

end Go.Proofs.Ytdaipfmckonfpaa
namespace Go.Proofs.Ytdaipfmckonfpaa
open Go.RowKit

/-- a reader in a cell that a closure holds, and a packet's box, while a head is read -/
structure AdSt (B : Nat) (w0 : World) (pr p g q : Nat) (hd : List Nat) (i : Nat) (cs : Array Value) (w : World) : Prop where
  rd : RRep w p g hd i
  cell : Row w pr 192 #[.pointer (some ⟨p, 0, none⟩)]
  box : Row w q 61 cs
  below : Below B w0 w
  above : B ≤ p ∧ B ≤ q
  size : B ≤ w.heap.size
section
variable {B pr p g q i : Nat} {w0 w : World} {hd : List Nat} {cs : Array Value}
theorem AdSt.set (h : AdSt B w0 pr p g q hd i cs w) (j : Nat) (x : Value) : AdSt B w0 pr p g q hd i (cs.setIfInBounds j x) (w.setCell ⟨q, j, none⟩ x) := by
  have h1 : q ≠ p := h.box.apart h.rd.1 (by decide)
  have h2 : q ≠ g := h.box.apart h.rd.2.1 (by decide)
  have h3 : q ≠ pr := h.box.apart h.cell (by decide)
  refine ⟨⟨h.rd.1.elsewhere (Ne.symm h1) x, h.rd.2.1.elsewhere (Ne.symm h2) x, h.rd.2.2⟩, h.cell.elsewhere (Ne.symm h3) x, h.box.written j x, h.below.setCell h.above.2 x, h.above, ?_⟩
  rw [show (w.setCell ⟨q, j, none⟩ x).heap.size = w.heap.size by simp [World.setCell]]
  exact h.size
end
end Go.Proofs.Ytdaipfmckonfpaa
namespace Go.Proofs.Ytdaipfmckonfpaa
open Go.RowKit

end Go.Proofs.Ytdaipfmckonfpaa
namespace Go.Proofs.Ytdaipfmckonfpaa
open Go.RowKit

end Go.Proofs.Ytdaipfmckonfpaa
namespace Go.Proofs.Ytdaipfmckonfpaa
open Go.RowKit

end Go.Proofs.Ytdaipfmckonfpaa
namespace Go.Proofs.Ytdaipfmckonfpaa
open Go.RowKit

end Go.Proofs.Ytdaipfmckonfpaa
namespace Go.Proofs.Ytdaipfmckonfpaa
open Go.RowKit

/-- what a head tells -/
structure HdA where
  poll : Bool
  part : Bool
  last : Bool
  fi : Nat
  sn : Nat
  off : Nat
def HdA.v (h : HdA) (s : Value) : Value := .agg #[.bool h.poll, .int .i64 h.fi, .int .i64 h.sn, .bool h.part, .bool h.last, .int .i64 h.off, s]
end Go.Proofs.Ytdaipfmckonfpaa
namespace Go.Proofs.Ytdaipfmckonfpaa
open Go.RowKit

end Go.Proofs.Ytdaipfmckonfpaa
namespace Go.Proofs.Ytdaipfmckonfpaa
open Go.RowKit

end Go.Proofs.Ytdaipfmckonfpaa
namespace Go.Proofs.Ytdaipfmckonfpaa
open Go.RowKit

end Go.Proofs.Ytdaipfmckonfpaa
namespace Go.Proofs.Ytdaipfmckonfpaa


theorem lens_texts (L : List RowB) : lens L = (texts L).map List.length := by simp [lens, texts]
end Go.Proofs.Ytdaipfmckonfpaa
namespace Go.Proofs.Ytdaipfmckonfpaa
open Go.RowKit


end Go.Proofs.Ytdaipfmckonfpaa
namespace Go.Proofs.Ytdaipfmckonfpaa
open Go.RowKit

end Go.Proofs.Ytdaipfmckonfpaa
namespace Go.Proofs.Ytdaipfmckonfpaa
open Go.RowKit

end Go.Proofs.Ytdaipfmckonfpaa
namespace Go.Proofs.Ytdaipfmckonfpaa
open Go.RowKit


end Go.Proofs.Ytdaipfmckonfpaa
namespace Go.Proofs.Ytdaipfmckonfpaa
open Go.RowKit


end Go.Proofs.Ytdaipfmckonfpaa
namespace Go.Proofs.Ytdaipfmckonfpaa
open Go.RowKit


theorem ok_of_row {w : World} {g : Nat} {l : List Nat} (h : Row w g 5 (bts l).toArray) (hb : ∀ b ∈ l, b < 256) (hl : l.length ≤ 9223372036854775807) : RowB.ok w ⟨some ⟨g, 0, none⟩, l.length, l⟩ := ⟨row_src h, Nat.le_refl _, hl, hb⟩
theorem rsrc_of {w : World} {g : Nat} {L : List RowB} (h : Row w g 42 (L.map RowB.v).toArray) (hok : ∀ r ∈ L, r.ok w) : RSrc w (some ⟨g, 0, none⟩) L := fun _ => ⟨_, rfl, fun k r hr => ⟨by
  rw [add_zero_addr]
  exact h.read (by rw [List.getElem?_toArray, List.getElem?_map, hr]; rfl), hok r (List.mem_of_getElem? hr)⟩⟩
end Go.Proofs.Ytdaipfmckonfpaa
namespace Go.Proofs.Ytdaipfmckonfpaa
open Go.RowKit

end Go.Proofs.Ytdaipfmckonfpaa
namespace Go.Proofs.Ytdaipfmckonfpaa
open Go.RowKit


/-- what it answers: at least a bound, where it says no -/
def GreatAns (n q : Nat) (w : World) (e : Ending) (w' : World) : Prop := (∃ b, e = .returned (.bool b) ∧ (b = false → n ≤ 40 ∧ q ≤ 9000)) ∧ w = w'
set_option maxRecDepth 100000 in
set_option maxHeartbeats 1600000 in
theorem great_any {A : Option Addr} {L : List RowB} (n cap : Nat) (w : World) (hL : L.length = n) (hn : n ≤ 9223372036854775807) (hs : RSrc w A L) (hm : ∀ m ∈ lens L, m ≤ 9223372036854775807) :
    Calls Try.prog 33 #[.slice A n cap] w (GreatAns n (lens L).sum w) := by
  have HS := Lib.hid hs
  have HL := Lib.hid hL
  have HM := Lib.hid hm
  clear hs hL hm
  go_enter Try.func33, Try.ntmps33
  go_wp2
  go_loopw [3, 4] (fun s i wr => ∃ k q : Nat, k ≤ n ∧ q ≤ 4200 * 41 ∧ i = .int .i64 k ∧ s = .int .i64 q ∧ Hid (q = sumTo (lens L) k ∧ q ≤ 4200 * k ∧ (0 < k → n ≤ 40)) ∧ w = wr) (fun _ i _ => n - (intOf i).toNat)
  case atStart => exact ⟨0, 0, by omega, by omega, rfl, rfl, Lib.hid ⟨by rw [sumTo_zero], by omega, by omega⟩, rfl⟩
  case round =>
    obtain ⟨k, q, hk, hq, rfl, rfl, HK, rfl⟩ := hrel
    by_cases hlt : k < n
    · obtain ⟨ad, rfl, hc⟩ := HS.out (by rw [HL.out]; omega)
      obtain ⟨r, hr⟩ : ∃ r, L[k]? = some r := ⟨_, List.getElem?_eq_getElem (by rw [HL.out]; exact hlt)⟩
      have hcell : w.cell? (ad.add k) = some (.slice r.A r.bs.length r.cap) := (hc k r hr).1
      have HSU := Lib.hid (sumTo_succ (lens_at hr))
      have hlm := HM.out _ (List.mem_of_getElem? (lens_at hr))
      clear hc hr
      generalize r.bs.length = len at *
      by_cases h40 : 40 < n
      · have h40' : (40 : Int) < n := by omega
        go_wp2
        go_ret
        exact ⟨⟨true, rfl, fun h => by cases h⟩, rfl⟩
      · have h40' : ¬ (40 : Int) < n := by omega
        by_cases h42 : 4200 < len
        · have h42' : (4200 : Int) < len := by omega
          go_wp2
          go_ret
          exact ⟨⟨true, rfl, fun h => by cases h⟩, rfl⟩
        · have h42' : ¬ (4200 : Int) < len := by omega
          have hb : q ≤ 4200 * k := HK.out.2.1
          go_wp2
          go_roundw
          case rel => exact ⟨k + 1, q + len, by omega, by omega, by go_num, by go_num, Lib.hid ⟨by rw [HSU.out, HK.out.1], by omega, fun _ => by omega⟩, trivial⟩
          case measure => simp [intOf]; omega
    · have hkn : k = n := by omega
      go_wp2
      go_ret
      refine ⟨⟨_, rfl, fun h => ?_⟩, rfl⟩
      have h2 : ¬ (9000 : Int) < q := by simpa using h
      have h9 := HK.out.1
      rw [hkn, show n = (lens L).length by rw [length_lens, HL.out], sumTo_all] at h9
      refine ⟨?_, by omega⟩
      rcases Nat.eq_zero_or_pos k with h0 | h0
      · omega
      · exact HK.out.2.2 h0
end Go.Proofs.Ytdaipfmckonfpaa
namespace Go.Proofs.Ytdaipfmckonfpaa


/-- the last length one greater -/
def grown (ls : List Nat) : List Nat := ls.set (ls.length - 1) (ls.getD (ls.length - 1) 0 + 1)
end Go.Proofs.Ytdaipfmckonfpaa
namespace Go.Proofs.Ytdaipfmckonfpaa
open Go.RowKit


end Go.Proofs.Ytdaipfmckonfpaa
namespace Go.Proofs.Ytdaipfmckonfpaa
open Go.RowKit

set_option maxRecDepth 100000 in
set_option maxHeartbeats 800000 in
theorem adata_any {A : Option Addr} {L : List RowB} (poll part last : Bool) (fi sn off : Int) (n cap : Nat) (w : World) (hL : L.length = n) (hn : n ≤ 9223372036854775807) (hs : RSrc w A L) (hm : (lens L).sum ≤ 1000000) :
    Calls Try.prog 36 #[.agg #[.bool poll, .int .i64 fi, .int .i64 sn, .bool part, .bool last, .int .i64 off, .slice A n cap]] w fun e w' => ∃ v', e = .returned v' ∧ OwnY w.heap.size w' v' (flat L) ∧ Below w.heap.size w w' := by
  have HJ := Lib.hid (fun W (hb : Below w.heap.size w W) => join_any (A := A) n cap W hL hn (hs.later hb) hm)
  clear hs hL hm
  go_enter Try.func36, Try.ntmps36
  go_wp2_with (go_at_call 91; refine (HJ.out _ (bl_alloc (Below.refl _ _) _)).mono ?_; rintro e w1 ⟨v, rfl, ho, hb⟩)
  go_ret
  exact ⟨v, rfl, OwnY.down ho (by simp), bl_step (bl_alloc (Below.refl _ _) _) hb⟩
end Go.Proofs.Ytdaipfmckonfpaa
namespace Go.Proofs.Ytdaipfmckonfpaa
open Go.RowKit

end Go.Proofs.Ytdaipfmckonfpaa
namespace Go.Proofs.Ytdaipfmckonfpaa
open Go.RowKit

/-- Data as a slice -/
theorem adata_len {A : Option Addr} {L : List RowB} (poll part last : Bool) (fi sn off : Int) (n cap : Nat) (w : World) (hL : L.length = n) (hn : n ≤ 9223372036854775807) (hs : RSrc w A L) (hm : (lens L).sum ≤ 1000000) :
    Calls Try.prog 36 #[.agg #[.bool poll, .int .i64 fi, .int .i64 sn, .bool part, .bool last, .int .i64 off, .slice A n cap]] w fun e w' => ∃ A' c', e = .returned (.slice A' (lens L).sum c') ∧ OwnY w.heap.size w' (.slice A' (lens L).sum c') (flat L) ∧ Below w.heap.size w w' :=
  (adata_any poll part last fi sn off n cap w hL hn hs hm).mono fun e w' h => by
    obtain ⟨v, rfl, ho, hbl⟩ := h
    obtain ⟨A', c', rfl, _⟩ := ho.form
    rw [length_flat] at *
    exact ⟨A', c', rfl, ho, hbl⟩
end Go.Proofs.Ytdaipfmckonfpaa
