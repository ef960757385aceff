/-
  What Close and Open do: a copy with the sum behind it, and what is ahead of it.
-/
import Derived.Test.YtcpjalkonfjgbaaCheckA
import Derived.Test.YtcpjalkonfjgbaaBitsRest
namespace Go.Proofs.Ytcpjalkonfjgbaa
open Go.RowKit

theorem make_many (n : Nat) (h : n ≤ 281474976710656) (w : World) :
    (Instr.makeSlice 23 (.int .i64 (n : Int)) (.int .i64 (n : Int))).run Try.prog w = .ok (.slice (some ⟨w.heap.size, 0, none⟩) n n) (w.alloc (.cells (zeros n).toArray 5)) := by
  obtain ⟨i, hi, hz, hs, hb⟩ := info5_parts
  have h := run_make (P := Try.prog) w 23 5 i _ Try.underlying23 hi hz .i64 .i64 n n (by omega) (Int.le_refl _) (by rw [hb]; omega) (by omega)
  rw [h, hs, Nat.mul_one, Int.toNat_natCast, ← made_zeros]
  rfl

/-- bytes with their sum behind -/
def closed (l : List Nat) : List Nat := l ++ [more 65535 l / 256, more 65535 l % 256]
theorem length_closed (l : List Nat) : (closed l).length = l.length + 2 := by simp [closed]
theorem closed_lt {l : List Nat} (h : ∀ b ∈ l, b < 256) : ∀ b ∈ closed l, b < 256 := by
  have := more_lt (s := 65535) (by omega) h
  intro b hb
  simp only [closed, List.mem_append, List.mem_cons, List.not_mem_nil, or_false] at hb
  rcases hb with hb | rfl | rfl
  · exact h b hb
  · omega
  · omega

theorem splice_front (n m : Nat) (cs : List Value) (h : cs.length = n) : splice (zeros (n + m)) 0 cs = cs ++ zeros m := by
  simp [splice, h, zeros]

set_option maxRecDepth 100000 in
set_option maxHeartbeats 1600000 in
theorem close_any {A : Option Addr} {cap : Nat} {l : List Nat} (n : Nat) (hn : l.length = n) (hm : n ≤ 140737488351232) (w : World) (hsrc : Src w A (bts l)) (hb : ∀ b ∈ l, b < 256) :
    Calls Try.prog 16 #[.slice A n cap] w fun e w' => ∃ g, e = .returned (.slice (some ⟨g, 0, none⟩) (n + 2 : Nat) (n + 2 : Nat)) ∧ w.heap.size ≤ g ∧ Row w' g 5 (bts (closed l)).toArray ∧ Below w.heap.size w w' := by
  have HC := Lib.hid (of_any (cap := cap) n hn (by unfold maxLen; omega) w hsrc hb)
  have hlt := more_lt (s := 65535) (by omega) hb
  have hmk := fun w => (show _ = _ from make_many (n + 2) (by omega) w : (Instr.makeSlice 23 (.int .i64 ((n : Int) + 2)) (.int .i64 ((n : Int) + 2))).run Try.prog w = .ok (.slice (some ⟨w.heap.size, 0, none⟩) (n + 2) (n + 2)) (w.alloc (.cells (zeros (n + 2)).toArray 5)))
  have hlen : (bts l).length = n := by rw [length_bts]; exact hn
  have HCL := Lib.hid (show closed l = l ++ [more 65535 l / 256, more 65535 l % 256] from rfl)
  generalize more 65535 l = s at *
  have HS := Lib.hid hsrc
  have HL := Lib.hid hlen
  have HN := Lib.hid hn
  have hsz : (Try.prog.info? 5).map (·.size) = some 1 := by
    obtain ⟨i, hi, _, h1, _⟩ := info5_parts
    rw [hi]
    simp [h1]
  clear hsrc hb hlen hn
  go_enter Try.func16, Try.ntmps16
  go_wp2_with (first
    | (go_at_call 13; refine HC.out.mono ?_; rintro e w1 ⟨rfl, rfl⟩)
    | (refine wpList_copy_splice rfl _ _ 23 23 rfl 5 Try.underlying23 hsz (some ⟨w.heap.size, 0, none⟩) A (n + 2) (n + 2) n cap rfl rfl w.heap.size 0 (zeros (n + 2)) 5 ?h1 (bts l) ?h2 ?h3 ?h4 ?h5 w.heap.size w ?h6 (Nat.le_refl _) ?_))
  case h1 => exact heap_alloc_new _ _
  case h2 => rw [HL.out]; exact (Nat.min_eq_left (by omega)).symm
  case h3 =>
    intro h0
    obtain ⟨ad, hA, hc⟩ := HS.out h0
    refine ⟨ad, hA, fun j v hv => ?_⟩
    have hx := hc j v hv
    exact (World.cell?_alloc_some w _ _ (by rw [hx]; rfl)).trans hx
  case h4 => rw [HL.out, length_zeros]; omega
  case h5 => exact bts_one l
  case h6 => exact bl_alloc (Below.refl _ _) _
  intro w1 hrow hb
  have hr : Row w1 w.heap.size 5 (bts l ++ zeros 2).toArray := by
    have h := hrow.out
    rw [splice_front n 2 _ HL.out] at h
    exact h
  have HB := Lib.hid hb
  clear hrow hb hmk
  have hf0 := hr.free n
  have hf1 := hr.free (n + 1)
  have c0 : w1.cell? ⟨w.heap.size, n, none⟩ = some (.int .u8 0) := hr.read (by
    rw [List.getElem?_toArray, List.getElem?_append_right (by rw [HL.out]; omega), HL.out, Nat.sub_self]
    rfl)
  have c1 : w1.cell? ⟨w.heap.size, n + 1, none⟩ = some (.int .u8 0) := hr.read (by
    rw [List.getElem?_toArray, List.getElem?_append_right (by rw [HL.out]; omega), HL.out, Nat.add_sub_cancel_left]
    rfl)
  have hlt0 : (n : Int) < ((n + 2 : Nat) : Int) := by omega
  have hlt1 : (n : Int) + 1 < ((n + 2 : Nat) : Int) := by omega
  go_wp2
  go_ret
  refine ⟨w.heap.size, rfl, Nat.le_refl _, ?_, (HB.out.setCell (Nat.le_refl _) _).setCell (Nat.le_refl _) _⟩
  have h := (hr.written n (.int .u8 ((s : Int) / 256))).written (n + 1) (.int .u8 ((s : Int) % 256))
  rw [HCL.out, bts_append]
  have e : (((bts l ++ zeros 2).toArray.setIfInBounds n (.int .u8 ((s : Int) / 256))).setIfInBounds (n + 1) (.int .u8 ((s : Int) % 256))) = (bts l ++ bts [s / 256, s % 256]).toArray := by
    rw [List.setIfInBounds_toArray, List.setIfInBounds_toArray]
    congr 1
    rw [List.set_append_right _ _ (by rw [HL.out]; omega), List.set_append_right _ _ (by rw [HL.out]; omega), HL.out, Nat.sub_self, Nat.add_sub_cancel_left]
    rfl
  rw [e] at h
  exact h
end Go.Proofs.Ytcpjalkonfjgbaa
