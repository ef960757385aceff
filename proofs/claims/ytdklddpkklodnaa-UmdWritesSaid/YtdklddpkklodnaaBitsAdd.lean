/-
  A bit added to a writer.
-/
import Derived.Test.YtdklddpkklodnaaBits
import Derived.BigRegion
import Derived.Laws.BitsAllLaws
namespace Go.Proofs.Ytdklddpkklodnaa
open Go.RowKit

/-- what a call on a writer does: it has other bits behind; only its own blocks have changed -/
def Wrote (B : Nat) (w : World) (p : Nat) (sv : Value) (bl : List Bool) (e0 : Ending) (e : Ending) (w' : World) : Prop :=
  e = e0 ∧ ∃ sv', WRep B w' p sv' bl ∧ (sv'.ownBlock = sv.ownBlock ∨ ∃ k, sv'.ownBlock = some k ∧ w.heap.size ≤ k) ∧ Only (fun k => k = p ∨ sv.ownBlock = some k) w w'

theorem or_u8 (a : Nat) (ha : a < 256) (bit : Bool) (k : Nat) (hk : k ≤ 7) : bits .or .u8 (a : Int) ((bit.toNat : Int) * 2 ^ k % 256) = ((a ||| (bit.toNat <<< k) : Nat) : Int) := by
  have h2 : bit.toNat <<< k < 256 := by
    cases bit
    · simp
    · obtain rfl | rfl | rfl | rfl | rfl | rfl | rfl | rfl : k = 0 ∨ k = 1 ∨ k = 2 ∨ k = 3 ∨ k = 4 ∨ k = 5 ∨ k = 6 ∨ k = 7 := by omega
      all_goals decide
  have h3 : (bit.toNat : Int) * 2 ^ k % 256 = ((bit.toNat <<< k : Nat) : Int) := by
    rw [Nat.shiftLeft_eq] at *
    have h4 : (bit.toNat : Int) * 2 ^ k = ((bit.toNat * 2 ^ k : Nat) : Int) := by simp
    rw [h4]
    omega
  rw [h3]
  exact u8_or_nat a _ ha h2

theorem bts_set (l : List Nat) (i x : Nat) : bts (l.set i x) = (bts l).set i (.int .u8 x) := by simp [bts, List.map_set]
theorem bts_append (l k : List Nat) : bts (l ++ k) = bts l ++ bts k := by simp [bts]

/-- the last two stores of add -/
theorem add_done {B : Nat} {w W : World} {p : Nat} {sv : Value} {bl : List Bool} {bit : Bool} {g m cap n : Nat} (hln : bl.length = n) (hm : m = n / 8 + 1) (hB : B ≤ p)
    (hrow : Row W p 110 #[.slice (some ⟨g, 0, none⟩) m cap, .int .i64 n]) (hown : W.ownsRow B 5 1 (.slice (some ⟨g, 0, none⟩) m cap) m (bts (room bl)))
    (honly : Only (fun k => k = p ∨ sv.ownBlock = some k) w W) (hg : sv.ownBlock = some g ∨ w.heap.size ≤ g) (hgp : g ≠ p) :
    Wrote B w p sv (bl ++ [bit]) (.returned (.tuple #[])) (.returned (.tuple #[]))
      ((W.setCell ⟨g, n / 8, none⟩ (.int .u8 (bits .or .u8 (byteAt bl (n / 8)) ((bit.toNat : Int) * 2 ^ (7 - n % 8) % 256)))).setCell ⟨p, 1, none⟩ (.int .i64 ((n : Int) + 1))).drew := by
  rw [or_u8 _ (byteAt_lt _ _) _ _ (by omega)]
  have h1 := (hown.stored (n / 8) (.int .u8 ((byteAt bl (n / 8) ||| (bit.toNat <<< (7 - n % 8)) : Nat) : Int))).1
  refine ⟨rfl, .slice (some ⟨g, 0, none⟩) m cap, ⟨hB, ?_, ?_⟩, ?_, ?_⟩
  · have h2 := (hrow.elsewhere (p := ⟨g, n / 8, none⟩) (Ne.symm hgp) (.int .u8 ((byteAt bl (n / 8) ||| (bit.toNat <<< (7 - n % 8)) : Nat) : Int))).written 1 (.int .i64 ((n : Int) + 1))
    rw [List.length_append, hln]
    exact h2
  · have hl : packLen (bl ++ [bit]).length = m := by rw [List.length_append, List.length_singleton, hln, hm]; unfold packLen; omega
    have hp : bts (pack (bl ++ [bit])) = (bts (room bl)).set (n / 8) (.int .u8 ((byteAt bl (n / 8) ||| (bit.toNat <<< (7 - n % 8)) : Nat) : Int)) := by rw [pack_snoc, hln, bts_set]
    rw [hl, hp]
    exact own_only h1 (((Only.refl (fun k => k = p) _).set (p := ⟨p, 1, none⟩) (.inl rfl) _).drew) (fun k hk => by
      have e : g = k := by simpa [Value.ownBlock] using hk
      omega)
  · rcases hg with h | h
    · exact .inl h.symm
    · exact .inr ⟨g, rfl, h⟩
  · exact ((honly.set (p := ⟨g, n / 8, none⟩) (hg.imp .inr id) _).set (p := ⟨p, 1, none⟩) (.inl (.inl rfl)) _).drew

set_option maxRecDepth 100000 in
set_option maxHeartbeats 1600000 in
theorem add_any {B : Nat} {w : World} {p : Nat} {sv : Value} {bl : List Bool} (bit : Bool) (h : WRep B w p sv bl) (hn : bl.length < 65536) :
    Calls Try.prog 72 #[.pointer (some ⟨p, 0, none⟩), .int .u8 bit.toNat] w (Wrote B w p sv (bl ++ [bit]) (.returned (.tuple #[]))) := by
  obtain ⟨hB, hr, ho⟩ := h
  have hc0 : w.cell? ⟨p, 0, none⟩ = some sv := hr.read rfl
  have hc1 : w.cell? ⟨p, 1, none⟩ = some (.int .i64 bl.length) := hr.read rfl
  have hf0 := hr.free 0
  have hf1 := hr.free 1
  have hap := own_apart ho hr (by decide)
  obtain ⟨i0, hi, hi0, hi1, hi2⟩ := info5_parts
  by_cases h8 : bl.length % 8 = 0
  · have h8' : (((bl.length : Nat) : Int) % 8 == 0) = true := by simp; omega
    generalize hln : bl.length = n at *
    have HM := Lib.hid (show packLen n = n / 8 by unfold packLen; omega)
    have H8 := Lib.hid h8
    clear h8
    go_enter Try.func72, Try.ntmps72
    go_wp2_with (at_builtin; refine wpList_append_lies _ rfl _ _ _ (by rfl) B 5 i0 (.int .u8 0) 1 1 Try.underlying30 hi hi0 hi1 hi2 rfl (by omega) sv (packLen n) _ (by rfl) (ho.alloc _) ⟨w.heap.size, 0, none⟩ 1 1 [.int .u8 0] (by rfl) (by rfl) ?h1 ?h2 ?h3 ?h4 ?h5 ?h6 (w.heap.size + 1) ?h7 ?_)
    case h1 => exact cell_one_new _ _ _
    case h2 => intro u hu; simp at hu; subst hu; rfl
    case h3 => omega
    case h4 => unfold maxLen packLen; omega
    case h5 => unfold packLen; omega
    case h6 => have := hr.inside; simp; omega
    case h7 => simp
    intro g cap w2 hown hgrow hgg hg2
    have hgp : g ≠ p := by
      rcases hgg with h | h
      · intro e; subst e; exact hap h
      · have := hr.inside; omega
    have hr2 : Row w2 p 110 #[sv, .int .i64 n] := (hgrow.block p (by have := hr.inside; simp; omega) (fun e => hap e.symm)).trans (hr.more _)
    have c0 := hr2.read (i := 0) rfl
    have c1 := hr2.read (i := 1) rfl
    have f0 := hr2.free 0
    have f1 := hr2.free 1
    go_wp2
    have hrow := hr2.written 0 (.slice (some ⟨g, 0, none⟩) (packLen n + 1) cap)
    have hown2 := own_only (S := fun k => k = p) hown ((Only.refl (fun k => k = p) _).set (p := ⟨p, 0, none⟩) (.inl rfl) (.slice (some ⟨g, 0, none⟩) (packLen n + 1) cap)) (fun k hk => by
      have : g = k := by simpa [Value.ownBlock] using hk
      omega)
    have honly : Only (fun k => k = p ∨ sv.ownBlock = some k) w (w2.setCell ⟨p, 0, none⟩ (.slice (some ⟨g, 0, none⟩) (packLen n + 1) cap)) :=
      (((Only.refl (fun k => k = p ∨ sv.ownBlock = some k) w).alloc _).grown hgrow (fun k hk => .inl (.inr hk))).set (.inl (.inl rfl)) _
    generalize w2.setCell ⟨p, 0, none⟩ (.slice (some ⟨g, 0, none⟩) (packLen n + 1) cap) = W at *
    clear hown hgrow c0 c1 f0 f1 hr2 hc0 hc1 hf0 hf1 hg2
    have hm := HM.out
    have hroom : room bl = pack bl ++ [0] := by unfold room; rw [hln, if_pos H8.out]
    have hown3 : W.ownsRow B 5 1 (.slice (some ⟨g, 0, none⟩) (packLen n + 1) cap) (packLen n + 1) (bts (room bl)) := by rw [hroom, bts_append]; exact hown2
    have c0 : W.cell? ⟨p, 0, none⟩ = some (.slice (some ⟨g, 0, none⟩) (packLen n + 1) cap) := hrow.read rfl
    have c1 : W.cell? ⟨p, 1, none⟩ = some (.int .i64 n) := hrow.read rfl
    have f1 := hrow.free 1
    have cb := (hown3.cellAt (n / 8) (by omega)).trans (bts_at (room_at bl (by omega)))
    have fb := hown2.frozenAt (n / 8)
    have hb0 : (n / 8 : Nat) < packLen n + 1 := by omega
    have hg' : sv.ownBlock = some g ∨ w.heap.size ≤ g := hgg.imp id (fun e => by omega)
    have HF := Lib.hid (add_done (bit := bit) hln (by omega) hB hrow hown3 honly hg' hgp)
    clear hm hroom hown2 hown3 hrow honly hgg hg'
    go_region
    go_wp2
    go_end0
    exact HF.out
  · have h8' : (((bl.length : Nat) : Int) % 8 == 0) = false := by simp; omega
    have hlen : 0 < packLen bl.length := by unfold packLen; omega
    obtain ⟨g, cap, rfl, _, hg2⟩ := ho.form hlen
    generalize hln : bl.length = n at *
    have hm : packLen n = n / 8 + 1 := by unfold packLen; omega
    have hroom : room bl = pack bl := by unfold room; rw [hln, if_neg h8]
    have hown3 : w.ownsRow B 5 1 (.slice (some ⟨g, 0, none⟩) (packLen n) cap) (packLen n) (bts (room bl)) := by rw [hroom]; exact ho
    have hgp : g ≠ p := by intro e; subst e; exact hap rfl
    have cb := (hown3.cellAt (n / 8) (by omega)).trans (bts_at (room_at bl (by omega)))
    have fb := hown3.frozenAt (n / 8)
    have hb0 : (n / 8 : Nat) < packLen n := by omega
    have HF := Lib.hid (add_done (bit := bit) hln hm hB hr hown3 (Only.refl (fun k => k = p ∨ (Value.slice (some ⟨g, 0, none⟩) (packLen n) cap).ownBlock = some k) w) (.inl rfl) hgp)
    clear hm hroom hown3 hr ho hlen h8
    go_enter Try.func72, Try.ntmps72
    go_wp2
    go_region
    go_wp2
    go_end0
    exact HF.out
end Go.Proofs.Ytdklddpkklodnaa
