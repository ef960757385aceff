/-
  What Tick and Clear of a set of timers do.
-/
import Derived.Test.YtieokmmejdngcaaRun
import Derived.IntWalk
namespace Go.Proofs.Ytieokmmejdngcaa
open Go.RowKit

def tickL (L : List Int) : List Int := L.map fun x => if 0 < x then decT x else x
def tickE (L : List Int) : List Int := endF L (runF L 8)
def clearL (L : List Int) : List Int := L.map fun x => if 0 < x then 0 else x

theorem only_below {S : Nat → Prop} {w v u : World} (h : Only S w v) (hb : Below w.heap.size v u) : Only S w u :=
  ⟨hb.os.trans h.os, hb.tape.trans h.tape, hb.output.trans h.output, Nat.le_trans h.size hb.size, fun k hk hn => (hb.block k hk).trans (h.same k hk hn)⟩

set_option maxHeartbeats 800000 in
theorem tick_t {p : Nat} {L : List Int} (w : World) (h : TRep w p L) :
    Calls Try.prog 16 #[.pointer (some ⟨p, 0, none⟩)] w fun e w' => (∃ u, e = .returned u ∧ Ints w.heap.size w' u (tickE L)) ∧ TRep w' p (tickL L) ∧ Only (isP p) w w' := by
  have H0 := Lib.hid h
  have hp := h.inside
  have h8 := Lib.hid h.1
  clear h
  go_enter Try.func16, Try.ntmps16
  go_wp2_with fail
  refine (running_t w H0.out).mono ?_
  rintro e w1 ⟨⟨ru, rfl, hu⟩, hb⟩
  have hp1 : p < w1.heap.size := Nat.lt_of_lt_of_le hp hb.size
  have HT := Lib.hid (show TickInv decT w.heap.size w1.heap.size p L 0 ru w1 from ⟨by rw [List.take_zero, upd_nil]; exact H0.out.later hb, hu, hu.lt, hp1, Nat.le_refl _⟩)
  have HE := Lib.hid (show EndInv w1.heap.size L 0 (.slice none 0 0) w1 from World.ownsRow_nil _ _ _ _)
  have HB := Lib.hid hb
  obtain ⟨RA, hRA, _⟩ := hu
  subst hRA
  clear hb hp
  have hrl := runF_le L 8
  go_wp2_with fail
  go_loopw [3, 9] (fun v i wr => ∃ j : Nat, j ≤ (runF L 8).length ∧ i = .int .i64 j ∧ Hid (TickInv decT w.heap.size w1.heap.size p L j (.slice RA (runF L 8).length (runF L 8).length) wr) ∧ Hid (EndInv w1.heap.size L j v wr) ∧ Hid (Only (isP p) w1 wr)) (fun _ i _ => (runF L 8).length - (intOf i).toNat)
  case atStart => exact ⟨0, by omega, rfl, HT, HE, Lib.hid (Only.refl _ _)⟩
  case round =>
    obtain ⟨j, hj, rfl, HT2, HE2, HO⟩ := hrel
    clear HT HE
    by_cases hlt : j < (runF L 8).length
    · obtain ⟨i, x, hri, hi, hx, h0, hni, htk⟩ := run_entry h8.out hlt
      obtain ⟨A, hA, hread⟩ := HT2.out.2.1.read
      obtain ⟨rfl⟩ : RA = A := by injection hA
      obtain ⟨gr, rfl, hgr, hcr⟩ := hread j _ hri
      have hxb := HT2.out.1.2.1
      have hx2 : x ≤ 1000 := by
        have := H0.out.2.1 x (List.mem_of_getElem? hx)
        omega
      have hcp : wr.cell? ⟨p, 1 + i, none⟩ = some (.int .i64 x) := HT2.out.1.at (by rw [upd_at hx, if_neg hni])
      have hfp := HT2.out.1.free (1 + i)
      have hi0 : (0 : Int) ≤ (i : Int) := by omega
      have hi8 : (i : Int) < 8 := by omega
      have hj0 : (0 : Int) ≤ (j : Int) := by omega
      have hjl : (j : Int) < ((runF L 8).length : Int) := by omega
      have HX := Lib.hid hx
      have HTK := Lib.hid htk
      have HT3 := Lib.hid (show TickInv decT w.heap.size w1.heap.size p L (j + 1) (.slice (some ⟨gr, 0, none⟩) (runF L 8).length (runF L 8).length) (wr.setCell ⟨p, 1 + i, none⟩ (.int .i64 (x - 1))).drew from
        TickInv.store (w := wr.drew) HT2.out hx htk (by unfold decT; omega) (by unfold decT; omega))
      have HE3 := Lib.hid (show EndInv w1.heap.size L j u3 (wr.setCell ⟨p, 1 + i, none⟩ (.int .i64 (x - 1))).drew from
        EndInv.store (w := wr.drew) HE2.out hp1 (1 + i) (.int .i64 (decT x)))
      have HO3 := Lib.hid (show Only (isP p) w1 (wr.setCell ⟨p, 1 + i, none⟩ (.int .i64 (x - 1))).drew from
        HO.out.drew.andThen (wrote_at wr.drew p (1 + i) (.int .i64 (decT x))) (fun k _ hk => hk))
      clear hread hA hri hgr hx htk hni HT2 HE2 HO hxb
      by_cases h1 : x = 1
      · subst h1
        have e0 : (1 : Int) - 1 = 0 := by omega
        rw [e0] at HT3 HE3 HO3
        obtain ⟨A, c, rfl⟩ := HE3.out.form
        obtain ⟨g, cap, W', hr, he4, ht4, hb4⟩ := HE3.out.step HT3.out (by omega) HX.out HTK.out rfl
        have hsz : ((wr.setCell ⟨p, 1 + i, none⟩ (.int .i64 0)).drew).heap.size = wr.heap.size := by simp [World.setCell, World.drew]
        rw [hsz] at hr
        have HR4 := Lib.hid hr
        have HE4 := Lib.hid he4
        have HT4 := Lib.hid ht4
        have HO4 := Lib.hid (only_below HO3.out hb4)
        clear hr he4 ht4 hb4 e0 hsz
        go_wp2_with fail
        go_region
        go_wp2_with (at_builtin; refine wpList_run rfl (.tmp 30) (.tmp 32) 35 rfl (.slice A (endF L ((runF L 8).take j)).length c) (.slice (some ⟨wr.heap.size, 0, none⟩) 1 1) (by rfl) (by rfl) HR4.out ?_)
        go_roundw
        case rel => exact ⟨j + 1, by omega, by go_num, HT4, HE4, HO4⟩
        case measure => simp [intOf]; omega
      · have h1' : ¬ x - 1 = 0 := by omega
        have HE4 := Lib.hid (HE3.out.skip HX.out HTK.out h1)
        have hsub : IntKind.i64.wrap (x - 1) = x - 1 := IntWalk.i64_in _ (by omega)
        go_wp2_with fail
        go_region
        go_wp2
        go_roundw
        case rel => exact ⟨j + 1, by omega, by go_num, HT3, HE4, HO3⟩
        case measure => simp [intOf]; omega
    · obtain rfl : j = (runF L 8).length := by omega
      have HL := Lib.hid (tick_rep h8.out HT2.out)
      have hjl : ¬ ((runF L 8).length : Int) < ((runF L 8).length : Int) := by omega
      clear hlt
      go_wp2_with (go_at_call 38; refine (clip_t HE2.out).mono ?_; rintro e w2 ⟨⟨u, rfl, hu⟩, rfl⟩; have HU := Lib.hid hu; clear hu)
      go_ret
      have hu := HU.out
      rw [List.take_length] at hu
      have h1 : Only (isP p) w w1 := .of_below HB.out
      exact ⟨⟨_, rfl, hu.down HB.out.size⟩, HL.out, h1.andThen HO.out (fun k _ hk => hk)⟩
end Go.Proofs.Ytieokmmejdngcaa
