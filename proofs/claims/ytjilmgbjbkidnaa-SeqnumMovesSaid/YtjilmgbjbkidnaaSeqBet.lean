/-
  What the calls of package seqnum answer: Between.
-/
import Derived.Test.YtjilmgbjbkidnaaSeqLess
namespace Go.Proofs.Ytjilmgbjbkidnaa
open Go.RowKit

theorem Try.info3 : (Try.prog.info? 3).map (fun i => (i.zero, i.size, i.bytes)) = some (some (.int .i64 0), 1, 8) := by kernel_rfl

theorem make_ints (x : Int) (h0 : 0 ≤ x) (h1 : x ≤ 65536) (w : World) :
    (Instr.makeSlice 39 (.int .i64 x) (.int .i64 x)).run Try.prog w = .ok (.slice (some ⟨w.heap.size, 0, none⟩) x.toNat x.toNat) (w.alloc (.cells (madeCells #[.int .i64 0] x.toNat) 3)) := by
  obtain ⟨i, hi, hz, hs, hb⟩ := info_parts Try.info3
  have h := run_make (P := Try.prog) w 39 3 i _ Try.underlying39 hi hz .i64 .i64 x x h0 (Int.le_refl _) (by rw [hb]; omega) (by omega)
  rw [h, hs, Nat.mul_one]
  rfl

/-- how many numbers there are between two -/
def BetE (b a c : Int) : Int := if rt b && [a, c].all (okn b) then (if 1024 < farV b a c then 2 else 0) else flt b [a, c]

/-- the list that comes -/
def BetL (b a c : Int) (v : Value) (w : World) : Prop :=
  if rt b && [a, c].all (okn b) then (if 1024 < farV b a c then v = .slice none 0 0 else
    ∃ g cs, v = .slice (some ⟨g, 0, none⟩) (farV b a c).toNat (farV b a c).toNat ∧ Row w g 3 cs ∧ cs.size = (farV b a c).toNat ∧ ∀ j : Nat, j < (farV b a c).toNat → cs[j]? = some (.int .i64 ((a + j) % sz b)))
  else v = .slice none 0 0

theorem farV_bd {b : Int} (a c : Int) (hr : rt b = true) : 0 ≤ farV b a c ∧ farV b a c < sz b := by
  have hs := sz_cases hr
  unfold farV
  have h : 2 ≤ sz b := by omega
  exact ⟨Int.emod_nonneg _ (by omega), Int.emod_lt_of_pos _ (by omega)⟩

set_option maxHeartbeats 800000 in
theorem Between_any (b a c : Int) (w : World) :
    Calls Try.prog 39 #[.agg #[.int .i64 b], .int .i64 a, .int .i64 c] w fun e w' => ∃ v, e = .returned (.tuple #[v, .int .i64 (BetE b a c)]) ∧ BetL b a c v w' ∧ Below w.heap.size w w' := by
  cases hq : rt b && [a, c].all (okn b)
  · have hv : BetE b a c = flt b [a, c] := by unfold BetE; rw [hq]; rfl
    have hl : ∀ w', BetL b a c (.slice none 0 0) w' := by intro w'; unfold BetL; rw [hq]; rfl
    have hn' : (flt b [a, c] != 0) = true := by have := flt_ne hq; simp; omega
    have HV := Lib.hid hv
    have HL := Lib.hid hl
    clear hv hq hl
    rw [HV.out]
    go_enter Try.func39, Try.ntmps39
    go_wp2_with (go_at_call 47; refine (fault2 b a c _ _ ?_).mono ?_; simp; rintro e w1 ⟨rfl, hb1⟩)
    refine bodyPost_ret (v := .tuple #[.slice none 0 0, .int .i64 (flt b [a, c])]) (by simp [results, Try.results39, go_sem]) rfl ⟨_, rfl, HL.out _, ?_⟩
    repeat (first | exact Below.refl _ _ | refine bl_alloc ?_ _ | refine bl_drew ?_ | refine bl_step ?_ (by assumption))
  · have hv : BetE b a c = if 1024 < farV b a c then 2 else 0 := by unfold BetE; rw [hq]; rfl
    have hl : ∀ v w', BetL b a c v w' = if 1024 < farV b a c then v = .slice none 0 0 else
        ∃ g cs, v = .slice (some ⟨g, 0, none⟩) (farV b a c).toNat (farV b a c).toNat ∧ Row w' g 3 cs ∧ cs.size = (farV b a c).toNat ∧ ∀ j : Nat, j < (farV b a c).toNat → cs[j]? = some (.int .i64 ((a + j) % sz b)) := by intro v w'; unfold BetL; rw [hq]; rfl
    rw [all2, Bool.and_eq_true, Bool.and_eq_true] at hq
    obtain ⟨hr, h1, h2⟩ := hq
    obtain ⟨ha1, ha2⟩ := okn_true h1
    obtain ⟨hz1, hz2⟩ := sz_bd b
    have hf : flt b [a, c] = 0 := flt_ok hr (by rw [all2, h1, h2]; rfl)
    obtain ⟨hf1, hf2⟩ := farV_bd a c hr
    have HV := Lib.hid hv
    have HL := Lib.hid hl
    have HF := Lib.hid hf
    have HR := Lib.hid hr
    have H1 := Lib.hid h1
    have H2 := Lib.hid h2
    clear hv hf hr h1 h2 hl
    rw [HV.out]
    by_cases hlong : 1024 < farV b a c
    · rw [if_pos hlong]
      go_enter Try.func39, Try.ntmps39
      go_wp2_with (first
        | (go_at_call 47; refine (fault2 b a c _ _ ?_).mono ?_; simp; rintro e w1 ⟨rfl, hb1⟩; have hx1 : w1.cell? ⟨w.heap.size, 0, none⟩ = some (.int .i64 b) := kept_box hb1 (by simp); rw [HF.out])
        | (go_at_call 49; refine (far_any _ _ _ _ HR.out H1.out H2.out).mono ?_; rintro e w3 ⟨rfl, hb3⟩))
      refine bodyPost_ret (v := .tuple #[.slice none 0 0, .int .i64 2]) (by simp [results, Try.results39, go_sem]) rfl ⟨_, rfl, ?_, ?_⟩
      · rw [HL.out, if_pos hlong]
      · repeat (first | exact Below.refl _ _ | refine bl_alloc ?_ _ | refine bl_drew ?_ | refine bl_step ?_ (by assumption))
    · rw [if_neg hlong]
      obtain ⟨n, hn⟩ : ∃ n : Nat, farV b a c = n := ⟨(farV b a c).toNat, by omega⟩
      have hnb : n ≤ 1024 := by omega
      have hmk := fun W => make_ints (n : Int) (by omega) (by omega) W
      rw [Int.toNat_natCast] at hmk
      have HN := Lib.hid hn
      clear hn hf1 hf2 hlong
      go_enter Try.func39, Try.ntmps39
      go_wp2_with (first
        | (go_at_call 47; refine (fault2 b a c _ _ ?_).mono ?_; simp; rintro e w1 ⟨rfl, hb1⟩; have hx1 : w1.cell? ⟨w.heap.size, 0, none⟩ = some (.int .i64 b) := kept_box hb1 (by simp); rw [HF.out])
        | (go_at_call 49; refine (far_any _ _ _ _ HR.out H1.out H2.out).mono ?_; rintro e w3 ⟨rfl, hb3⟩; have hx3 : w3.cell? ⟨w.heap.size, 0, none⟩ = some (.int .i64 b) := kept_box hb3 hx1; rw [HN.out]))
      have hbl : Below w.heap.size w (w3.alloc (.cells (madeCells #[.int .i64 0] n) 3)) := by repeat (first | exact Below.refl _ _ | refine bl_alloc ?_ _ | refine bl_drew ?_ | refine bl_step ?_ (by assumption))
      have hro : Row (w3.alloc (.cells (madeCells #[.int .i64 0] n) 3)) w3.heap.size 3 (madeCells #[.int .i64 0] n) := Row.made _ _ _
      have hgw : w.heap.size < w3.heap.size := by
        have := hb1.size
        have := hb3.size
        simp at *
        omega
      clear hb1 hb3 hx1
      go_loopw [30] (fun i wr => ∃ k : Nat, k ≤ n ∧ i = .int .i64 k ∧ Below w.heap.size w wr ∧ wr.cell? ⟨w.heap.size, 0, none⟩ = some (.int .i64 b) ∧ ∃ cs, Row wr w3.heap.size 3 cs ∧ cs.size = n ∧ Hid (∀ j : Nat, j < k → cs[j]? = some (.int .i64 ((a + j) % sz b)))) (fun i _ => n - (intOf i).toNat)
      case atStart => exact ⟨0, by omega, rfl, hbl, kept_box (bl_alloc (Below.refl _ _) _) hx3, _, hro, size_madeCells _ _, Lib.hid (fun j hj => by omega)⟩
      case round =>
        obtain ⟨k, hk, rfl, hbr, hbox, cs, hrow, hsz, hall⟩ := hrel
        clear hbl hro hx3
        by_cases hlt : k < n
        · have hold : wr.cell? ⟨w3.heap.size, k, none⟩ = some (cs[k]'(by omega)) := hrow.read (Array.getElem?_eq_getElem (by omega))
          go_wp2_with (go_at_call 35; refine (size_any _ _).mono ?_; rintro e w5 ⟨rfl, hb5⟩; have hx5 := kept_box hb5 hold; have hf5 := (hrow.later hb5).free k)
          go_roundw
          case rel =>
            refine ⟨k + 1, by omega, by go_num, (bl_step hbr hb5).setCell (Nat.le_of_lt hgw) _, ?_, _, (hrow.later hb5).written k _, by rw [Array.size_setIfInBounds]; exact hsz, Lib.hid fun j hj => ?_⟩
            · exact (World.cell?_setCell_other _ _ _ _ (fun e => by injection e with e1; omega)).trans (kept_box hb5 hbox)
            · rw [Array.getElem?_setIfInBounds]
              by_cases hjk : k = j
              · subst hjk
                rw [if_pos rfl, if_pos (by omega)]
              · rw [if_neg hjk]
                exact hall.out j (by omega)
          case measure => simp [intOf]; omega
        · go_wp2
          refine bodyPost_ret (v := .tuple #[.slice (some ⟨w3.heap.size, 0, none⟩) n n, .int .i64 0]) (by simp [results, Try.results39, go_sem]) rfl ⟨_, rfl, ?_, hbr⟩
          rw [HL.out, if_neg (by rw [HN.out]; omega), HN.out, Int.toNat_natCast]
          exact ⟨_, cs, rfl, hrow, hsz, fun j hj => hall.out j (by omega)⟩
end Go.Proofs.Ytjilmgbjbkidnaa
