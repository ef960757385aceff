/-
  mux: bits of a block that are turned within 16 side by side are told. A law's row follows from its walk: the call returns true, and below the heap's old size the world is as it was; then every argument reads as it did. How the packets and bytes that a statement draws read. How parts that a statement draws read.
-/
import Derived.Test.YtdaipfmckonfpaaJMuxTurned05
import Derived.StillTailTactics
import Derived.Test.YtdaipfmckonfpaaRows
import Derived.WalkKit
import Derived.ProofKit
import Derived.OpenShut
import Derived.Test.YtdaipfmckonfpaaJMuxTurned02
import Derived.SizedLaws
import Derived.Deep.Matrix
import Derived.Lib.SmallJoins
import Derived.Test.YtdaipfmckonfpaaJMuxTurned01
import Derived.Deep.Slices
import Derived.Deep.SlicePairs
namespace Go.Proofs.Ytdaipfmckonfpaa
open Go.RowKit

theorem bit_go (p k : Nat) (hp : p < 65536) : (bits .and .u16 ((p : Int) / 2 ^ k) 1 == 1) = (p / 2 ^ k % 2 == 1) := by
  rw [cast_div_pow]
  have h1 : p / 2 ^ k ≤ p := Nat.div_le_self _ _
  generalize p / 2 ^ k = q at *
  have h2 := u16_and_nat q 1 (by omega) (by omega)
  rw [Nat.and_one_is_mod] at h2
  rw [show (1 : Int) = ((1 : Nat) : Int) from rfl, h2, Bool.eq_iff_iff, beq_iff_eq, beq_iff_eq]
  omega

/-- what is turned is not opened -/
theorem open_turned {w : World} {g : Nat} {c : List Nat} (n : Nat) (hn : c.length = n + 2) (hm : n ≤ 140737488351232) (h : Row w g 5 (bts c).toArray) (hb : ∀ b ∈ c, b < 256) (h0 : more 65535 c ≠ 0) :
    Calls Try.prog 84 #[.slice (some ⟨g, 0, none⟩) (n + 2 : Nat) (n + 2 : Nat)] w fun e w' => e = .returned (.tuple #[.slice none 0 0, .int .i64 13]) ∧ Below w.heap.size w w' := by
  have e : c = c.take n ++ [c[n], c[n + 1]] := by
    have h1 : c.drop n = [c[n], c[n + 1]] := by
      rw [List.drop_eq_getElem_cons (by omega), List.drop_eq_getElem_cons (by omega), List.drop_eq_nil_of_le (by omega)]
    rw [← h1, List.take_append_drop]
  have hl : ∀ b ∈ c.take n, b < 256 := fun b hx => hb b (List.mem_of_mem_take hx)
  have h1 := hb c[n] (List.getElem_mem _)
  have h2 := hb c[n + 1] (List.getElem_mem _)
  refine open_wrong (l := c.take n) n c[n] c[n + 1] (by rw [List.length_take]; omega) hm (Nat.le_refl _) w (by rw [← e]; exact row_src h) hl h1 h2 fun h3 => h0 ?_
  rw [e, more_append]
  exact (more_own_iff (more_lt (by omega) hl) h1 h2).2 h3

set_option maxRecDepth 100000 in
set_option maxHeartbeats 1600000 in
theorem mturned_guard {A : Option Addr} {L : List PartM} (n cap p : Nat) (a : Int) (w : World) (hL : L.length = n) (hn9 : n ≤ 9223372036854775807) (hs : XSrc w A L) (_ : p < 65536) (h : greatM L = true ∨ (greatM L = false ∧ p = 0)) :
    Calls Try.prog 8 #[.slice A n cap, .int .i64 a, .int .u16 p] w fun e w' => e = .returned (.bool true) ∧ Below w.heap.size w w' := by
  have HG := Lib.hid (mgreat_any n cap w hL hn9 hs)
  have HA := Lib.hid malive_any
  clear hs hL
  rcases h with hg | ⟨hg, rfl⟩
  all_goals
    rw [hg] at HG
    clear hg
    go_enter Try.func8, Try.ntmps8
    go_wp2_with (first
      | (go_at_call 23; (with_reducible refine HG.out.mono ?_); rintro e w1 ⟨rfl, rfl⟩)
      | (go_at_call 24; (with_reducible refine (HA.out _).mono ?_); rintro e w1 ⟨rfl, hb1⟩))
    go_ret
    exact ⟨rfl, hb1⟩
set_option maxRecDepth 100000 in
set_option maxHeartbeats 1600000 in
theorem mturned_bad {A : Option Addr} {L : List PartM} (n cap p : Nat) (a : Int) (w : World) (hL : L.length = n) (hs : XSrc w A L) (_ : p < 65536) (hp0 : p ≠ 0) (hg : greatM L = false) (hf : faultM L ≠ 0) :
    Calls Try.prog 8 #[.slice A n cap, .int .i64 a, .int .u16 p] w fun e w' => e = .returned (.bool true) ∧ Below w.heap.size w w' := by
  obtain ⟨q1, q2, q3⟩ := great_no hg
  have HG := Lib.hid (mgreat_any n cap w hL (by omega) hs)
  rw [hg] at HG
  have HA := Lib.hid malive_any
  have HW := Lib.hid (mwrite_no n cap w hL (by omega) hs (fun m hm => by have := q2 m hm; omega) hf)
  have h2' : ((p : Int) == 0) = false := by rw [beq_eq_false_iff_ne]; omega
  have hfI : (faultM L == 0) = false := by simpa using hf
  have hfJ : (faultM L != 0) = true := by simpa using hf
  clear hs hL q1 q2 q3 hg hf
  generalize faultM L = f at *
  go_enter Try.func8, Try.ntmps8
  go_wp2_with (first
    | (go_at_call 23; (with_reducible refine HG.out.mono ?_); rintro e w0 ⟨rfl, rfl⟩)
    | (go_at_call 25; (with_reducible refine HW.out.mono ?_); rintro e w1 ⟨rfl, hb1⟩)
    | (go_at_call 24; (with_reducible refine (HA.out _).mono ?_); rintro e w2 ⟨rfl, hb2⟩))
  go_ret
  exact ⟨rfl, bl_step hb1 hb2⟩
set_option maxRecDepth 100000 in
set_option maxHeartbeats 1600000 in
theorem mturned_out {A : Option Addr} {L : List PartM} (n cap p : Nat) (a : Int) (w : World) (hL : L.length = n) (hs : XSrc w A L) (_ : p < 65536) (hp0 : p ≠ 0) (hg : greatM L = false) (hf : faultM L = 0) (h : a < 0 ∨ 8 * (psum (plens L) : Int) < a) :
    Calls Try.prog 8 #[.slice A n cap, .int .i64 a, .int .u16 p] w fun e w' => e = .returned (.bool true) ∧ Below w.heap.size w w' := by
  obtain ⟨q1, q2, q3⟩ := great_no hg
  have hN := (good_part hf).2.1
  have HG := Lib.hid (mgreat_any n cap w hL (by omega) hs)
  rw [hg] at HG
  have HA := Lib.hid malive_any
  have HW := Lib.hid (mwrite_ok n _ cap w hL hs hf rfl)
  have h2' : ((p : Int) == 0) = false := by rw [beq_eq_false_iff_ne]; omega
  clear hs hL q1 q2 q3 hg hf
  generalize psum (plens L) = N at *
  have hl2 : ¬ ((N + 2 : Nat) : Int) < 2 := by omega
  by_cases h3 : a < 0
  · clear h
    go_enter Try.func8, Try.ntmps8
    go_wp2_with (first
      | (go_at_call 23; (with_reducible refine HG.out.mono ?_); rintro e w0 ⟨rfl, rfl⟩)
      | (go_at_call 25; (with_reducible refine HW.out.mono ?_); rintro e w1 ⟨g1, rfl, hg1, hr1, hb1⟩)
      | (go_at_call 24; (with_reducible refine (HA.out _).mono ?_); rintro e w2 ⟨rfl, hb2⟩))
    go_ret
    exact ⟨rfl, bl_step hb1 hb2⟩
  · have h4 : 8 * (((N + 2 : Nat)) : Int) - 16 < a := by omega
    clear h
    go_enter Try.func8, Try.ntmps8
    go_wp2_with (first
      | (go_at_call 23; (with_reducible refine HG.out.mono ?_); rintro e w0 ⟨rfl, rfl⟩)
      | (go_at_call 25; (with_reducible refine HW.out.mono ?_); rintro e w1 ⟨g1, rfl, hg1, hr1, hb1⟩)
      | (go_at_call 24; (with_reducible refine (HA.out _).mono ?_); rintro e w2 ⟨rfl, hb2⟩))
    go_ret
    exact ⟨rfl, bl_step hb1 hb2⟩
set_option maxRecDepth 100000 in
set_option maxHeartbeats 3200000 in
theorem mturned_walk {A : Option Addr} {L : List PartM} (m cap p a n : Nat) (w : World) (hL : L.length = m) (hs : XSrc w A L) (hp : p < 65536) (h0 : p ≠ 0) (hg : greatM L = false) (hf : faultM L = 0) (hN : psum (plens L) = n) (ha : a ≤ 8 * n) :
    Calls Try.prog 8 #[.slice A m cap, .int .i64 a, .int .u16 p] w fun e w' => e = .returned (.bool true) ∧ Below w.heap.size w w' := by
  obtain ⟨q1, q2, q3⟩ := great_no hg
  have hm : n ≤ 4094 := by rw [← hN]; exact (good_part hf).2.1
  have HG := Lib.hid (mgreat_any m cap w hL (by omega) hs)
  rw [hg] at HG
  have HA := Lib.hid malive_any
  have HCL := Lib.hid (mwrite_ok m n cap w hL hs hf hN)
  have hb := wb_lt hf (fun m hm => (hs.ok m hm).2.2.2)
  have h2' : ((p : Int) == 0) = false := by rw [beq_eq_false_iff_ne]; omega
  have h3' : ¬ (a : Int) < 0 := by omega
  have h4' : ¬ 8 * (((n + 2 : Nat)) : Int) - 16 < (a : Int) := by omega
  have hl2 : ¬ ((n + 2 : Nat) : Int) < 2 := by omega
  have HL := Lib.hid (show (closed (wb L)).length = n + 2 by rw [length_closed, length_wb, hN])
  have HV := Lib.hid (closed_lt hb)
  have HM := Lib.hid (show more 65535 (closed (wb L)) = 0 by unfold closed; rw [more_append]; exact more_own (more_lt (by omega) hb))
  generalize closed (wb L) = c at *
  clear hs hb hg hf hN q1 q2 q3 hL
  go_enter Try.func8, Try.ntmps8
  go_wp2_with (first
    | (go_at_call 23; (with_reducible refine HG.out.mono ?_); rintro e w0 ⟨rfl, rfl⟩)
    | (go_at_call 25; (with_reducible refine HCL.out.mono ?_); rintro e w1 ⟨g1, rfl, hg1, hr1, hb1⟩; (have HR1 := Lib.hid hr1; have HB1 := Lib.hid hb1; clear hr1 hb1)))
  clear HCL HG
  go_loopw [9] (fun i wr => ∃ k : Nat, k ≤ 16 ∧ i = .int .i64 k ∧ Row wr g1 5 (bts (turned c a p k)).toArray ∧ Below w.heap.size w wr) (fun i _ => 16 - (intOf i).toNat)
  case atStart => exact ⟨0, by omega, rfl, HR1.out, HB1.out⟩
  case round =>
    obtain ⟨k, hk, rfl, hrow, hbr⟩ := hrel
    have HB2 := Lib.hid hbr
    rcases Nat.lt_or_ge k 16 with hlt | hge
    · have hbit := bit_go p k hp
      have htl : (turned c a p k).length = n + 2 := by rw [length_turned, HL.out]
      by_cases hbt : p / 2 ^ k % 2 = 1
      · have hnx : turned c a p (k + 1) = flip (turned c a p k) (a + k) := by rw [turned, if_pos hbt]
        have hbt2 : (p / 2 ^ k % 2 == 1) = true := by simp [hbt]
        rw [hbt2] at hbit
        clear hbt hbt2 hbr
        go_wp2_with fail
        obtain ⟨q, hq⟩ : ∃ q, q = a + k := ⟨_, rfl⟩
        have hqq : (a : Int) + (k : Int) = (q : Int) := by omega
        have hq8 : q / 8 < n + 2 := by omega
        have hx : (turned c a p k)[q / 8]? = some (turned c a p k)[q / 8] := List.getElem?_eq_getElem (by omega)
        have hxb := turned_lt a p k HV.out _ (List.getElem_mem (show q / 8 < (turned c a p k).length by omega))
        have HFL := Lib.hid (show bts (flip (turned c a p k) q) = (bts (turned c a p k)).set (q / 8) (.int .u8 (((turned c a p k)[q / 8] ^^^ (128 / 2 ^ (q % 8)) : Nat) : Int)) by
          unfold flip
          rw [bts_set, List.getD_eq_getElem?_getD, hx]
          rfl)
        rw [← hq] at hnx
        have HNX := Lib.hid hnx
        have d0 : wr.cell? ⟨g1, q / 8, none⟩ = some (.int .u8 ((turned c a p k)[q / 8] : Nat)) := hrow.read (by simpa using bts_at hx)
        have hf0 := hrow.free (q / 8)
        generalize (turned c a p k)[q / 8] = x at *
        have HROW := Lib.hid hrow
        have hsm := bit_small (q % 8) (Nat.mod_lt _ (by omega))
        have HXO := Lib.hid (show bits .xor .u8 (x : Int) ((128 : Int) / 2 ^ (q % 8)) = ((x ^^^ (128 / 2 ^ (q % 8)) : Nat) : Int) by
          rw [show (128 : Int) / 2 ^ (q % 8) = ((128 / 2 ^ (q % 8) : Nat) : Int) from cast_div_pow 128 (q % 8)]
          exact u8_xor_nat _ _ hxb hsm.2.1)
        have hw1 : IntKind.i64.wrap (q : Int) = (q : Int) := by rw [IntKind.wrap_i64]; omega
        have hw2 : IntKind.i64.wrap ((q : Int) / 8) = (q : Int) / 8 := by rw [IntKind.wrap_i64]; omega
        have hw3 : ((q : Int) / 8).toNat = q / 8 := by omega
        obtain ⟨r, hr⟩ : ∃ r, q % 8 = r := ⟨_, rfl⟩
        have hr8 : r < 8 := by omega
        have htm : (q : Int).tmod 8 = (r : Int) := by rw [Int.tmod_eq_emod_of_nonneg (by omega)]; omega
        have hw4 : IntKind.i64.wrap (r : Int) = (r : Int) := by rw [IntKind.wrap_i64]; omega
        rw [hr] at HXO HFL
        have hi0 : (0 : Int) ≤ (q : Int) / 8 := by omega
        have hi1 : (q : Int) / 8 < (n : Int) + 2 := by omega
        clear hx hxb hnx hrow htl hsm hbit hq hr
        refine wp_region_still_tail 19 (by kernel_rfl) (by kernel_rfl) ?_
        change wpStill _ _ wr.drew (fun a' => wpList _ _ _ _ a' wr.drew) _ _
        have d1 : wr.drew.cell? ⟨g1, q / 8, none⟩ = some (.int .u8 (x : Nat)) := d0
        have hf1 : wr.drew.frozen? ⟨g1, q / 8, none⟩ = false := hf0
        have HR3 := Lib.hid (show Row wr.drew g1 5 (bts (turned c a p k)).toArray from HROW.out)
        have HB3 := Lib.hid (bl_drew HB2.out)
        clear d0 hf0 HROW HB2
        generalize wr.drew = w2 at *
        simp only [List.take_succ_cons, List.take_zero, List.drop_succ_cons, List.drop_zero]
        repeat still_step
        refine wpStill_nil ?_
        go_wp2
        refine ⟨⟨k + 1, by omega, by go_num, ?_, HB3.out.setCell hg1 _⟩, by simp [intOf]; omega⟩
        have h := HR3.out.written (q / 8) (.int .u8 (bits .xor .u8 (x : Int) ((128 : Int) / 2 ^ r)))
        rw [List.setIfInBounds_toArray] at h
        rw [HNX.out, HFL.out, ← HXO.out]
        exact h
      · have hnx : turned c a p (k + 1) = turned c a p k := by rw [turned, if_neg hbt]
        have hbt2 : (p / 2 ^ k % 2 == 1) = false := by simp; omega
        rw [hbt2] at hbit
        have HR2 := Lib.hid hrow
        have HX := Lib.hid hnx
        clear hbt hbt2 hbr hrow hnx
        go_wp2
        go_roundw
        case rel => exact ⟨k + 1, by omega, by go_num, by rw [HX.out]; exact HR2.out, HB2.out⟩
        case measure => simp [intOf]; omega
    · obtain rfl : k = 16 := by omega
      have HO := Lib.hid (mread_bad (n + 2) (n + 2) 13 wr (by omega) (by omega) (Lib.hid (open_turned n (by rw [length_turned, HL.out]) (by omega) hrow (turned_lt a p 16 HV.out) (burst (by omega) HV.out (by rw [HL.out]; omega) h0 hp HM.out))))
      clear hrow hbr hge hk
      go_wp2_with (first
        | (go_at_call 31; (with_reducible refine HO.out.mono ?_); rintro e w3 ⟨rfl, hb3⟩)
        | (go_at_call 24; (with_reducible refine (HA.out _).mono ?_); rintro e w4 ⟨rfl, hb4⟩))
      go_ret
      exact ⟨rfl, bl_step (bl_step HB2.out hb3) hb4⟩
theorem mturned_every {A : Option Addr} {L : List PartM} {n : Nat} (cap : Nat) (a p : Int) (w : World) (hL : L.length = n) (hn9 : n ≤ 9223372036854775807) (hs : XSrc w A L) (hp0 : 0 ≤ p) (hp : p < 65536) :
    Calls Try.prog 8 #[.slice A n cap, .int .i64 a, .int .u16 p] w fun e w' => e = .returned (.bool true) ∧ Below w.heap.size w w' := by
  obtain ⟨P, rfl⟩ : ∃ P : Nat, p = P := ⟨p.toNat, by omega⟩
  cases hg : greatM L
  · by_cases h0 : P = 0
    · exact mturned_guard n cap P a w hL hn9 hs (by omega) (.inr ⟨hg, h0⟩)
    · by_cases hf : faultM L = 0
      · by_cases h : a < 0 ∨ 8 * (psum (plens L) : Int) < a
        · exact mturned_out n cap P a w hL hs (by omega) h0 hg hf h
        · obtain ⟨K, rfl⟩ : ∃ K : Nat, a = K := ⟨a.toNat, by omega⟩
          exact mturned_walk n cap P K _ w hL hs (by omega) h0 hg hf rfl (by omega)
      · exact mturned_bad n cap P a w hL hs (by omega) h0 hg hf
  · exact mturned_guard n cap P a w hL hn9 hs (by omega) (.inl hg)
end Go.Proofs.Ytdaipfmckonfpaa
namespace Go.Proofs.Ytdaipfmckonfpaa
open Go.ChangeShapes Go.WideShapes Go.ChangeAt Go.RowKit

theorem lawOwn : ownKnob Try.prog.godebug = none := by kernel_rfl
theorem lawLaid : laidOutB Try.prog = true := by kernel_rfl

section
variable {H : Type} {enc : TypeId × Value → H} {P : Program}
/-- what was read in the old world is read in the new one -/
theorem args_stay (hl : laidOutB P = true) {W W' : World} (hb : Below W.heap.size W W') : ∀ (ts : List TypeId) (vs : List Value) (ds : List (DataW H)) (ps : List MemPlace),
    (∀ t ∈ ts, P.readableRec t = true ∧ t < P.types.size) → DataW.TrodAll enc P W 0 (fun _ => true) true ts vs ds ps → (∀ x ∈ ps, x.block < W.heap.size) →
    DataW.TrodAll enc P W' 0 (fun b => decide (b < W.heap.size)) true ts vs ds ps := by
  intro ts
  induction ts with
  | nil =>
    intro vs ds ps _ h _
    obtain ⟨rfl, rfl, rfl⟩ := trodAll_nil h
    exact trodAll_mk0
  | cons t ts ih =>
    intro vs ds ps hr h hlt
    obtain ⟨v, vs', d, ds', p, q, rfl, rfl, rfl, h1, h2⟩ := trodAll_cons h
    have ht := hr t (List.mem_cons_self ..)
    exact trodAll_cons_mk (Below.trod hl ht.1 ht.2 h1 hb fun x hx => hlt x (List.mem_append_left _ hx))
      (ih vs' ds' q (fun u hu => hr u (List.mem_cons_of_mem _ hu)) h2 fun x hx => hlt x (List.mem_append_right _ hx))

theorem law_post {f : Func} {s : ChangeSpec} {W W' : World} {args : Array Value} {ds gs : List (DataW H)} {before : List MemPlace} {B : TypeId}
    (hl : laidOutB P = true) (hr : f.params.toList.all (fun t => P.readableRec t && decide (t < P.types.size)) = true) (hv : s.vars = [])
    (hW : DataW.Whole enc P f.params.toList s.vars false W args.toList ds gs before)
    (hs : s.fn H (ds ++ gs) = { results := [.lit (.bool true)], args := ds }) (ht : f.resultTypes = #[B]) (hB : P.underlying B = some .bool)
    (hb : Below W.heap.size W W') : s.post enc P f false true false false W args (.bool true) W' := by
  have hW' := hW
  obtain ⟨p, q, hA, hV, rfl, _, _⟩ := hW
  rw [hv] at hV
  obtain ⟨rfl, rfl⟩ := trodVars_none hV
  refine ⟨ds, [], p ++ [], [], p, [], hW', ?_, ?_, ?_, hb.frame _, fun h => by cases h⟩
  · rw [hs, ht]
    exact trodAll_mk1 (shut_bool hB true)
  · rw [hs]
    exact args_stay hl hb _ _ _ _ (fun t h => by have := List.all_eq_true.1 hr t h; simpa using this) hA fun x hx => hW'.lt x (List.mem_append_left _ hx)
  · rw [hs, hv]
    exact rfl
end
end Go.Proofs.Ytdaipfmckonfpaa
namespace Go.Proofs.Ytdaipfmckonfpaa
open Go.ChangeShapes Go.WideShapes Go.ChangeAt Go.RowKit Go.Deep


theorem Try.cells5 : Try.prog.cellsOf 5 = 1 := by kernel_rfl
theorem Try.cells42 : Try.prog.cellsOf 42 = 1 := by kernel_rfl
theorem nums_src {W : World} {a : Addr} {cap len : Nat} {zs : List Int} (hl : len ≤ cap) (hz : zs.length = cap) (hc : ∀ j, j < cap → W.cell? (a.add j) = some (.int .u8 (zs.getD j 0))) (hw : ∀ n ∈ zs, (Lit.int .u8 n).wf = true) :
    ((zs.take len).map Int.toNat).length = len ∧ Src W (some a) (bts ((zs.take len).map Int.toNat)) ∧ ∀ b ∈ (zs.take len).map Int.toNat, b < 256 := by
  have hlen : ((zs.take len).map Int.toNat).length = len := by rw [List.length_map, List.length_take]; omega
  refine ⟨hlen, fun h0 => ⟨a, rfl, fun j u hu => ?_⟩, fun b hb => ?_⟩
  · have hj : j < len := by
      have h1 := (List.getElem?_eq_some_iff.1 hu).1
      rw [length_bts, hlen] at h1
      exact h1
    have h2 := hc j (by omega)
    rw [h2]
    have hjz : j < zs.length := by omega
    have hww := bounds_u8 (hw zs[j] (List.getElem_mem hjz))
    have h3 : ((zs.take len).map Int.toNat)[j]? = some zs[j].toNat := by
      rw [List.getElem?_map, List.getElem?_take, if_pos hj, List.getElem?_eq_getElem hjz]
      rfl
    have h4 := bts_at h3
    rw [h4] at hu
    injection hu with hu
    rw [← hu, List.getD_eq_getElem?_getD, List.getElem?_eq_getElem hjz]
    simp only [Option.getD_some]
    rw [Int.toNat_of_nonneg hww.1]
  · rw [List.mem_map] at hb
    obtain ⟨z, hz2, rfl⟩ := hb
    have hww := bounds_u8 (hw z (List.mem_of_mem_take hz2))
    omega
end Go.Proofs.Ytdaipfmckonfpaa
namespace Go.Proofs.Ytdaipfmckonfpaa
open Go.ChangeShapes Go.WideShapes Go.ChangeAt Go.RowKit Go.Deep Go.Joins

theorem Try.cells57p : Try.prog.cellsOf 57 = 2 := by kernel_rfl
theorem Try.cells3p : Try.prog.cellsOf 3 = 1 := by kernel_rfl
set_option maxRecDepth 100000 in
theorem bytes_cellp {H : Type} {enc : TypeId × Value → H} {W : World} {fuel : Nat} {cs : List Value} {y : DataW H × List MemPlace} (hf : DataW.trod enc Try.prog W 0 (fun _ => true) true fuel 42 cs = some y) :
    ∃ r : RowB, cs = [r.v] ∧ r.ok W := by
  rcases open_ints Try.underlying42 Try.underlying5 Try.cells5 hf with ⟨hcs, _⟩ | ⟨a, len', cap', zs, hcs, _, hl, hm, hz, _, hcell, hwz⟩
  · exact ⟨⟨none, 0, []⟩, hcs, fun h0 => absurd h0 (by simp [bts]), Nat.le_refl _, by show 0 ≤ 9223372036854775807; omega, fun b hb => by cases hb⟩
  · have hz : zs.length = cap' := by simpa using hz
    obtain ⟨h1, h2, h3⟩ := nums_src hl hz (fun j hj => hcell j (by omega)) hwz
    refine ⟨⟨some a, cap', (zs.take len').map Int.toNat⟩, by rw [hcs]; unfold RowB.v; rw [h1], h2, by show ((zs.take len').map Int.toNat).length ≤ cap'; omega, by show cap' ≤ 9223372036854775807; unfold maxLen at hm; exact hm, h3⟩
set_option maxRecDepth 100000 in
theorem part_cells {H : Type} {enc : TypeId × Value → H} {W : World} {fuel : Nat} {cs : List Value} {x : DataW H × List MemPlace}
    (h : DataW.trod enc Try.prog W 0 (fun _ => true) true fuel 57 cs = some x) : ∃ (a : Int) (r : RowB), cs = [.int .i64 a, r.v] ∧ r.ok W := by
  obtain ⟨xs, n, _, _, hl, hxs, hf⟩ := DataW.trod_struct Try.underlying57 h
  have h0 := hf 0 _ rfl
  have h1 := hf 1 _ rfl
  rw [Try.cells57p] at hl
  match cs, hl with
  | [c0, c1], _ =>
    have hxs' : xs.length = 2 := by simpa using hxs
    match xs, hxs' with
    | [y0, y1], _ =>
      have h0' : DataW.trod enc Try.prog W 0 (fun _ => true) true n 3 (([c0, c1].drop 0).take (Try.prog.cellsOf 3)) = some y0 := h0
      have h1' : DataW.trod enc Try.prog W 0 (fun _ => true) true n 42 (([c0, c1].drop 1).take (Try.prog.cellsOf 42)) = some y1 := h1
      rw [Try.cells3p] at h0'
      rw [Try.cells42] at h1'
      obtain ⟨a, ea, _, _⟩ := DataW.trod_int Try.underlying3 h0'
      obtain ⟨r, er, hr⟩ := bytes_cellp h1'
      simp at ea er
      exact ⟨a, r, by rw [ea, er], hr⟩
set_option maxRecDepth 100000 in
theorem parts_arg {H : Type} {enc : TypeId × Value → H} {W : World} {base : Nat} {v : Value} {d : DataW H} {p : List MemPlace} (hok : Value.okWide Try.prog W .any base 40 v)
    (h : DataW.Trod enc Try.prog W 0 (fun _ => true) true 40 v d p) : ∃ (A : Option Addr) (cap : Nat) (l : List PartM), v = .slice A l.length cap ∧ l.length ≤ cap ∧ cap ≤ 9223372036854775807 ∧ XSrc W A l := by
  obtain ⟨a0, len, cap, rfl⟩ := okWide_slice Try.underlying40 hok
  obtain ⟨fuel, hf⟩ := h
  rcases open_slice Try.underlying40 hf with ⟨hcs, _⟩ | ⟨a, len', cap', m, n, D, Pl, hcs, _, hl, hm, hmm, _, hcell⟩
  · have e : Value.slice a0 len cap = .slice none 0 0 := by simpa [Value.cells] using hcs
    rw [e]
    exact ⟨none, 0, [], rfl, Nat.le_refl _, by omega, fun h0 => absurd h0 (by simp)⟩
  · have e : Value.slice a0 len cap = .slice (some a) len' cap' := by simpa [Value.cells] using hcs
    rw [e]
    have hm' : m = cap' := by simpa using hmm
    have each : ∀ i, i < len' → ∃ o : PartM, W.cell? (a.add (i * 2)) = some (.int .i64 o.id) ∧ W.cell? (a.add (i * 2 + 1)) = some o.r.v ∧ o.r.ok W := by
      intro i hi
      obtain ⟨cs', hc, ht⟩ := hcell i (by omega)
      rw [Try.cells57p] at hc
      obtain ⟨t, r, rfl, hr⟩ := part_cells ht
      obtain ⟨_, _, hat⟩ := World.cells?_some hc
      have h0 := hat 0 (by omega)
      have h1 := hat 1 (by omega)
      rw [add_add] at h0 h1
      exact ⟨⟨t, r⟩, h0, h1, hr⟩
    have pick : ∃ f : Nat → PartM, ∀ i, i < len' → W.cell? (a.add (i * 2)) = some (.int .i64 (f i).id) ∧ W.cell? (a.add (i * 2 + 1)) = some (f i).r.v ∧ (f i).r.ok W := by
      refine ⟨fun i => if hi : i < len' then (each i hi).choose else ⟨0, ⟨none, 0, []⟩⟩, fun i hi => ?_⟩
      simp only [dif_pos hi]
      exact (each i hi).choose_spec
    obtain ⟨f, hf'⟩ := pick
    have hlen : ((List.range len').map f).length = len' := by simp
    refine ⟨some a, cap', (List.range len').map f, by rw [hlen], by omega, by unfold maxLen at hm; exact hm, fun h0 => ?_⟩
    rw [hlen] at h0
    obtain ⟨b, off, spot⟩ := a
    have hspot : spot = none := by
      have hc := (hf' 0 (by omega)).1
      simpa [Addr.add] using World.cell?_spot hc
    subst hspot
    refine ⟨b, off, rfl, fun k o ho => ?_⟩
    have hk : k < len' := by
      have h1 := (List.getElem?_eq_some_iff.1 ho).1
      rw [hlen] at h1
      exact h1
    have ho' : o = f k := by
      rw [List.getElem?_map, List.getElem?_range hk] at ho
      simp at ho
      exact ho.symm
    subst ho'
    have h3 := hf' k hk
    rw [add_plain, add_plain] at h3
    simpa [Nat.add_assoc] using h3
end Go.Proofs.Ytdaipfmckonfpaa
