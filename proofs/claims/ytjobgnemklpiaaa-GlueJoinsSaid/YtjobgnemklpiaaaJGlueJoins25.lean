/-
  GlueJoins walked. A law's row follows from its walk: the call returns true, and below the heap's old size the world is as it was; then every argument reads as it did. How lists of rows of bytes that a statement draws read.
-/
import Derived.Test.YtjobgnemklpiaaaJGlueJoins24
import Derived.StillTailTactics
import Derived.Deep.RegionHeld3
import Derived.Test.YtjobgnemklpiaaaRows
import Derived.WalkKit
import Derived.ProofKit
import Derived.OpenShut
import Derived.Test.YtjobgnemklpiaaaJGlueJoins22
namespace Go.Proofs.Ytjobgnemklpiaaa
open Go.RowKit

set_option maxRecDepth 100000 in
set_option maxHeartbeats 25600000 in
theorem gjoins_every {A0 A1 : Option Addr} {L0 : List RowB} {l1 : List Nat} (N0 N1 c0 c1 : Nat) (W : World) (hN0 : L0.length = N0) (hN1 : l1.length = N1) (hn0 : N0 ≤ 9223372036854775807) (hn1 : N1 ≤ 9223372036854775807)
    (hs0 : RSrc W A0 L0) (hs1 : Src W A1 (u16v l1)) (hb1 : ∀ b ∈ l1, b < 65536) :
    Calls Try.prog 9 #[.slice A0 N0 c0, .slice A1 N1 c1] W fun e w' => e = .returned (.bool true) ∧ Below W.heap.size W w' := by
  have HAL := Lib.hid (fun V => galive_any V)
  have HPC := Lib.hid (pieces_any N0 N1 c0 c1 W hN0 hN1 hn0 hn1 hs0 hs1 hb1)
  clear hN0 hN1 hs0 hs1 hb1
  go_enter Try.func9, Try.ntmps9
  go_wp2_with fail
  refine HPC.out.mono ?_
  rintro e w1 (⟨v1, v2, rfl, hbl⟩ | ⟨last, A, c, nk, K, OA, d, P, rfl, hnk, hnk9, hnp9, hCP⟩)
  · have HB1 := Lib.hid hbl
    clear hbl
    go_wp2_with (go_at_call 60; (with_reducible refine (HAL.out _).mono ?_); rintro e w6 ⟨rfl, hb6⟩; (have HB6 := Lib.hid hb6; clear hb6))
    go_ret
    exact ⟨rfl, bl_step HB1.out HB6.out⟩
  · have HPM := Lib.hid (hCP.pm rfl)
    have HKS := Lib.hid hCP.kept_src
    have hF : ∀ f ∈ K.map RowB.bs, f.length ≤ 1000 := fun f hf => by
      obtain ⟨r, hr, rfl⟩ := List.mem_map.1 hf
      exact (hCP.small r hr).2
    have hF8 : ∀ f ∈ K.map RowB.bs, ∀ x ∈ f, x < 256 := fun f hf => by
      obtain ⟨r, hr, rfl⟩ := List.mem_map.1 hf
      exact (hCP.ok r hr).2.2.2
    have hFn : ∀ f ∈ K.map RowB.bs, f ≠ [] := fun f hf e => by
      obtain ⟨r, hr, rfl⟩ := List.mem_map.1 hf
      have := (hCP.small r hr).1
      rw [e] at this
      simp at this
    have HF := Lib.hid hF
    have HF8 := Lib.hid hF8
    have HB1 := Lib.hid (hCP.below)
    have HCH := Lib.hid (show Chain false (K.map RowB.bs) P false [] from hCP.ch)
    have HNK := Lib.hid hnk
    have HKB := Lib.hid hCP.q.q.2.1
    generalize hpl : P.length = np at *
    have HNP := Lib.hid hpl
    clear hCP hF hF8 hnk hpl
    go_wp2_with fail
    refine (gnew_any w1).mono ?_
    rintro e w2 ⟨rfl, hg, hb2⟩
    have HJ0 := Lib.hid (show JS w1 w1.heap.size (K.map RowB.bs) P 0 0 (.slice none 0 0) false (K.map RowB.bs) [] w2 from ⟨hg, hb2, rfl, HCH.out, ⟨rfl, fun _ => rfl, (fun h => by cases h), hFn, Nat.zero_le _⟩⟩)
    generalize w1.heap.size = p2 at *
    clear hg hb2 hFn
    go_wp2_with fail
    go_loopw [9, 10] (fun nv iv wr => ∃ (i n : Nat) (hv : Value) (hb : Bool) (bss : List (List Nat)) (h : List Nat), i ≤ np ∧ n ≤ nk ∧ iv = .int .i64 i ∧ nv = .int .i64 n ∧ Hid (JS w1 p2 (K.map RowB.bs) P i n hv hb bss h wr)) (fun _ iv _ => np - (intOf iv).toNat)
    case atStart => exact ⟨0, 0, _, _, _, _, by omega, by omega, rfl, rfl, HJ0⟩
    case round =>
      clear HJ0
      obtain ⟨i, n, hv, hb, bss, h, hi, hn, rfl, rfl, HJ⟩ := hrel
      rcases Nat.lt_or_ge i np with hlt | hge
      · obtain ⟨x, hx⟩ : ∃ x, P[i]? = some x := ⟨_, List.getElem?_eq_getElem (by rw [HNP.out]; exact hlt)⟩
        obtain ⟨g3, rfl, hc0, hc1, hc2⟩ := HPM.out.cell i x hx
        have hbw : Below w1.heap.size w1 wr := HJ.out.below.mono (Nat.le_of_eq HJ.out.base.symm)
        have y0 := kept_box hbw hc0
        have y1 := kept_box hbw hc1
        have HC2 := Lib.hid hc2
        have HPU := Lib.hid ((HJ.out.later (bl_drew (Below.refl _ _))).put HPM.out HF.out HF8.out hx)
        have hi0 : (0 : Int) ≤ (i : Int) := by omega
        have hi1 : (i : Int) < (np : Int) := by omega
        obtain ⟨fi, hfi⟩ : ∃ fi, x.fi = fi := ⟨_, rfl⟩
        obtain ⟨xl, hxl⟩ : ∃ xl, x.L.length = xl := ⟨_, rfl⟩
        obtain ⟨xk, hxk⟩ : ∃ xk, x.k = xk := ⟨_, rfl⟩
        rw [hfi] at y0 HPU hc0
        rw [hxl] at y1 HPU hc1
        have HC0 := Lib.hid hc0
        have HC1 := Lib.hid hc1
        rw [hxk] at HPU HC2
        have HX := Lib.hid hx
        have HXK := Lib.hid hxk
        clear hc0 hc1 hc2 hbw hx hfi hxl hxk
        go_wp2_with fail
        have k0 : wr.drew.cell? ⟨g3, i * 3, none⟩ = some (.int .i64 fi) ∧ wr.drew.cell? ⟨g3, i * 3 + 1, none⟩ = some (.slice x.A xl xl) := ⟨y0, y1⟩
        go_region_held3 (fun w' => w'.cell? ⟨g3, i * 3, none⟩ = some (.int .i64 fi) ∧ w'.cell? ⟨g3, i * 3 + 1, none⟩ = some (.slice x.A xl xl)) (first | assumption | exact k0 | exact k1 | go_keep) (first
          | (go_at_call 62; (with_reducible refine HPU.out.mono ?_); rintro e w3 ⟨hv', hb', bss', h', L2, A2, rfl, hl2, htx2, hle2, hrs2, hj2⟩; (have hbw3 : Below w1.heap.size w1 w3 := hj2.below.mono (Nat.le_of_eq hj2.base.symm)); (have HJ2 := Lib.hid hj2); (have HL2 := Lib.hid hl2); (have HT2 := Lib.hid htx2); (have HRS2 := Lib.hid hrs2); (have HBW3 := Lib.hid hbw3); (have y2 := kept_box hbw3 HC2.out); (have hnk2 : n + xk ≤ nk := by rw [List.length_map] at hle2; have := HNK.out; omega); (have k1 : w3.cell? ⟨g3, i * 3, none⟩ = some (.int .i64 fi) ∧ w3.cell? ⟨g3, i * 3 + 1, none⟩ = some (.slice x.A xl xl) := ⟨kept_box hbw3 HC0.out, kept_box hbw3 HC1.out⟩); clear hj2 hl2 htx2 hle2 hrs2 hbw3))
        go_wp2_with fail
        clear k0 k1 y0 y1 y2
        go_loopw [9, 13] (fun nv kv wu => ∃ i' nm : Nat, i' ≤ xk ∧ kv = .int .i64 i' ∧ nv = .int .i64 nm ∧ Hid (nm = n + i') ∧ Hid (Below w3.heap.size w3 wu)) (fun _ kv _ => xk - (intOf kv).toNat)
        case atStart => exact ⟨0, n, by omega, rfl, rfl, Lib.hid rfl, Lib.hid (Below.refl _ _)⟩
        case round =>
          obtain ⟨m, nm, hm, rfl, rfl, HNM, HBU⟩ := hrel
          rcases Nat.lt_or_ge m xk with hlt2 | hge2
          · obtain ⟨r2, hr2⟩ : ∃ r, L2[m]? = some r := ⟨_, List.getElem?_eq_getElem (by rw [HL2.out]; exact hlt2)⟩
            obtain ⟨rk, hrk⟩ : ∃ r, K[n + m]? = some r := ⟨_, List.getElem?_eq_getElem (by have := HNK.out; omega)⟩
            obtain ⟨ad2, rfl, hcl2⟩ := (HRS2.out.later HBU.out) (by rw [HL2.out]; omega)
            obtain ⟨adk, rfl, hclk⟩ := ((HKS.out.later HBW3.out).later HBU.out) (by have := (List.getElem?_eq_some_iff.1 hrk).1; omega)
            have heq : r2.bs = rk.bs := by
              have h1 := texts_at hr2
              rw [HT2.out, List.getElem?_take, if_pos hlt2, List.getElem?_drop, List.getElem?_map, hrk] at h1
              injection h1 with h1
              exact h1.symm
            obtain ⟨q1, q2⟩ := hcl2 m r2 hr2
            obtain ⟨q3, q4⟩ := hclk (n + m) rk hrk
            unfold RowB.v at q1 q3
            have cv1 := conv_src (w := wr.drew) (A := r2.A) (l := r2.bs) r2.bs.length r2.cap rfl (src_later q2.1 (bl_drew (Below.refl _ _))) q2.2.2.2
            have cv2 := conv_src (w := wr.drew) (A := rk.A) (l := r2.bs) r2.bs.length rk.cap rfl (by rw [heq]; exact src_later q4.1 (bl_drew (Below.refl _ _))) q2.2.2.2
            rw [← heq] at q3
            have hnm9 := HNM.out
            have d1 : decide ((nk : Int) ≤ (nm : Int)) = false := decide_eq_false (by omega)
            have d1n : decide (nk ≤ nm) = false := decide_eq_false (by omega)
            have d1m : ¬ nk ≤ nm := by omega
            have hm0 : (0 : Int) ≤ (m : Int) := by omega
            have hm1 : (m : Int) < (xk : Int) := by omega
            have hn0' : (0 : Int) ≤ (nm : Int) := by omega
            have hn1' : (nm : Int) < (nk : Int) := by omega
            rw [← hnm9] at q3
            have x1 : wr.drew.cell? (ad2.add m) = some (.slice r2.A r2.bs.length r2.cap) := q1
            have x2 : wr.drew.cell? (adk.add nm) = some (.slice rk.A r2.bs.length rk.cap) := q3
            clear hcl2 hclk q1 q2 q3 q4 heq hr2 hrk hnm9
            generalize r2.bs.length = bl at *
            generalize strOf r2.bs = st at *
            go_wp2_with fail
            refine wp_region_still_lit (by kernel_rfl) (by kernel_rfl) ?_
            change wpStill _ _ wr.drew (fun b => _) _ _
            generalize wr.drew = w9 at x1 x2 cv1 cv2 ⊢
            repeat still_step
            refine wpStill_nil ?_
            go_wp2_with fail
            go_roundw
            case rel => exact ⟨m + 1, nm + 1, by omega, by go_num, by go_num, Lib.hid (by have := HNM.out; omega), Lib.hid (bl_step HBU.out (bl_drew (Below.refl _ _)))⟩
            case measure => simp [intOf]; omega
          · obtain rfl : xk = m := by omega
            have HN9 := Lib.hid (show nm ≤ nk from by have := HNM.out; omega)
            have HJ9 : Hid (JS w1 p2 (K.map RowB.bs) P (i + 1) nm hv' hb' bss' h' wr) := by rw [HNM.out]; exact Lib.hid (HJ2.out.later HBU.out)
            go_wp2_with fail
            go_roundw
            case rel => exact ⟨i + 1, nm, hv', hb', bss', h', by omega, HN9.out, by go_num, rfl, HJ9⟩
            case measure => simp [intOf]; omega
      · obtain rfl : np = i := by omega
        have hch := HJ.out.ch
        rw [← HNP.out, List.drop_length] at hch
        obtain ⟨rfl, rfl⟩ := hch
        have hgi := HJ.out.gi
        obtain rfl := hgi.off rfl
        have hnn : n = nk := by
          have h1 := congrArg List.length hgi.full
          rw [List.length_drop, List.length_map] at h1
          have h2 := hgi.le
          rw [List.length_map] at h2
          have h3 := HNK.out
          simp [fullT] at h1
          omega
        subst hnn
        have HBW := Lib.hid HJ.out.below
        have HB9 := Lib.hid HJ.out.base
        have HHE := Lib.hid (fun V (hV : Below wr.heap.size wr V) => (gheld_any (HJ.out.rep.later hV) : Calls Try.prog 63 #[.pointer (some ⟨p2, 0, none⟩)] V fun e w' => e = .returned (.int .i64 (0 : Nat)) ∧ V = w'))
        have HLO := Lib.hid (fun V (hV : Below wr.heap.size wr V) => (glost_any (HJ.out.rep.later hV) : Calls Try.prog 64 #[.pointer (some ⟨p2, 0, none⟩)] V fun e w' => e = .returned (.int .i64 (0 : Nat)) ∧ V = w'))
        clear hgi
        go_wp2_with (first
          | (go_at_call 60; (with_reducible refine (HAL.out _).mono ?_); rintro e v1 ⟨rfl, hb1⟩; (have HV1 := Lib.hid hb1); clear hb1)
          | (go_at_call 63; (with_reducible refine (HHE.out _ HV1.out).mono ?_); rintro e v2 ⟨rfl, rfl⟩)
          | (go_at_call 64; (with_reducible refine (HLO.out _ HV1.out).mono ?_); rintro e v3 ⟨rfl, rfl⟩))
        go_ret
        exact ⟨rfl, HB1.out.trans ((HBW.out.trans (HV1.out.mono (Nat.le_of_lt HJ.out.rep.1.inside))).mono HKB.out)⟩
end Go.Proofs.Ytjobgnemklpiaaa
namespace Go.Proofs.Ytjobgnemklpiaaa
open Go.ChangeShapes Go.WideShapes Go.ChangeAt Go.RowKit

theorem lawOwn : ownKnob Try.prog.godebug = none := by kernel_rfl
theorem lawLaid : laidOutB Try.prog = true := by kernel_rfl

section
variable {H : Type} {enc : TypeId × Value → H} {P : Program}
/-- what was read in the old world is read in the new one -/
theorem args_stay (hl : laidOutB P = true) {W W' : World} (hb : Below W.heap.size W W') : ∀ (ts : List TypeId) (vs : List Value) (ds : List (DataW H)) (ps : List MemPlace),
    (∀ t ∈ ts, P.readableRec t = true ∧ t < P.types.size) → DataW.TrodAll enc P W 0 (fun _ => true) true ts vs ds ps → (∀ x ∈ ps, x.block < W.heap.size) →
    DataW.TrodAll enc P W' 0 (fun b => decide (b < W.heap.size)) true ts vs ds ps := by
  intro ts
  induction ts with
  | nil =>
    intro vs ds ps _ h _
    obtain ⟨rfl, rfl, rfl⟩ := trodAll_nil h
    exact trodAll_mk0
  | cons t ts ih =>
    intro vs ds ps hr h hlt
    obtain ⟨v, vs', d, ds', p, q, rfl, rfl, rfl, h1, h2⟩ := trodAll_cons h
    have ht := hr t (List.mem_cons_self ..)
    exact trodAll_cons_mk (Below.trod hl ht.1 ht.2 h1 hb fun x hx => hlt x (List.mem_append_left _ hx))
      (ih vs' ds' q (fun u hu => hr u (List.mem_cons_of_mem _ hu)) h2 fun x hx => hlt x (List.mem_append_right _ hx))

theorem law_post {f : Func} {s : ChangeSpec} {W W' : World} {args : Array Value} {ds gs : List (DataW H)} {before : List MemPlace} {B : TypeId}
    (hl : laidOutB P = true) (hr : f.params.toList.all (fun t => P.readableRec t && decide (t < P.types.size)) = true) (hv : s.vars = [])
    (hW : DataW.Whole enc P f.params.toList s.vars false W args.toList ds gs before)
    (hs : s.fn H (ds ++ gs) = { results := [.lit (.bool true)], args := ds }) (ht : f.resultTypes = #[B]) (hB : P.underlying B = some .bool)
    (hb : Below W.heap.size W W') : s.post enc P f false true false false W args (.bool true) W' := by
  have hW' := hW
  obtain ⟨p, q, hA, hV, rfl, _, _⟩ := hW
  rw [hv] at hV
  obtain ⟨rfl, rfl⟩ := trodVars_none hV
  refine ⟨ds, [], p ++ [], [], p, [], hW', ?_, ?_, ?_, hb.frame _, fun h => by cases h⟩
  · rw [hs, ht]
    exact trodAll_mk1 (shut_bool hB true)
  · rw [hs]
    exact args_stay hl hb _ _ _ _ (fun t h => by have := List.all_eq_true.1 hr t h; simpa using this) hA fun x hx => hW'.lt x (List.mem_append_left _ hx)
  · rw [hs, hv]
    exact rfl
end
end Go.Proofs.Ytjobgnemklpiaaa
namespace Go.Proofs.Ytjobgnemklpiaaa
open Go.ChangeShapes Go.WideShapes Go.ChangeAt Go.RowKit Go.Deep

set_option maxRecDepth 100000 in
theorem rows_arg {H : Type} {enc : TypeId × Value → H} {W : World} {base : Nat} {v : Value} {d : DataW H} {p : List MemPlace} (hok : Value.okWide Try.prog W .any base 57 v)
    (h : DataW.Trod enc Try.prog W 0 (fun _ => true) true 57 v d p) : ∃ (A : Option Addr) (cap : Nat) (L : List RowB), v = .slice A L.length cap ∧ L.length ≤ cap ∧ cap ≤ 9223372036854775807 ∧ RSrc W A L ∧ ∀ m ∈ lens L, m ≤ 9223372036854775807 := by
  obtain ⟨a0, len, cap, rfl⟩ := okWide_slice Try.underlying57 hok
  obtain ⟨fuel, hf⟩ := h
  exact rows_cells hf
end Go.Proofs.Ytjobgnemklpiaaa
