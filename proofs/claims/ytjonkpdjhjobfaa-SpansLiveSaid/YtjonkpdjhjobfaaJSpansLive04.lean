/-
  The document's answers for spans: With. The document's runs of places: what the call makes. The closure of Add: spans ahead, spans behind, one span of what it meets.
-/
import Derived.Test.YtjonkpdjhjobfaaJSpansLive03
import Derived.Test.YtjonkpdjhjobfaaJSpansLive01
import Derived.Deep.Onto
import Derived.Deep.DeepCutAuto
import Derived.Deep.CutBlock
import Derived.Test.YtjonkpdjhjobfaaJSpansLive02
namespace Go.Proofs.Ytjonkpdjhjobfaa
open Go.RowKit
def vlen : Value → Nat
  | .slice _ n _ => n
  | _ => 0
theorem Try.info71s : (Try.prog.info? 71).map (·.size) = some 1 := by kernel_rfl
theorem Try.under71s : (Try.prog.underlying 71).map (fun d => match d with | .struct _ => true | _ => false) = some true := by kernel_rfl
theorem under71_parts : ∃ fs, Try.prog.underlying 71 = some (.struct fs) := by
  obtain ⟨d, hd, h⟩ := Option.map_eq_some_iff.1 Try.under71s
  cases d with
  | struct fs => exact ⟨fs, hd⟩
  | _ => simp at h
theorem length_padB (l : List Bool) (k : Nat) : (padB l k).length = l.length + k := by simp [padB]
theorem padB_next (l : List Bool) (k : Nat) : sbls (padB l (k + 1)) = sbls (padB l k) ++ [.bool false] := by
  rw [show padB l (k + 1) = padB l k ++ [false] by unfold padB; rw [List.replicate_succ', List.append_assoc]]
  simp [sbls]
theorem bls_set (l : List Bool) (i : Nat) (v : Bool) : (sbls l).set i (.bool v) = sbls (l.set i v) := by simp [sbls, List.map_set]
theorem one_false {w : World} {t : TypeId} : ∀ j u, [Value.bool false][j]? = some u → (w.alloc (.cells #[.bool false] t)).cell? ((⟨w.heap.size, 0, none⟩ : Addr).add j) = some u := by
  intro j u hu
  rcases j with _ | j
  · injection hu with hu
    rw [← hu]
    exact (Row.made w t #[.bool false]).read (i := 0) rfl
  · simp at hu
set_option maxRecDepth 100000 in
set_option maxHeartbeats 3200000 in
theorem with_any {A : Option Addr} {l : List Bool} (c a b N : Nat) (v : Bool) (w : World) (hN : l.length = N) (hl : N ≤ 65536) (hb : b ≤ 65536) (hab : a ≤ b) (hs : SrcO w A (sbls l)) :
    Calls Try.prog 104 #[.agg #[.slice A N c], .agg #[.int .i64 a, .int .i64 b], .bool v] w fun e w' => ∃ x, e = .returned (.agg #[x]) ∧ SOwnL w.heap.size w' x (withB l a b v) ∧ Below w.heap.size w w' := by
  obtain ⟨i0, hi, hi0, hi1, hi2⟩ := info4_parts
  have HS := Lib.hid hs
  have HN := Lib.hid hN
  clear hs hN
  obtain ⟨W0, hW0⟩ : ∃ W0, W0 = ((w.alloc (.cells #[.slice A N c] 71)).alloc (.cells #[.int .i64 a, .int .i64 b] 77)).alloc (.cells #[.slice none 0 0] 71) := ⟨_, rfl⟩
  have HW0 := Lib.hid (show Row W0 (w.heap.size + 1) 77 #[.int .i64 a, .int .i64 b] ∧ Row W0 (w.heap.size + 2) 71 #[.slice none 0 0] ∧ Below w.heap.size w W0 ∧ W0.heap.size = w.heap.size + 3 ∧ SrcO W0 A (sbls l) from by
    subst hW0
    have hb0 : Below w.heap.size w (((w.alloc (.cells #[.slice A N c] 71)).alloc (.cells #[.int .i64 a, .int .i64 b] 77)).alloc (.cells #[.slice none 0 0] 71)) := bl_alloc (bl_alloc (bl_alloc (Below.refl _ _) _) _) _
    refine ⟨?_, ?_, hb0, by simp, HS.out.later hb0⟩
    · have h := (Row.made (w.alloc (.cells #[.slice A N c] 71)) 77 #[.int .i64 a, .int .i64 b]).more (.cells #[.slice none 0 0] 71)
      simpa using h
    · have h := Row.made ((w.alloc (.cells #[.slice A N c] 71)).alloc (.cells #[.int .i64 a, .int .i64 b] 77)) 71 #[.slice none 0 0]
      simpa using h)
  rcases Nat.eq_zero_or_pos N with h0 | h0
  · subst h0
    have HLN := Lib.hid (List.eq_nil_of_length_eq_zero HN.out)
    go_enter Try.func104, Try.ntmps104
    go_wp2_with (at_builtin; refine wpList_append_empty4 _ rfl _ _ _ (by rfl) 4 i0 Try.under50 hi (by rfl) A c (by rfl) ?_)
    rw [← hW0]
    have HO : Hid (SOwnL W0.heap.size W0 (.slice none 0 0) (padB l 0)) := Lib.hid (by
      rw [HLN.out]
      exact World.ownsRow_nil _ _ _ _)
    have HB := Lib.hid (Below.refl W0.heap.size W0)
    go_wp2_with fail
    obtain ⟨N, hN0⟩ : ∃ N : Nat, N = 0 := ⟨0, rfl⟩
    replace HN := Lib.hid (show l.length = N from HN.out.trans hN0.symm)
    have hlN : N ≤ 65536 := by omega
    clear hN0
    have HC0 := Lib.hid (show Row W0 (w.heap.size + 1) 77 #[.int .i64 a, .int .i64 b] from HW0.out.1)
    have HC1 := Lib.hid (show Row W0 (w.heap.size + 2) 71 #[.slice none 0 0] from HW0.out.2.1)
    go_loopw [7] (fun x wr => ∃ k : Nat, k ≤ b - N ∧ Hid (SOwnL W0.heap.size wr x (padB l k)) ∧ Hid (Below W0.heap.size W0 wr)) (fun x _ => b - vlen x)
    case atStart => exact ⟨0, by omega, HO, HB⟩
    case round =>
      obtain ⟨k, hk, HO9, HB9⟩ := hrel
      clear HO HB
      obtain ⟨Ax, cx, rfl⟩ := HO9.out.form
      have hlen : (padB l k).length = N + k := by unfold padB; simp [HN.out]
      rw [hlen]
      have HO8 := Lib.hid (show wr.ownsRow W0.heap.size 4 1 (.slice Ax (N + k) cx) (N + k) (sbls (padB l k)) from by
        have h := HO9.out
        unfold SOwnL at h
        rwa [hlen] at h)
      have HR := Lib.hid (HC0.out.later HB9.out)
      have c15 := HR.out.read (i := 1) rfl
      by_cases h1 : N + k < b
      · have h1' : ((N + k : Nat) : Int) < (b : Int) := by omega
        go_wp2_with (at_builtin; refine wpList_append_lies _ rfl _ _ _ (by rfl) W0.heap.size 4 i0 (.bool false) 1 1 Try.under50 hi hi0 hi1 hi2 rfl (by omega) (.slice Ax (N + k) cx) (N + k) (sbls (padB l k)) (by rfl) (HO8.out.alloc _) ⟨wr.heap.size, 0, none⟩ 1 1 [.bool false] (by rfl) (by rfl) one_false (sbls_one [false]) (by omega) (by unfold maxLen; omega) (by omega) ?h6 (wr.heap.size + 1) ?h7 ?_)
        case h6 => have := HB9.out.size; first | omega | (simp; omega)
        case h7 => simp
        intro g3 c3 w3 hown3 hgrow3 hg3 _
        try rw [show w.heap.size + 1 + 1 + 1 = W0.heap.size by rw [HW0.out.2.2.2.1]] at hown3
        have HO3 := Lib.hid (show SOwnL W0.heap.size w3 (.slice (some ⟨g3, 0, none⟩) (N + k + 1) c3) (padB l (k + 1)) from by
          unfold SOwnL
          rw [padB_next, length_padB, HN.out]
          exact hown3)
        have HB3 := Lib.hid ((HB9.out.alloc HB9.out.size (.cells #[.bool false] 4)).grown hgrow3 (by have := HB9.out.size; first | omega | (simp; omega)) (fun r hr => (own_block HO8.out r hr).1))
        clear hown3 hgrow3 hg3
        go_wp2
        go_roundw
        case rel => exact ⟨k + 1, by omega, HO3, HB3⟩
        case measure => simp [vlen]; omega
      · have HW := Lib.hid (show withB l a b v = setB (padB l k) a v (b - a) from by
          unfold withB
          rw [HN.out, show k = b - N by omega])
        have HLP := Lib.hid hlen
        clear hlen
        obtain ⟨M, hM⟩ : ∃ M, M = N + k := ⟨_, rfl⟩
        have hbM : b ≤ M := by omega
        have hMl : M ≤ 131072 := by omega
        have h1' : ¬ (M : Int) < (b : Int) := by omega
        have c20 := HR.out.read (i := 0) rfl
        rw [← hM] at HO8 HLP ⊢
        clear hM h1 hk HO9
        generalize padB l k = PL at *
        go_wp2
        have HO := Lib.hid (show SOwnL W0.heap.size wr (.slice Ax M cx) (setB PL a v 0) from by
          unfold SOwnL setB
          rw [HLP.out]
          exact HO8.out)
        clear HO8 HR c15 c20
        go_loopw [8] (fun i ws => ∃ q : Nat, q ≤ b - a ∧ i = .int .i64 ((a + q : Nat) : Int) ∧ Hid (SOwnL W0.heap.size ws (.slice Ax M cx) (setB PL a v q)) ∧ Hid (Below W0.heap.size W0 ws)) (fun i _ => b - (intOf i).toNat)
        case atStart => exact ⟨0, by omega, rfl, HO, HB9⟩
        case round =>
          obtain ⟨q, hq, rfl, HO7, HB7⟩ := hrel
          clear HO HB9
          have HR := Lib.hid (HC0.out.later HB7.out)
          have c25 := HR.out.read (i := 1) rfl
          obtain ⟨z, hz⟩ : ∃ z, z = a + q := ⟨_, rfl⟩
          have HZ := Lib.hid hz
          rw [← hz]
          by_cases h2 : z < b
          · have h2' : (z : Int) < (b : Int) := by omega
            have hzM : z < M := by omega
            have hzM' : (z : Int) < (M : Int) := by omega
            have hO := HO7.out
            unfold SOwnL at hO
            rw [length_setB, HLP.out] at hO
            obtain ⟨g, cg, cur, hx, hg0, hg⟩ : ∃ g cg cur, Value.slice Ax M cx = .slice (some ⟨g, 0, none⟩) M cg ∧ W0.heap.size ≤ g ∧ cur = g := by
              rcases hO.2 with ⟨_, h0⟩ | ⟨g, cg, cur, hx, hg0, _⟩
              · omega
              · exact ⟨g, cg, g, hx, hg0, rfl⟩
            clear hg
            injection hx with hx1 hx2 hx3
            subst hx1
            subst hx3
            have f1 := hO.frozenAt z
            have c1 := hO.cellAt z (by omega)
            obtain ⟨u, hu⟩ : ∃ u, (sbls (setB PL a v q))[z]? = some u := ⟨_, List.getElem?_eq_getElem (by rw [slength_bls, length_setB, HLP.out]; exact hzM)⟩
            rw [hu] at c1
            have hst := hO.stored z (.bool v)
            rw [bls_set, hz, ← setB, ← hz] at hst
            have HST := Lib.hid hst
            clear hst hO hz hu
            go_wp2
            go_roundw
            case rel => exact ⟨q + 1, by have := HZ.out; omega, congrArg (Value.int .i64) (by have := HZ.out; omega), Lib.hid (by
                unfold SOwnL
                rw [length_setB, HLP.out]
                exact HST.out.1), Lib.hid (HB7.out.grown HST.out.2 HB7.out.size (fun r hr => by injection hr with hr; omega))⟩
            case measure => simp [intOf]; omega
          · have h2' : ¬ (z : Int) < (b : Int) := by omega
            have hqe : q = b - a := by omega
            subst hqe
            clear hz
            have HR6 := Lib.hid (HC1.out.later HB7.out)
            have c6 := HR6.out.read (i := 0) rfl
            have f6 := HR6.out.free 0
            go_wp2
            have HRW := Lib.hid (show Row (wr.setCell ⟨w.heap.size + 1 + 1, 0, none⟩ (.slice Ax M cx)) (w.heap.size + 1 + 1) 71 #[.slice Ax M cx] from HR6.out.written 0 (.slice Ax M cx))
            have HF := Lib.hid (show SOwnL w.heap.size (wr.setCell ⟨w.heap.size + 1 + 1, 0, none⟩ (.slice Ax M cx)) (.slice Ax M cx) (withB l a b v) ∧ Below w.heap.size w (wr.setCell ⟨w.heap.size + 1 + 1, 0, none⟩ (.slice Ax M cx)) from by
              have hs := HW0.out.2.2.2.1
              refine ⟨?_, Below.setCell (bl_step HW0.out.2.2.1 HB7.out) (by show w.heap.size ≤ w.heap.size + 1 + 1; omega) _⟩
              rw [HW.out]
              exact (ownsRow_setCell_below HO7.out (by show w.heap.size + 1 + 1 < W0.heap.size; omega) _).mono (by omega))
            clear HO7 HB7 HW HR6 f6 c6
            obtain ⟨d31, hu31⟩ := under71_parts
            exact bodyPost_ret (results_cell_row rfl _ _ (w.heap.size + 1 + 1) 71 #[.slice Ax M cx] (0, 0) (.struct d31) rfl HRW.out hu31 rfl Try.info71s) rfl ⟨_, rfl, HF.out⟩
  · obtain ⟨b9, o9, rfl, hc⟩ := HW0.out.2.2.2.2 (by rw [slength_bls, HN.out]; exact h0)
    have hc2 : ∀ j u, (sbls l)[j]? = some u → W0.cell? ((⟨b9, o9, none⟩ : Addr).add j) = some u := fun j u hu => by
      have h1 := hc j u hu
      have e : (⟨b9, o9, none⟩ : Addr).add j = ⟨b9, o9 + j, none⟩ := by
        unfold Addr.add
        split
        · rename_i h; rw [h]; rfl
        · rfl
      rw [e]
      exact h1
    have HC9 := Lib.hid hc2
    have hlb : (sbls l).length = N := by rw [slength_bls, HN.out]
    have HLB := Lib.hid hlb
    clear hc hc2 hlb
    go_enter Try.func104, Try.ntmps104
    go_wp2_with (at_builtin; rw [← hW0]; refine wpList_append_lies _ rfl _ _ _ (by rfl) W0.heap.size 4 i0 (.bool false) 1 1 Try.under50 hi hi0 hi1 hi2 rfl (by omega) (.slice none 0 0) 0 [] (by rfl) (World.ownsRow_nil _ _ _ _) ⟨b9, o9, none⟩ N c (sbls l) (by rfl) (by rw [HLB.out, Nat.mul_one]) HC9.out (sbls_one l) h0 (by unfold maxLen; omega) (by omega) (Nat.le_refl _) W0.heap.size rfl ?_)
    intro g c2 w2 hown2 hgrow2 _ _
    have hsz : w.heap.size + 1 + 1 + 1 = W0.heap.size := by rw [HW0.out.2.2.2.1]
    try rw [hsz] at hown2
    try rw [hsz] at hgrow2
    try rw [← hW0] at hgrow2

    have HO := Lib.hid (show SOwnL W0.heap.size w2 (.slice (some ⟨g, 0, none⟩) N c2) (padB l 0) from by
      unfold SOwnL padB
      simp only [List.replicate_zero, List.append_nil, HN.out]
      simpa using hown2)
    have HB := Lib.hid ((Below.refl W0.heap.size W0).grown hgrow2 (Nat.le_refl _) (fun r hr => by simp [Value.ownBlock] at hr))
    clear hown2 hgrow2
    go_wp2_with fail
    have HC0 := Lib.hid (show Row W0 (w.heap.size + 1) 77 #[.int .i64 a, .int .i64 b] from HW0.out.1)
    have HC1 := Lib.hid (show Row W0 (w.heap.size + 2) 71 #[.slice none 0 0] from HW0.out.2.1)
    go_loopw [7] (fun x wr => ∃ k : Nat, k ≤ b - N ∧ Hid (SOwnL W0.heap.size wr x (padB l k)) ∧ Hid (Below W0.heap.size W0 wr)) (fun x _ => b - vlen x)
    case atStart => exact ⟨0, by omega, HO, HB⟩
    case round =>
      obtain ⟨k, hk, HO9, HB9⟩ := hrel
      clear HO HB
      obtain ⟨Ax, cx, rfl⟩ := HO9.out.form
      have hlen : (padB l k).length = N + k := by unfold padB; simp [HN.out]
      rw [hlen]
      have HO8 := Lib.hid (show wr.ownsRow W0.heap.size 4 1 (.slice Ax (N + k) cx) (N + k) (sbls (padB l k)) from by
        have h := HO9.out
        unfold SOwnL at h
        rwa [hlen] at h)
      have HR := Lib.hid (HC0.out.later HB9.out)
      have c15 := HR.out.read (i := 1) rfl
      by_cases h1 : N + k < b
      · have h1' : ((N + k : Nat) : Int) < (b : Int) := by omega
        go_wp2_with (at_builtin; refine wpList_append_lies _ rfl _ _ _ (by rfl) W0.heap.size 4 i0 (.bool false) 1 1 Try.under50 hi hi0 hi1 hi2 rfl (by omega) (.slice Ax (N + k) cx) (N + k) (sbls (padB l k)) (by rfl) (HO8.out.alloc _) ⟨wr.heap.size, 0, none⟩ 1 1 [.bool false] (by rfl) (by rfl) one_false (sbls_one [false]) (by omega) (by unfold maxLen; omega) (by omega) ?h6 (wr.heap.size + 1) ?h7 ?_)
        case h6 => have := HB9.out.size; first | omega | (simp; omega)
        case h7 => simp
        intro g3 c3 w3 hown3 hgrow3 hg3 _
        try rw [show w.heap.size + 1 + 1 + 1 = W0.heap.size by rw [HW0.out.2.2.2.1]] at hown3
        have HO3 := Lib.hid (show SOwnL W0.heap.size w3 (.slice (some ⟨g3, 0, none⟩) (N + k + 1) c3) (padB l (k + 1)) from by
          unfold SOwnL
          rw [padB_next, length_padB, HN.out]
          exact hown3)
        have HB3 := Lib.hid ((HB9.out.alloc HB9.out.size (.cells #[.bool false] 4)).grown hgrow3 (by have := HB9.out.size; first | omega | (simp; omega)) (fun r hr => (own_block HO8.out r hr).1))
        clear hown3 hgrow3 hg3
        go_wp2
        go_roundw
        case rel => exact ⟨k + 1, by omega, HO3, HB3⟩
        case measure => simp [vlen]; omega
      · have HW := Lib.hid (show withB l a b v = setB (padB l k) a v (b - a) from by
          unfold withB
          rw [HN.out, show k = b - N by omega])
        have HLP := Lib.hid hlen
        clear hlen
        obtain ⟨M, hM⟩ : ∃ M, M = N + k := ⟨_, rfl⟩
        have hbM : b ≤ M := by omega
        have hMl : M ≤ 131072 := by omega
        have h1' : ¬ (M : Int) < (b : Int) := by omega
        have c20 := HR.out.read (i := 0) rfl
        rw [← hM] at HO8 HLP ⊢
        clear hM h1 hk HO9
        generalize padB l k = PL at *
        go_wp2
        have HO := Lib.hid (show SOwnL W0.heap.size wr (.slice Ax M cx) (setB PL a v 0) from by
          unfold SOwnL setB
          rw [HLP.out]
          exact HO8.out)
        clear HO8 HR c15 c20
        go_loopw [8] (fun i ws => ∃ q : Nat, q ≤ b - a ∧ i = .int .i64 ((a + q : Nat) : Int) ∧ Hid (SOwnL W0.heap.size ws (.slice Ax M cx) (setB PL a v q)) ∧ Hid (Below W0.heap.size W0 ws)) (fun i _ => b - (intOf i).toNat)
        case atStart => exact ⟨0, by omega, rfl, HO, HB9⟩
        case round =>
          obtain ⟨q, hq, rfl, HO7, HB7⟩ := hrel
          clear HO HB9
          have HR := Lib.hid (HC0.out.later HB7.out)
          have c25 := HR.out.read (i := 1) rfl
          obtain ⟨z, hz⟩ : ∃ z, z = a + q := ⟨_, rfl⟩
          have HZ := Lib.hid hz
          rw [← hz]
          by_cases h2 : z < b
          · have h2' : (z : Int) < (b : Int) := by omega
            have hzM : z < M := by omega
            have hzM' : (z : Int) < (M : Int) := by omega
            have hO := HO7.out
            unfold SOwnL at hO
            rw [length_setB, HLP.out] at hO
            obtain ⟨g, cg, cur, hx, hg0, hg⟩ : ∃ g cg cur, Value.slice Ax M cx = .slice (some ⟨g, 0, none⟩) M cg ∧ W0.heap.size ≤ g ∧ cur = g := by
              rcases hO.2 with ⟨_, h0⟩ | ⟨g, cg, cur, hx, hg0, _⟩
              · omega
              · exact ⟨g, cg, g, hx, hg0, rfl⟩
            clear hg
            injection hx with hx1 hx2 hx3
            subst hx1
            subst hx3
            have f1 := hO.frozenAt z
            have c1 := hO.cellAt z (by omega)
            obtain ⟨u, hu⟩ : ∃ u, (sbls (setB PL a v q))[z]? = some u := ⟨_, List.getElem?_eq_getElem (by rw [slength_bls, length_setB, HLP.out]; exact hzM)⟩
            rw [hu] at c1
            have hst := hO.stored z (.bool v)
            rw [bls_set, hz, ← setB, ← hz] at hst
            have HST := Lib.hid hst
            clear hst hO hz hu
            go_wp2
            go_roundw
            case rel => exact ⟨q + 1, by have := HZ.out; omega, congrArg (Value.int .i64) (by have := HZ.out; omega), Lib.hid (by
                unfold SOwnL
                rw [length_setB, HLP.out]
                exact HST.out.1), Lib.hid (HB7.out.grown HST.out.2 HB7.out.size (fun r hr => by injection hr with hr; omega))⟩
            case measure => simp [intOf]; omega
          · have h2' : ¬ (z : Int) < (b : Int) := by omega
            have hqe : q = b - a := by omega
            subst hqe
            clear hz
            have HR6 := Lib.hid (HC1.out.later HB7.out)
            have c6 := HR6.out.read (i := 0) rfl
            have f6 := HR6.out.free 0
            go_wp2
            have HRW := Lib.hid (show Row (wr.setCell ⟨w.heap.size + 1 + 1, 0, none⟩ (.slice Ax M cx)) (w.heap.size + 1 + 1) 71 #[.slice Ax M cx] from HR6.out.written 0 (.slice Ax M cx))
            have HF := Lib.hid (show SOwnL w.heap.size (wr.setCell ⟨w.heap.size + 1 + 1, 0, none⟩ (.slice Ax M cx)) (.slice Ax M cx) (withB l a b v) ∧ Below w.heap.size w (wr.setCell ⟨w.heap.size + 1 + 1, 0, none⟩ (.slice Ax M cx)) from by
              have hs := HW0.out.2.2.2.1
              refine ⟨?_, Below.setCell (bl_step HW0.out.2.2.1 HB7.out) (by show w.heap.size ≤ w.heap.size + 1 + 1; omega) _⟩
              rw [HW.out]
              exact (ownsRow_setCell_below HO7.out (by show w.heap.size + 1 + 1 < W0.heap.size; omega) _).mono (by omega))
            clear HO7 HB7 HW HR6 f6 c6
            obtain ⟨d31, hu31⟩ := under71_parts
            exact bodyPost_ret (results_cell_row rfl _ _ (w.heap.size + 1 + 1) 71 #[.slice Ax M cx] (0, 0) (.struct d31) rfl HRW.out hu31 rfl Try.info71s) rfl ⟨_, rfl, HF.out⟩
end Go.Proofs.Ytjonkpdjhjobfaa
namespace Go.Proofs.Ytjonkpdjhjobfaa
open Go.RowKit

theorem Try.infors : (Try.prog.info? 77).map (fun i => (i.zero, i.size, i.bytes)) = some (some (.agg #[.int .i64 0, .int .i64 0]), 2, 16) := by kernel_rfl
theorem infors_parts : ∃ i, Try.prog.info? 77 = some i ∧ i.zero = some (.agg #[.int .i64 0, .int .i64 0]) ∧ i.size = 2 ∧ i.bytes = 16 := info_parts Try.infors
theorem Try.underrs : Try.prog.underlying 81 = some (.slice 77) := by kernel_rfl
/-- a list of the document's spans, of the call's own -/
def OwnP (B : Nat) (w : World) (x : Value) (R : List (Int × Int)) : Prop := w.ownsRow B 77 2 x R.length (spc R)
theorem OwnP.form {B : Nat} {w : World} {x : Value} {R : List (Int × Int)} (h : OwnP B w x R) : ∃ A c, x = .slice A R.length c := by
  rcases h.2 with ⟨rfl, h0⟩ | ⟨g, c, cur, rfl, _⟩
  · exact ⟨none, 0, by rw [h0]⟩
  · exact ⟨_, c, rfl⟩
theorem OwnP.some {B : Nat} {w : World} {x : Value} {R : List (Int × Int)} (h : OwnP B w x R) (h0 : R ≠ []) : ∃ g c, x = .slice (.some ⟨g, 0, none⟩) R.length c ∧ B ≤ g := by
  rcases h.2 with ⟨_, h1⟩ | ⟨g, c, cur, rfl, hb, _⟩
  · exact absurd (List.eq_nil_of_length_eq_zero h1) h0
  · exact ⟨g, c, rfl, hb⟩
theorem spc_end (T : List (Int × Int)) (a b : Int) : (spc (T ++ [(a, b)]))[T.length * 2 + 1]? = Option.some (.int .i64 b) := by
  have h : (T ++ [(a, b)])[T.length]? = Option.some (a, b) := by simp
  exact spc_at1 h
theorem spc_set (T : List (Int × Int)) (a b c : Int) : (spc (T ++ [(a, b)])).set (T.length * 2 + 1) (.int .i64 c) = spc (T ++ [(a, c)]) := by
  rw [spc_append, spc_append, List.set_append_right _ _ (by rw [length_spc]; omega), length_spc, show T.length * 2 + 1 - T.length * 2 = 1 by omega]
  rfl
set_option maxRecDepth 100000 in
set_option maxHeartbeats 3200000 in
theorem runs_any {A : Option Addr} {l : List Bool} (c N n : Nat) (is : Bool) (w : World) (hN : l.length = N) (hl : N ≤ 65536) (hn : n ≤ 65536) (hs : SrcO w A (sbls l)) :
    Calls Try.prog 106 #[.agg #[.slice A N c], .bool is, .int .i64 n] w fun e w' => ∃ x, e = .returned x ∧ OwnP w.heap.size w' x (runG (fun i => l.getD i false == is) n) ∧ Below w.heap.size w w' := by
  obtain ⟨i0, hi, hi0, hi1, hi2⟩ := infors_parts
  obtain ⟨W0, hW0⟩ : ∃ W0, W0 = w.alloc (.cells #[.slice A N c] 71) := ⟨_, rfl⟩
  have hb0 : Below w.heap.size w W0 := by rw [hW0]; exact bl_alloc (Below.refl _ _) _
  have HBW := Lib.hid hb0
  have HR0 := Lib.hid (show Row W0 w.heap.size 71 #[.slice A N c] by rw [hW0]; exact Row.made _ _ _)
  have HS := Lib.hid (hs.later hb0)
  have HN := Lib.hid hN
  have HG := Lib.hid (runG_ok (fun i => l.getD i false == is))
  have HF := Lib.hid (fun k => show runG (fun i => l.getD i false == is) (k + 1) = if (l.getD k false == is) then joinR (runG (fun i => l.getD i false == is) k) k else runG (fun i => l.getD i false == is) k from rfl)
  have HZ : Hid (runG (fun i => l.getD i false == is) 0 = []) := Lib.hid rfl
  generalize runG (fun i => l.getD i false == is) = RG at *
  clear hs hN hb0
  have hsz : W0.heap.size = w.heap.size + 1 := by rw [hW0]; simp
  have HSZ := Lib.hid hsz
  clear hsz
  go_enter Try.func106, Try.ntmps106
  go_wp2
  rw [← hW0]
  clear hW0
  go_loopw [7, 8] (fun x i wr => ∃ k : Nat, k ≤ n ∧ i = .int .i64 k ∧ Hid (OwnP W0.heap.size wr x (RG k)) ∧ Hid (Below W0.heap.size W0 wr)) (fun _ i _ => n - (intOf i).toNat)
  case atStart => exact ⟨0, by omega, rfl, Lib.hid (by rw [HZ.out]; exact World.ownsRow_nil _ _ _ _), Lib.hid (Below.refl _ _)⟩
  case round =>
    obtain ⟨k, hk, rfl, HO, HB⟩ := hrel
    have HR := Lib.hid (HR0.out.later HB.out)
    have c0 := HR.out.read (i := 0) rfl
    have HSr := Lib.hid (HS.out.later HB.out)
    obtain ⟨Ax, cx, rfl⟩ := HO.out.form
    by_cases hkn : k < n
    · have hkn' : (k : Int) < n := by omega
      have hk0 : (0 : Int) ≤ k := by omega
      have HK := Lib.hid (And.intro hkn hk)
      have HL := Lib.hid (HG.out k (by omega)).2.2.2
      obtain ⟨x, hx⟩ : ∃ x, l.getD k false = x := ⟨_, rfl⟩
      have HFk := HF.out k
      rw [hx] at HFk
      have hxx : (x = is ∧ RG (k + 1) = joinR (RG k) k) ∨ (x = (!is) ∧ RG (k + 1) = RG k) := by
        cases x <;> cases is <;> simpa using HFk
      have hcell : (N ≤ k ∧ x = false) ∨ (k < N ∧ ∃ b9 o9, A = Option.some ⟨b9, o9, none⟩ ∧ wr.cell? ⟨b9, o9 + k, none⟩ = Option.some (.bool x)) := by
        rcases Nat.lt_or_ge k N with h | h
        · refine .inr ⟨h, ?_⟩
          obtain ⟨b9, o9, rfl, hc⟩ := HSr.out (by rw [slength_bls, HN.out]; omega)
          refine ⟨b9, o9, rfl, hc _ _ (sbls_at ?_)⟩
          have hkl : k < l.length := by rw [HN.out]; exact h
          rw [List.getD_eq_getElem?_getD, List.getElem?_eq_getElem hkl] at hx
          rw [List.getElem?_eq_getElem hkl]
          exact congrArg Option.some hx
        · exact .inl ⟨h, by rw [← hx]; exact getD_far l (by rw [HN.out]; exact h)⟩
      clear HFk hx
      rcases hcell with ⟨hkN, rfl⟩ | ⟨hkN, b9, o9, rfl, c9⟩
      all_goals rcases hxx with ⟨hxi, hRG⟩ | ⟨hxi, hRG⟩
      rotate_left
      ·
        obtain rfl : is = true := by cases is <;> simp at hxi ⊢
        have hkN1 : ¬ (k : Int) < N := by omega
        clear hkN hxi
        have HG1 := Lib.hid hRG
        clear hRG
        go_wp2
        go_roundw
        case rel => exact ⟨k + 1, HK.out.1, by go_num, by rw [HG1.out]; exact HO, HB⟩
        case measure => have := HK.out.1; simp [intOf]; omega
      rotate_left
      ·
        subst hxi
        have hkN1 : (k : Int) < N := by omega
        clear hkN
        have HG1 := Lib.hid hRG
        clear hRG
        cases is
        all_goals
          go_wp2
          go_roundw
          case rel => exact ⟨k + 1, HK.out.1, by go_num, by rw [HG1.out]; exact HO, HB⟩
          case measure => have := HK.out.1; simp [intOf]; omega
      all_goals
        subst hxi
        first
          | (have hkN1 : ¬ (k : Int) < N := (by omega))
          | (have hkN1 : (k : Int) < N := (by omega))
        clear hkN
        have HG1 := Lib.hid hRG
        clear hRG
        try (cases is)
      all_goals
        go_upto_region 7 with fail
      all_goals clear c0
      all_goals try clear c9
      all_goals clear hkN1
      all_goals
        obtain ⟨m, hm⟩ : ∃ m, (RG k).length = m := ⟨_, rfl⟩
        have hmk : m ≤ k := by have := HL.out; omega
        rcases snoc_cases (RG k) with h0 | ⟨T, a, b, h0⟩
      all_goals try rw [hm] at HO
      all_goals try rw [hm]
      all_goals
        first
          | (have h00 : RG k = [] := h0
             have HG2 := Lib.hid (show RG (k + 1) = RG k ++ [((k : Int), (k : Int) + 1)] by rw [HG1.out, h0, joinR_nil]; rfl)
             obtain rfl : m = 0 := by rw [← hm, h0]; rfl
             clear h0 h00 HG1
             go_upto_region 9 with fail
             have HO8 := Lib.hid (show wr.ownsRow W0.heap.size 77 2 (.slice Ax 0 cx) (0) (spc (RG k)) from by
               have h := HO.out
               unfold OwnP at h
               rwa [hm] at h)
             go_wp2_with (at_builtin; refine wpList_append_lies _ rfl _ _ _ (by rfl) W0.heap.size 77 i0 (.agg #[.int .i64 0, .int .i64 0]) 2 16 Try.underrs hi hi0 hi1 hi2 rfl (by omega) (.slice Ax 0 cx) (0) (spc (RG k)) (by rfl) (HO8.out.alloc _) ⟨wr.heap.size, 0, none⟩ 1 1 [.int .i64 k, .int .i64 (k + 1)] (by rfl) (by rfl) (new_pair _ _ _ _) (pair_one _ _) (by omega) (by unfold maxLen; omega) (by omega) ?h6 (wr.heap.size + 1) ?h7 ?_)
             case h6 => have := HB.out.size; first | omega | (simp; omega)
             case h7 => simp
             intro g3 c3 w3 hown3 hgrow3 hg3 _
             have HO3 := Lib.hid (show OwnP W0.heap.size w3 (.slice (Option.some ⟨g3, 0, none⟩) (0 + 1) c3) (RG (k + 1)) from by
               unfold OwnP
               rw [HG2.out, List.length_append, hm, spc_append]
               exact hown3)
             have HB3 := Lib.hid ((HB.out.alloc HB.out.size (.cells #[.int .i64 k, .int .i64 (k + 1)] 77)).grown hgrow3 (by have := HB.out.size; first | omega | (simp; omega)) (fun r hr => (own_block HO8.out r hr).1))
             clear hown3 hgrow3 hg3
             go_wp2
             go_roundw
             case rel => exact ⟨k + 1, HK.out.1, by go_num, HO3, HB3⟩
             case measure => have := HK.out.1; simp [intOf]; omega)
          | (have HT := Lib.hid h0
             obtain ⟨q, hq⟩ : ∃ q, T.length = q := ⟨_, rfl⟩
             obtain rfl : m = q + 1 := by rw [← hm, h0, ← hq]; simp
             obtain ⟨g, cg, hx, hg⟩ := HO.out.some (by rw [h0]; simp)
             injection hx with hx1 hx2 hx3
             subst hx1
             subst hx3
             have hO : wr.ownsRow W0.heap.size 77 2 (.slice (Option.some ⟨g, 0, none⟩) (q + 1) cx) (q + 1) (spc (RG k)) := by
               have h := HO.out
               unfold OwnP at h
               rwa [hm] at h
             have ce := hO.cellAt (q * 2 + 1) (by omega)
             have fe := hO.frozenAt (q * 2 + 1)
             rw [h0, ← hq, spc_end T a b, hq] at ce
             have HO8 := Lib.hid hO
             clear hO hx2
             by_cases hbk : b = k
             · subst hbk
               have HG2 := Lib.hid (show RG (k + 1) = T ++ [(a, (k : Int) + 1)] by rw [HG1.out, h0, joinR_join])
               have HST := Lib.hid (HO8.out.stored (q * 2 + 1) (.int .i64 ((k : Int) + 1)))
               rw [h0, ← hq, spc_set, hq] at HST
               clear h0 HG1 HL
               go_wp2
               go_roundw
               case rel => exact ⟨k + 1, HK.out.1, by go_num, Lib.hid (by
                 unfold OwnP
                 rw [HG2.out, List.length_append, hq]
                 exact HST.out.1), Lib.hid (HB.out.grown HST.out.2 HB.out.size (fun r hr => by injection hr with hr; omega))⟩
               case measure => have := HK.out.1; simp [intOf]; omega
             · have hbk' : (b == (k : Int)) = false := by simpa using hbk
               have HG2 := Lib.hid (show RG (k + 1) = RG k ++ [((k : Int), (k : Int) + 1)] by rw [HG1.out, h0, joinR_else T a b k hbk])
               clear h0 HG1 hbk
               go_upto_region 9 with fail
               clear ce fe HO8 hbk'
               have HO8 := Lib.hid (show wr.ownsRow W0.heap.size 77 2 (.slice (Option.some ⟨g, 0, none⟩) (q + 1) cx) ((q + 1)) (spc (RG k)) from by
                 have h := HO.out
                 unfold OwnP at h
                 rwa [hm] at h)
               go_wp2_with (at_builtin; refine wpList_append_lies _ rfl _ _ _ (by rfl) W0.heap.size 77 i0 (.agg #[.int .i64 0, .int .i64 0]) 2 16 Try.underrs hi hi0 hi1 hi2 rfl (by omega) (.slice (Option.some ⟨g, 0, none⟩) (q + 1) cx) ((q + 1)) (spc (RG k)) (by rfl) (HO8.out.alloc _) ⟨wr.heap.size, 0, none⟩ 1 1 [.int .i64 k, .int .i64 (k + 1)] (by rfl) (by rfl) (new_pair _ _ _ _) (pair_one _ _) (by omega) (by unfold maxLen; omega) (by omega) ?h6 (wr.heap.size + 1) ?h7 ?_)
               case h6 => have := HB.out.size; first | omega | (simp; omega)
               case h7 => simp
               intro g3 c3 w3 hown3 hgrow3 hg3 _
               have HO3 := Lib.hid (show OwnP W0.heap.size w3 (.slice (Option.some ⟨g3, 0, none⟩) ((q + 1) + 1) c3) (RG (k + 1)) from by
                 unfold OwnP
                 rw [HG2.out, List.length_append, hm, spc_append]
                 exact hown3)
               have HB3 := Lib.hid ((HB.out.alloc HB.out.size (.cells #[.int .i64 k, .int .i64 (k + 1)] 77)).grown hgrow3 (by have := HB.out.size; first | omega | (simp; omega)) (fun r hr => (own_block HO8.out r hr).1))
               clear hown3 hgrow3 hg3
               go_wp2
               go_roundw
               case rel => exact ⟨k + 1, HK.out.1, by go_num, HO3, HB3⟩
               case measure => have := HK.out.1; simp [intOf]; omega)
    · have hkn' : ¬ (k : Int) < n := by omega
      have hkn : k = n := by omega
      subst hkn
      go_wp2
      go_ret
      exact ⟨_, rfl, HO.out.mono (by have := HSZ.out; omega), bl_step HBW.out HB.out⟩
end Go.Proofs.Ytjonkpdjhjobfaa
namespace Go.Proofs.Ytjonkpdjhjobfaa
open Go.RowKit

/-- the variables of Add: x at block xb; the spans ahead in ab, those behind in bb, whose memory lies from C on, each apart -/
def Adding (C xb ab bb : Nat) (s : (Int × Int) × List (Int × Int) × List (Int × Int)) (w : World) : Prop :=
  xb < C ∧ ab < C ∧ bb < C ∧ ab ≠ bb ∧ Row w xb 66 #[.int .i64 s.1.1, .int .i64 s.1.2] ∧
    ∃ sa sb, Row w ab 83 #[sa] ∧ Row w bb 83 #[sb] ∧ w.ownsRow C 66 2 sa s.2.1.length (spc s.2.1) ∧ w.ownsRow C 66 2 sb s.2.2.length (spc s.2.2) ∧ ∀ k, sa.ownBlock = some k → sb.ownBlock ≠ some k

theorem Adding.later {C xb ab bb : Nat} {s : (Int × Int) × List (Int × Int) × List (Int × Int)} {w w' : World} (h : Adding C xb ab bb s w) (hb : Below w.heap.size w w') : Adding C xb ab bb s w' := by
  obtain ⟨h1, h2, h3, h4, h5, sa, sb, h6, h7, h8, h9, h10⟩ := h
  exact ⟨h1, h2, h3, h4, h5.later hb, sa, sb, h6.later hb, h7.later hb, own_only (S := fun _ => False) h8 (.of_below hb) (fun _ _ h => h), own_only (S := fun _ => False) h9 (.of_below hb) (fun _ _ h => h), h10⟩

/-- what the closure of Add does -/
def AddDone (C xb ab bb : Nat) (s : (Int × Int) × List (Int × Int) × List (Int × Int)) (w : World) (e : Ending) (w' : World) : Prop :=
  e = .returned (.tuple #[]) ∧ Adding C xb ab bb s w' ∧ Only (fun k => k = xb ∨ k = ab ∨ k = bb ∨ C ≤ k) w w'

/-- appended ahead -/
theorem ahead_done {C xb ab bb g cap : Nat} {x : Int × Int} {A B : List (Int × Int)} {w W W2 : World} {sa : Value} {a b : Int} {o : Obj} (h : Adding C xb ab bb (x, A, B) W) (hra : Row W ab 83 #[sa]) (hb : Below w.heap.size w W)
    (hown : W2.ownsRow C 66 2 (.slice (some ⟨g, 0, none⟩) (A.length + 1) cap) (A.length + 1) (spc A ++ [.int .i64 a, .int .i64 b])) (hgrow : (W.alloc o).grownBy W2 sa.ownBlock) (hgg : sa.ownBlock = some g ∨ g = W.heap.size + 1) :
    AddDone C xb ab bb (x, A ++ [(a, b)], B) w (.returned (.tuple #[])) (W2.setCell ⟨ab, 0, none⟩ (.slice (some ⟨g, 0, none⟩) (A.length + 1) cap)) := by
  obtain ⟨h1, h2, h3, h4, h5, sa', sb, h6, h7, h8, h9, h10⟩ := h
  have e : sa' = sa := by
    unfold Row at h6 hra
    rw [h6] at hra
    injection hra with hr
    injection hr with hr _
    injection hr with hr
    injection hr with hr _
  subst e
  simp only at h5 h8 h9
  have hlt := fun k hk => h8.lt k hk
  have hltb := fun k hk => h9.lt k hk
  have n1 : sa'.ownBlock ≠ some xb := fun hk => by have := (hlt _ hk).1; omega
  have n2 : sa'.ownBlock ≠ some ab := fun hk => by have := (hlt _ hk).1; omega
  have n3 : sa'.ownBlock ≠ some bb := fun hk => by have := (hlt _ hk).1; omega
  have r1 := grown_row (h5.more o) hgrow n1
  have r2 := grown_row (h6.more o) hgrow n2
  have r3 := grown_row (h7.more o) hgrow n3
  have o1 : W2.ownsRow C 66 2 sb B.length (spc B) := (h9.alloc o).kept hgrow (by
    rcases hs : sb.ownBlock with _ | k
    · exact .inl rfl
    · exact .inr fun he => h10 k he.symm hs)
  have hset : Only (fun k => k = ab) W2 (W2.setCell ⟨ab, 0, none⟩ (.slice (some ⟨g, 0, none⟩) (A.length + 1) cap)) := (Only.refl (fun k => k = ab) _).set (p := ⟨ab, 0, none⟩) (.inl rfl) _
  refine ⟨rfl, ⟨h1, h2, h3, h4, r1.elsewhere (p := ⟨ab, 0, none⟩) (r1.apart r2 (by decide)) _, _, sb, r2.written 0 _, r3.elsewhere (p := ⟨ab, 0, none⟩) (fun e => h4 e.symm) _, ?_, own_only o1 hset (fun k hk he => by have := (hltb k hk).1; omega), fun k hk => ?_⟩, ?_⟩
  · simp only
    rw [spc_append, List.length_append]
    exact own_only hown hset (fun k hk he => by have := (hown.lt k hk).1; omega)
  · have e : g = k := by simpa [Value.ownBlock] using hk
    subst e
    rcases hgg with hgg | hgg
    · exact h10 _ hgg
    · intro hk'
      have := (hltb _ hk').2
      omega
  · have h11 : Only (fun k => k = xb ∨ k = ab ∨ k = bb ∨ C ≤ k) w W2 := ((Only.of_below hb).alloc o).grown hgrow (fun k hk => .inl (.inr (.inr (.inr (hlt k hk).1))))
    exact h11.set (p := ⟨ab, 0, none⟩) (.inl (.inr (.inl rfl))) _

/-- appended behind -/
theorem behind_done {C xb ab bb g cap : Nat} {x : Int × Int} {A B : List (Int × Int)} {w W W2 : World} {sb : Value} {a b : Int} {o : Obj} (h : Adding C xb ab bb (x, A, B) W) (hrb : Row W bb 83 #[sb]) (hb : Below w.heap.size w W)
    (hown : W2.ownsRow C 66 2 (.slice (some ⟨g, 0, none⟩) (B.length + 1) cap) (B.length + 1) (spc B ++ [.int .i64 a, .int .i64 b])) (hgrow : (W.alloc o).grownBy W2 sb.ownBlock) (hgg : sb.ownBlock = some g ∨ g = W.heap.size + 1) :
    AddDone C xb ab bb (x, A, B ++ [(a, b)]) w (.returned (.tuple #[])) (W2.setCell ⟨bb, 0, none⟩ (.slice (some ⟨g, 0, none⟩) (B.length + 1) cap)) := by
  obtain ⟨h1, h2, h3, h4, h5, sa, sb', h6, h7, h8, h9, h10⟩ := h
  have e : sb' = sb := by
    unfold Row at h7 hrb
    rw [h7] at hrb
    injection hrb with hr
    injection hr with hr _
    injection hr with hr
    injection hr with hr _
  subst e
  simp only at h5 h8 h9
  have hlt := fun k hk => h8.lt k hk
  have hltb := fun k hk => h9.lt k hk
  have n1 : sb'.ownBlock ≠ some xb := fun hk => by have := (hltb _ hk).1; omega
  have n2 : sb'.ownBlock ≠ some ab := fun hk => by have := (hltb _ hk).1; omega
  have n3 : sb'.ownBlock ≠ some bb := fun hk => by have := (hltb _ hk).1; omega
  have r1 := grown_row (h5.more o) hgrow n1
  have r2 := grown_row (h6.more o) hgrow n2
  have r3 := grown_row (h7.more o) hgrow n3
  have o1 : W2.ownsRow C 66 2 sa A.length (spc A) := (h8.alloc o).kept hgrow (by
    rcases hs : sa.ownBlock with _ | k
    · exact .inl rfl
    · exact .inr fun he => h10 k hs he.symm)
  have hset : Only (fun k => k = bb) W2 (W2.setCell ⟨bb, 0, none⟩ (.slice (some ⟨g, 0, none⟩) (B.length + 1) cap)) := (Only.refl (fun k => k = bb) _).set (p := ⟨bb, 0, none⟩) (.inl rfl) _
  refine ⟨rfl, ⟨h1, h2, h3, h4, r1.elsewhere (p := ⟨bb, 0, none⟩) (r1.apart r3 (by decide)) _, sa, _, r2.elsewhere (p := ⟨bb, 0, none⟩) h4 _, r3.written 0 _, own_only o1 hset (fun k hk he => by have := (hlt k hk).1; omega), ?_, fun k hk => ?_⟩, ?_⟩
  · simp only
    rw [spc_append, List.length_append]
    exact own_only hown hset (fun k hk he => by have := (hown.lt k hk).1; omega)
  · intro hk'
    have e : g = k := by simpa [Value.ownBlock] using hk'
    subst e
    rcases hgg with hgg | hgg
    · exact h10 _ hk hgg
    · have := (hlt _ hk).2
      omega
  · have h11 : Only (fun k => k = xb ∨ k = ab ∨ k = bb ∨ C ≤ k) w W2 := ((Only.of_below hb).alloc o).grown hgrow (fun k hk => .inl (.inr (.inr (.inr (hltb k hk).1))))
    exact h11.set (p := ⟨bb, 0, none⟩) (.inl (.inr (.inr (.inl rfl)))) _

/-- one span of both -/
theorem merge_done {C xb ab bb : Nat} {x : Int × Int} {A B : List (Int × Int)} {w : World} {o : Obj} {lo hi : Int} (h : Adding C xb ab bb (x, A, B) w) :
    AddDone C xb ab bb ((lo, hi), A, B) w (.returned (.tuple #[])) (((w.alloc o).setCell ⟨xb, 0, none⟩ (.int .i64 lo)).setCell ⟨xb, 1, none⟩ (.int .i64 hi)) := by
  have h' := h.later (bl_alloc (Below.refl _ _) o)
  obtain ⟨h1, h2, h3, h4, h5, sa, sb, h6, h7, h8, h9, h10⟩ := h'
  have hset : Only (fun k => k = xb) (w.alloc o) (((w.alloc o).setCell ⟨xb, 0, none⟩ (.int .i64 lo)).setCell ⟨xb, 1, none⟩ (.int .i64 hi)) := ((Only.refl (fun k => k = xb) _).set (p := ⟨xb, 0, none⟩) (.inl rfl) _).set (p := ⟨xb, 1, none⟩) (.inl rfl) _
  refine ⟨rfl, ⟨h1, h2, h3, h4, (h5.written 0 (.int .i64 lo)).written 1 (.int .i64 hi), sa, sb, h6.only hset (fun e => h5.apart h6 (by decide) e.symm), h7.only hset (fun e => h5.apart h7 (by decide) e.symm),
    own_only h8 hset (fun k hk e => by have := (h8.lt k hk).1; omega), own_only h9 hset (fun k hk e => by have := (h9.lt k hk).1; omega), h10⟩, ?_⟩
  exact ((Only.refl (fun k => k = xb ∨ k = ab ∨ k = bb ∨ C ≤ k) w).alloc o).andThen hset (fun k _ hk => .inl hk)

set_option maxHeartbeats 800000 in
theorem add1_any {C xb ab bb : Nat} {s : (Int × Int) × List (Int × Int) × List (Int × Int)} {w : World} (y : Int × Int) (h : Adding C xb ab bb s w) (hC : C ≤ w.heap.size) (hl : s.2.1.length ≤ 50000 ∧ s.2.2.length ≤ 50000) :
    Calls Try.prog 103 #[spv y, .pointer (some ⟨xb, 0, none⟩), .pointer (some ⟨ab, 0, none⟩), .pointer (some ⟨bb, 0, none⟩)] w (AddDone C xb ab bb (addStep s y) w) := by
  obtain ⟨⟨c, d⟩, A, B⟩ := s
  obtain ⟨a, b⟩ := y
  have h' := h.later (bl_alloc (Below.refl _ _) (.cells #[.int .i64 a, .int .i64 b] 66))
  have hy := Row.made w 66 #[.int .i64 a, .int .i64 b]
  obtain ⟨h1, h2, h3, h4, h5, sa, sb, h6, h7, h8, h9, h10⟩ := id h'
  obtain ⟨i0, hi, hi0, hi1, hi2⟩ := info66_parts
  have r0 := h5.read (i := 0) rfl
  have r1 := h5.read (i := 1) rfl
  have r2 := h6.read (i := 0) rfl
  have r3 := h7.read (i := 0) rfl
  have r4 := hy.read (i := 0) rfl
  have r5 := hy.read (i := 1) rfl
  have f0 := h5.free 0
  have f1 := h5.free 1
  have f2 := h6.free 0
  have f3 := h7.free 0
  have H6 := Lib.hid h6
  have H7 := Lib.hid h7
  have H8 := Lib.hid h8
  have H9 := Lib.hid h9
  have HA := Lib.hid h
  have HA' := Lib.hid h'
  have HBL := Lib.hid (bl_alloc (Below.refl w.heap.size w) (.cells #[.int .i64 a, .int .i64 b] 66))
  simp only at hl r0 r1
  have na : sa.ownBlock ≠ some ab := fun hk => by have := (h8.lt _ hk).1; omega
  have nb : sb.ownBlock ≠ some bb := fun hk => by have := (h9.lt _ hk).1; omega
  clear h h' h5 h6 h7 h8 h9 h10 hy
  show Calls Try.prog 103 #[.agg #[.int .i64 a, .int .i64 b], _, _, _] w _
  by_cases m1 : b < c
  · have HS := Lib.hid (show addStep ((c, d), A, B) (a, b) = ((c, d), A ++ [(a, b)], B) by unfold addStep; rw [if_pos m1])
    rw [HS.out]
    go_enter Try.func103, Try.ntmps103
    go_wp2_with (at_builtin; refine wpList_append_lies _ rfl _ _ _ (by rfl) C 66 i0 (.agg #[.int .i64 0, .int .i64 0]) 2 16 Try.underlying83 hi hi0 hi1 hi2 rfl (by omega) sa A.length _ (by rfl) (H8.out.alloc _) ⟨w.heap.size + 1, 0, none⟩ 1 1 [.int .i64 a, .int .i64 b] (by rfl) (by rfl) ?h1 (pair_one a b) (by omega) (by unfold maxLen; omega) (by omega) ?h6 (w.heap.size + 2) ?h7 ?_)
    case h6 => first | omega | (simp; omega)
    intro g cap w2 hown hgrow hgg hg2
    have hr2 := grown_row (H6.out.more (.cells #[.int .i64 a, .int .i64 b] 66)) hgrow na
    have c2 := hr2.read (i := 0) rfl
    have e2 := hr2.free 0
    have HF := Lib.hid (ahead_done (w := w) (cap := cap) HA'.out H6.out HBL.out hown hgrow (hgg.imp id (fun e => by simp; omega)))
    clear hown hgrow hgg
    go_wp2
    go_end0
    exact HF.out
  · by_cases m2 : d < a
    · have HS := Lib.hid (show addStep ((c, d), A, B) (a, b) = ((c, d), A, B ++ [(a, b)]) by unfold addStep; rw [if_neg m1, if_pos m2])
      rw [HS.out]
      go_enter Try.func103, Try.ntmps103
      go_wp2_with (at_builtin; refine wpList_append_lies _ rfl _ _ _ (by rfl) C 66 i0 (.agg #[.int .i64 0, .int .i64 0]) 2 16 Try.underlying83 hi hi0 hi1 hi2 rfl (by omega) sb B.length _ (by rfl) (H9.out.alloc _) ⟨w.heap.size + 1, 0, none⟩ 1 1 [.int .i64 a, .int .i64 b] (by rfl) (by rfl) ?k1 (pair_one a b) (by omega) (by unfold maxLen; omega) (by omega) ?k6 (w.heap.size + 2) ?k7 ?_)
      case k6 => first | omega | (simp; omega)
      intro g cap w2 hown hgrow hgg hg2
      have hr2 := grown_row (H7.out.more (.cells #[.int .i64 a, .int .i64 b] 66)) hgrow nb
      have c2 := hr2.read (i := 0) rfl
      have e2 := hr2.free 0
      have HF := Lib.hid (behind_done (w := w) (cap := cap) HA'.out H7.out HBL.out hown hgrow (hgg.imp id (fun e => by simp; omega)))
      clear hown hgrow hgg
      go_wp2
      go_end0
      exact HF.out
    · have HS := Lib.hid (show addStep ((c, d), A, B) (a, b) = ((min c a, max d b), A, B) by unfold addStep; rw [if_neg m1, if_neg m2])
      rw [HS.out]
      have HF := Lib.hid (fun lo hi => merge_done (o := .cells #[.int .i64 a, .int .i64 b] 66) (lo := lo) (hi := hi) HA.out)
      have HF := Lib.hid HF
      have cs : ∀ x, ((w.alloc (.cells #[.int .i64 a, .int .i64 b] 66)).setCell ⟨xb, 0, none⟩ x).frozen? ⟨xb, 1, none⟩ = false := fun x => by simpa using f1
      rcases Int.lt_or_le a c with m3 | m3
      all_goals rcases Int.lt_or_le d b with m4 | m4
      all_goals
        first | have hmin : min c a = a := by omega | have hmin : min c a = c := by omega
        first | have hmax : max d b = b := by omega | have hmax : max d b = d := by omega
        rw [hmin, hmax]
        clear hmin hmax
        go_enter Try.func103, Try.ntmps103
        go_wp2
        go_end0
        exact HF.out _ _
end Go.Proofs.Ytjonkpdjhjobfaa
