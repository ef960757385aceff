/-
  status: a status as the document's, walked. status: how the statuses that a statement draws read.
-/
import Derived.Test.YtbdjgdkafbkdbaaJStatusWrites13
import Derived.Test.YtbdjgdkafbkdbaaJStatusWrites09
import Derived.SizedLaws
import Derived.Deep.Matrix
import Derived.Lib.SmallJoins
import Derived.OpenShut
import Derived.Deep.Slices
namespace Go.Proofs.Ytbdjgdkafbkdbaa
open Go.RowKit

set_option maxRecDepth 100000 in
set_option maxHeartbeats 3200000 in
theorem sas_any {A : Option Addr} {L : List MissM} (ack : Int) (n cap : Nat) (w : World) (hL : L.length = n) (hn : n ≤ 60) (hs : MSrc w A L) :
    Calls Try.prog 51 #[.agg #[.int .i64 ack, .slice A n cap]] w fun e w' => ∃ A' c, e = .returned (.agg #[.int .i64 ack, .slice A' n c]) ∧ n ≤ c ∧ c ≤ 9223372036854775807 ∧ MSrc w' A' L ∧ Below w.heap.size w w' := by
  have HS := Lib.hid hs
  have HL := Lib.hid hL
  have hsz1 : (w.alloc (.cells #[.int .i64 ack, .slice A n cap] 81)).heap.size = w.heap.size + 1 := by simp
  have hsz2 : ((w.alloc (.cells #[.int .i64 ack, .slice A n cap] 81)).alloc (.cells #[.int .i64 0, .slice none 0 0] 84)).heap.size = w.heap.size + 1 + 1 := by simp
  have HW0 := Lib.hid (bl_alloc (bl_alloc (bl_alloc (Below.refl w.heap.size w) (.cells #[.int .i64 ack, .slice A n cap] 81)) (.cells #[.int .i64 0, .slice none 0 0] 84)) (.cells #[.int .i64 ack, .slice none 0 0] 84))
  have HR1 := Lib.hid (((Row.made w 81 #[.int .i64 ack, .slice A n cap]).more (.cells #[.int .i64 0, .slice none 0 0] 84)).more (.cells #[.int .i64 ack, .slice none 0 0] 84))
  have HR2 := Lib.hid ((row_at2 (w.alloc (.cells #[.int .i64 ack, .slice A n cap] 81)) (w.heap.size + 1) 84 #[.int .i64 0, .slice none 0 0] hsz1).more (.cells #[.int .i64 ack, .slice none 0 0] 84))
  have HR3 := Lib.hid (row_at2 ((w.alloc (.cells #[.int .i64 ack, .slice A n cap] 81)).alloc (.cells #[.int .i64 0, .slice none 0 0] 84)) (w.heap.size + 1 + 1) 84 #[.int .i64 ack, .slice none 0 0] hsz2)
  clear hs hL hsz1 hsz2
  go_enter Try.func51, Try.ntmps51
  go_wp2
  generalize hW : ((w.alloc (.cells #[.int .i64 ack, .slice A n cap] 81)).alloc (.cells #[.int .i64 0, .slice none 0 0] 84)).alloc (.cells #[.int .i64 ack, .slice none 0 0] 84) = W0 at *
  clear hW
  go_loopw [4] (fun i wr => ∃ (k : Nat) (mv : Value), k ≤ n ∧ i = .int .i64 k ∧ Hid (AsSt w.heap.size W0 (w.heap.size + 1 + 1) ack (L.take k) mv wr)) (fun i _ => n - (intOf i).toNat)
  case atStart => exact ⟨0, .slice none 0 0, by omega, rfl, Lib.hid ⟨HR3.out, World.ownsRow_nil _ _ _ _, fun _ _ _ _ _ h => h, Below.refl _ _, HW0.out.size, by omega⟩⟩
  case round =>
    obtain ⟨k, mv, hk, rfl, HST⟩ := hrel
    have RB := HST.out.keep _ _ _ (by decide) (by omega) HR1.out
    have c1 := RB.read (i := 1) rfl
    have HRB := Lib.hid RB
    clear RB
    by_cases hlt : k < n
    · obtain ⟨ab, ao, rfl, hc⟩ := HS.out (by rw [HL.out]; omega)
      obtain ⟨m, hr⟩ : ∃ r, L[k]? = some r := ⟨_, List.getElem?_eq_getElem (by rw [HL.out]; exact hlt)⟩
      obtain ⟨e0, e1, e2, e3⟩ := hc k _ hr
      have HWR := Lib.hid (HW0.out.trans HST.out.below)
      have f0 := cell_below HWR.out e0
      have f1 := cell_below HWR.out e1
      have f2 := cell_below HWR.out e2
      have f3 := cell_below HWR.out e3
      have HTK := Lib.hid (show L.take (k + 1) = L.take k ++ [m] by
        obtain ⟨h1, h2⟩ := List.getElem?_eq_some_iff.1 hr
        rw [List.take_succ_eq_append_getElem h1, h2])
      have HLK := Lib.hid (show (L.take k).length = k by rw [List.length_take, HL.out]; omega)
      have hkI : (k : Int) < (n : Int) := by omega
      have HST2 := Lib.hid (HST.out.more (bl_alloc (Below.refl _ _) (.cells #[.int .i64 m.sn, .bool m.part, .int .i64 m.fr, .int .i64 m.to] 100)))
      have HNX := Lib.hid (HST2.out.next m (by rw [HLK.out]; omega))
      rw [HLK.out] at HNX
      obtain ⟨g5, c5, w5, hrun, hcq, hfq, hst5⟩ := HNX.out
      have HST5 := Lib.hid hst5
      have RM := Row.made wr 100 #[.int .i64 m.sn, .bool m.part, .int .i64 m.fr, .int .i64 m.to]
      obtain ⟨⟨m0, m1, m2, m3⟩, -⟩ := cells4 RM
      have b1 := HST2.out.box.read (i := 1) rfl
      obtain ⟨Am, cm, rfl, _, _⟩ := HST.out.own.form
      rw [HLK.out] at hrun b1 hcq
      rw [size_1] at hrun
      clear hc hr e0 e1 e2 e3 hst5 RM HNX
      go_wp2_with (at_builtin; refine wpList_run rfl (.tmp 22) (.tmp 32) 82 rfl (.slice Am k cm) (.slice (some ⟨wr.heap.size + 1, 0, none⟩) 1 1) (by rfl) (by rfl) hrun ?_)
      go_roundw
      case rel => exact ⟨k + 1, _, by omega, by go_num, Lib.hid (by rw [HTK.out]; exact HST5.out)⟩
      case measure => simp [intOf]; omega
    · have hkn : k = n := by omega
      subst hkn
      have HTK := Lib.hid (show L.take k = L from List.take_of_length_le (by rw [HL.out]; exact Nat.le_refl _))
      have hlk : (L.take k).length = k := by rw [HTK.out, HL.out]
      obtain ⟨Am, cm, e, hc1, hc2⟩ := HST.out.own.form
      rw [hlk] at e hc1
      subst e
      clear hlk
      have RZ := HST.out.keep _ _ _ (by decide) (by omega) HR2.out
      have HRZ := Lib.hid RZ
      obtain ⟨⟨z0, z1⟩, y0, y1⟩ := cells2 RZ
      obtain ⟨⟨b0, b1⟩, -⟩ := cells2 HST.out.box
      clear RZ
      go_wp2
      obtain ⟨dd, hdd⟩ := underrst_parts
      have O1 : OwnD w.heap.size (wr.setCell ⟨w.heap.size + 1, 0, none⟩ (.int .i64 ack)) (.slice Am k cm) (L.take k) := own_only HST.out.own ((Only.refl (fun k => k = w.heap.size + 1) wr).set (p := ⟨w.heap.size + 1, 0, none⟩) (.inl rfl) (.int .i64 ack)) (fun j hj hS => own_apart HST.out.own HRZ.out (by decide) (by rw [hj]; exact congrArg some hS))
      have O2 : OwnD w.heap.size ((wr.setCell ⟨w.heap.size + 1, 0, none⟩ (.int .i64 ack)).setCell ⟨w.heap.size + 1, 1, none⟩ (.slice Am k cm)) (.slice Am k cm) (L.take k) := own_only O1 ((Only.refl (fun k => k = w.heap.size + 1) _).set (p := ⟨w.heap.size + 1, 1, none⟩) (.inl rfl) (.slice Am k cm)) (fun j hj hS => own_apart O1 (HRZ.out.written 0 (.int .i64 ack)) (by decide) (by rw [hj]; exact congrArg some hS))
      have HW := HW0.out.trans HST.out.below
      refine bodyPost_ret (results_cell_row rfl _ _ (w.heap.size + 1) 84 #[.int .i64 ack, .slice Am k cm] (0, 0) (.struct dd) rfl (row_set2 HRZ.out) hdd rfl Try.inforst) rfl ?_
      rw [HTK.out] at O2
      exact ⟨Am, cm, rfl, hc1, hc2, OwnD.src O2, (HW.setCell (p := ⟨w.heap.size + 1, 0, none⟩) (Nat.le_succ _) _).setCell (p := ⟨w.heap.size + 1, 1, none⟩) (Nat.le_succ _) _⟩
end Go.Proofs.Ytbdjgdkafbkdbaa
namespace Go.Proofs.Ytbdjgdkafbkdbaa
open Go.ChangeShapes Go.WideShapes Go.ChangeAt Go.RowKit Go.Deep

theorem Try.cells100 : Try.prog.cellsOf 100 = 4 := by kernel_rfl
theorem Try.cells3s : Try.prog.cellsOf 3 = 1 := by kernel_rfl
theorem Try.cells4s : Try.prog.cellsOf 4 = 1 := by kernel_rfl
set_option maxRecDepth 100000 in
theorem miss_cells {H : Type} {enc : TypeId × Value → H} {W : World} {base fuel : Nat} {sp : Nat → Bool} {held : Bool} {cs : List Value} {x : DataW H × List MemPlace}
    (h : DataW.trod enc Try.prog W base sp held fuel 100 cs = some x) : ∃ m : MissM, cs = [.int .i64 m.sn, .bool m.part, .int .i64 m.fr, .int .i64 m.to] := by
  obtain ⟨xs, n, _, _, hl, hxs, hf⟩ := DataW.trod_struct Try.underlying100 h
  have h0 := hf 0 _ rfl
  have h1 := hf 1 _ rfl
  have h2 := hf 2 _ rfl
  have h3 := hf 3 _ rfl
  rw [Try.cells100] at hl
  match cs, hl with
  | [c0, c1, c2, c3], _ =>
    have hxs' : xs.length = 4 := by simpa using hxs
    match xs, hxs' with
    | [y0, y1, y2, y3], _ =>
      have h0' : DataW.trod enc Try.prog W base sp held n 3 (([c0, c1, c2, c3].drop 0).take (Try.prog.cellsOf 3)) = some y0 := h0
      have h1' : DataW.trod enc Try.prog W base sp held n 4 (([c0, c1, c2, c3].drop 1).take (Try.prog.cellsOf 4)) = some y1 := h1
      have h2' : DataW.trod enc Try.prog W base sp held n 3 (([c0, c1, c2, c3].drop 2).take (Try.prog.cellsOf 3)) = some y2 := h2
      have h3' : DataW.trod enc Try.prog W base sp held n 3 (([c0, c1, c2, c3].drop 3).take (Try.prog.cellsOf 3)) = some y3 := h3
      rw [Try.cells3s] at h0' h2' h3'
      rw [Try.cells4s] at h1'
      obtain ⟨a, ea, _, _⟩ := DataW.trod_int Try.underlying3 h0'
      obtain ⟨b, eb, _⟩ := DataW.trod_bool Try.underlying4 h1'
      obtain ⟨c, ec, _, _⟩ := DataW.trod_int Try.underlying3 h2'
      obtain ⟨d, ed, _, _⟩ := DataW.trod_int Try.underlying3 h3'
      simp at ea eb ec ed
      exact ⟨⟨a, b, c, d⟩, by rw [ea, eb, ec, ed]⟩
theorem spot_none {w : World} {a : Addr} {x : Value} (h : w.cell? a = some x) : a.spot = none := by
  unfold World.cell? at h
  split at h
  · split at h
    · cases h
    · rename_i h1
      simpa using h1
  · cases h
theorem add_plain (b o j : Nat) : (⟨b, o, none⟩ : Addr).add j = ⟨b, o + j, none⟩ := by
  unfold Addr.add
  split
  · rename_i h
    subst h
    rfl
  · rfl
theorem misses_cells {H : Type} {enc : TypeId × Value → H} {W : World} {fuel : Nat} {v : Value} {y : DataW H × List MemPlace} (hf : DataW.trod enc Try.prog W 0 (fun _ => true) true fuel 79 [v] = some y) :
    ∃ (A : Option Addr) (cap : Nat) (L : List MissM), v = .slice A L.length cap ∧ L.length ≤ cap ∧ cap ≤ 9223372036854775807 ∧ MSrc W A L := by
  rcases open_slice Try.underlying79 hf with ⟨hcs, _⟩ | ⟨a, len, cap, m, n, D, Pl, hcs, _, hl, hm, hmm, _, hcell⟩
  · have e : v = .slice none 0 0 := by simpa using hcs
    rw [e]
    exact ⟨none, 0, [], rfl, Nat.le_refl _, by omega, fun h0 => absurd h0 (by simp)⟩
  · have e : v = .slice (some a) len cap := by simpa using hcs
    rw [e]
    have hm' : m = cap := by simpa using hmm
    have each : ∀ i, i < len → ∃ q : MissM, W.cell? (a.add (i * 4)) = some (.int .i64 q.sn) ∧ W.cell? (a.add (i * 4 + 1)) = some (.bool q.part) ∧ W.cell? (a.add (i * 4 + 2)) = some (.int .i64 q.fr) ∧ W.cell? (a.add (i * 4 + 3)) = some (.int .i64 q.to) := by
      intro i hi
      obtain ⟨cs', hc, ht⟩ := hcell i (by omega)
      rw [Try.cells100] at hc
      obtain ⟨q, rfl⟩ := miss_cells ht
      obtain ⟨_, _, hg⟩ := World.cells?_some hc
      have g0 := hg 0 (by omega)
      have g1 := hg 1 (by omega)
      have g2 := hg 2 (by omega)
      have g3 := hg 3 (by omega)
      rw [Go.Deep.add_add] at g0 g1 g2 g3
      exact ⟨q, g0, g1, g2, g3⟩
    let q : Nat → MissM := fun i => if h : i < len then (each i h).choose else ⟨0, false, 0, 0⟩
    have hq : ∀ i, i < len → W.cell? (a.add (i * 4)) = some (.int .i64 (q i).sn) ∧ W.cell? (a.add (i * 4 + 1)) = some (.bool (q i).part) ∧ W.cell? (a.add (i * 4 + 2)) = some (.int .i64 (q i).fr) ∧ W.cell? (a.add (i * 4 + 3)) = some (.int .i64 (q i).to) := by
      intro i hi
      have e : q i = (each i hi).choose := by simp [q, hi]
      rw [e]
      exact (each i hi).choose_spec
    refine ⟨some a, cap, (List.range len).map q, by simp, by simpa using hl, by unfold maxLen at hm; exact hm, fun h0 => ?_⟩
    have h0' : 0 < len := by simpa using h0
    have hs : a.spot = none := by
      have h1 := spot_none (hq 0 h0').1
      simpa [Addr.add] using h1
    obtain ⟨b, o, s⟩ := a
    simp only at hs
    subst hs
    refine ⟨b, o, rfl, fun k m hk => ?_⟩
    have hkl : k < len := by
      have := (List.getElem?_eq_some_iff.1 hk).1
      simpa using this
    rw [List.getElem?_map, List.getElem?_range hkl] at hk
    simp only [Option.map_some, Option.some.injEq] at hk
    subst hk
    obtain ⟨c0, c1, c2, c3⟩ := hq k hkl
    refine ⟨?_, ?_, ?_, ?_⟩
    · rwa [add_plain] at c0
    · rwa [add_plain, ← Nat.add_assoc] at c1
    · rwa [add_plain, ← Nat.add_assoc] at c2
    · rwa [add_plain, ← Nat.add_assoc] at c3
theorem st_agg_field {H : Type} {enc : TypeId × Value → H} {P : Program} {w : World} {base b0 : Nat} {spare : Nat → Bool} {held : Bool} {r : Reach} {t : TypeId} {fs : Array Field} {v : Value} {d : DataW H} {p : List MemPlace}
    (hs : P.underlying t = some (.struct fs)) (hone : oneCellFields P fs = true) (hC : P.cellsOf t = fs.size) (hv : Value.okWide P w r b0 t v) (h : DataW.Trod enc P w base spare held t v d p) :
    ∃ cs : Array Value, v = .agg cs ∧ cs.size = fs.size ∧ ∃ n, ∀ (j : Nat) (f : Field), fs[j]? = some f → ∃ (x : Value) (y : DataW H × List MemPlace), cs[j]? = some x ∧ DataW.trod enc P w base spare held n f.type [x] = some y := by
  obtain ⟨cs, rfl, hsz⟩ := okWide_struct hs hv
  obtain ⟨fuel, hf⟩ := h
  obtain ⟨xs, n, _, _, _, hlen, hg⟩ := DataW.trod_struct hs hf
  refine ⟨cs, rfl, hsz.trans hC, n, fun j f hj => ?_⟩
  obtain ⟨ho, hk⟩ := hone_of hone j f hj
  have hjl : j < fs.size := (Array.getElem?_eq_some_iff.1 hj).1
  have hjc : j < cs.size := by rw [hsz, hC]; exact hjl
  have hjx : j < xs.length := by omega
  refine ⟨cs[j], xs[j], Array.getElem?_eq_getElem hjc, ?_⟩
  have h1 := hg j f hj
  rw [ho, hk, List.getElem?_eq_getElem hjx] at h1
  have e : ((Value.agg cs).cells.toList.drop j).take 1 = [cs[j]] := by
    simp only [Value.cells]
    rw [List.drop_eq_getElem_cons (by simpa using hjc)]
    simp
  rw [← e]
  exact h1
set_option maxRecDepth 100000 in
theorem status_arg {H : Type} {enc : TypeId × Value → H} {W : World} {base : Nat} {v : Value} {d : DataW H} {p : List MemPlace} (hok : Value.okWide Try.prog W .any base 81 v)
    (h : DataW.Trod enc Try.prog W 0 (fun _ => true) true 81 v d p) : ∃ (ack : Int) (A : Option Addr) (cap : Nat) (L : List MissM), v = .agg #[.int .i64 ack, .slice A L.length cap] ∧ L.length ≤ cap ∧ cap ≤ 9223372036854775807 ∧ MSrc W A L := by
  obtain ⟨cs, rfl, hsz, n, hf⟩ := st_agg_field Try.underlying81 (by kernel_rfl) (by kernel_rfl) hok h
  obtain ⟨x0, y0, e0, h0⟩ := hf 0 _ rfl
  obtain ⟨x1, y1, e1, h1⟩ := hf 1 _ rfl
  have hcs : cs = #[x0, x1] := by
    have hsz7 : cs.size = 2 := hsz
    apply Array.ext (by rw [hsz7]; rfl)
    intro i hi _
    have h7 : i < 2 := by omega
    have key : ∀ k x, cs[k]? = some x → ∀ (hk : k < cs.size), cs[k] = x := fun k x hx hk => by
      rw [Array.getElem?_eq_getElem hk] at hx
      injection hx
    rcases i with _ | _ | i
    · exact key 0 _ e0 hi
    · exact key 1 _ e1 hi
    · omega
  subst hcs
  obtain ⟨a0, g0, _⟩ := DataW.trod_int Try.underlying3 h0
  injection g0 with g0
  subst g0
  obtain ⟨A, cap, L, rfl, q1, q2, q3⟩ := misses_cells h1
  exact ⟨a0, A, cap, L, rfl, q1, q2, q3⟩
set_option maxRecDepth 100000 in
theorem miss_arg {H : Type} {enc : TypeId × Value → H} {W : World} {base : Nat} {v : Value} {d : DataW H} {p : List MemPlace} (hok : Value.okWide Try.prog W .any base 100 v)
    (h : DataW.Trod enc Try.prog W 0 (fun _ => true) true 100 v d p) : ∃ m : MissM, v = m.v := by
  obtain ⟨cs, rfl, hsz⟩ := okWide_struct Try.underlying100 hok
  obtain ⟨fuel, hf⟩ := h
  obtain ⟨m, hm⟩ := miss_cells hf
  refine ⟨m, ?_⟩
  unfold MissM.v
  congr 1
  apply Array.toList_inj.1
  simpa [Value.cells] using hm
end Go.Proofs.Ytbdjgdkafbkdbaa
