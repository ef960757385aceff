/-
  Bytes cut into fields of a call's own: the loop.
-/
import Derived.Test.YtdklddpkklodnaaFldCut
import Derived.Test.YtdklddpkklodnaaFldRows
import Derived.DataElems
namespace Go.Proofs.Ytdklddpkklodnaa
open Go.RowKit


/-- like wp_scope_jumps; the first way may go through the label, too -/
theorem wp_scope_through {P : Program} {a : Act} {w : World} {Q : Exit → Act → World → Prop} {c tail : Code} (l : Nat) (J : Act → World → Prop) (μ : Act → World → Nat) (hf : findLabel c l = some (.seq .skip tail))
    (first : (∀ a w, J a w → tail.wp P (Exit.jump l J Q) a w) → c.wp P (Exit.jump l J Q) a w)
    (pass : ∀ a w, J a w → tail.wp P (Exit.jump l (fun a' w' => J a' w' ∧ μ a' w' < μ a w) Q) a w) : (Code.scope c).wp P Q a w := by
  refine wp_scope_jumps l J μ hf (first fun a w h b k cs => ?_) (fun a w h => wp_seq (wp_skip (pass a w h)))
  obtain ⟨e, a', w', hq, harr⟩ := pass a w h b k cs
  refine ⟨e, a', w', ?_, harr⟩
  cases e <;> simp only [Exit.jump] at hq ⊢
  all_goals first | exact hq | exact ⟨hq.1, hq.2.1⟩

theorem bts_take (l : List Nat) (n : Nat) : bts (l.take n) = (bts l).take n := by simp [bts, List.map_take]
theorem src_take {w : World} {A : Option Addr} {l : List Nat} (n : Nat) (h : Src w A (bts l)) : Src w A (bts (l.take n)) := by
  intro h0
  obtain ⟨ad, e, hc⟩ := h (by rw [length_bts] at *; rw [List.length_take] at h0; omega)
  refine ⟨ad, e, fun j u hu => hc j u ?_⟩
  rw [bts_take, List.getElem?_take] at hu
  split at hu
  · exact hu
  · cases hu
theorem src_dropc {w : World} {ad : Addr} {l : List Nat} {c : Nat} (n : Nat) (h : Src w (some ad) (bts (l.drop c))) : Src w (some (ad.add n)) (bts (l.drop (c + n))) := by
  intro h0
  obtain ⟨ad2, e, hc⟩ := h (by rw [length_bts, List.length_drop] at *; omega)
  injection e with e
  subst e
  refine ⟨_, rfl, fun j u hu => ?_⟩
  rw [Addr.add_add]
  refine hc (n + j) u ?_
  unfold bts at hu ⊢
  rw [List.getElem?_map, List.getElem?_drop] at hu ⊢
  rw [show c + (n + j) = c + n + j by omega]
  exact hu
/-- at the jump: the fields so far, and what is left -/
structure CutSt (B : Nat) (w0 : World) (bs ls : List Nat) (c : Nat) (L : List RowB) (v : Value) (Ab : Option Addr) (nb cb : Nat) (w : World) : Prop where
  own : OwnR B w v L
  inv : CInv bs ls (texts L) c
  left : nb = bs.length - c
  room : nb ≤ cb
  small : cb ≤ 9223372036854775807
  src : Src w0 Ab (bts (bs.drop c))
  below : Below B w0 w
/-- what cut answers -/
def CutAns (B : Nat) (w : World) (t : Option (List (List Nat))) (e : Ending) (w' : World) : Prop :=
  ((∃ v L, t = some (texts L) ∧ e = .returned (.tuple #[v, .int .i64 0]) ∧ OwnR B w' v L) ∨ (t = none ∧ e = .returned (.tuple #[.slice none 0 0, .int .i64 8]))) ∧ Below B w w'
section
variable {B : Nat} {w0 w : World} {bs ls : List Nat} {c nb cb : Nat} {L : List RowB} {v : Value} {Ab : Option Addr}
theorem CutSt.len (h : CutSt B w0 bs ls c L v Ab nb cb w) : L.length ≤ ls.length := by
  have := h.inv.1
  rwa [length_texts] at this
end
set_option maxRecDepth 100000 in
set_option maxHeartbeats 6400000 in
theorem cut_any {A Al : Option Addr} {bs ls : List Nat} (n cap m cl : Nat) (w : World) (hn : bs.length = n) (hn8 : n ≤ 1000000) (hcap : n ≤ cap) (hcm : cap ≤ 9223372036854775807) (hs : Src w A (bts bs)) (hb : ∀ b ∈ bs, b < 256)
    (hm : ls.length = m) (hm23 : m ≤ 23) (hsl : Src w Al (insN ls)) (hl1 : ∀ x ∈ ls, 1 ≤ x ∧ x < 65536) :
    Calls Try.prog 88 #[.slice A n cap, .slice Al m cl] w (CutAns w.heap.size w (cutF bs ls)) := by
  have HM := make_rows m (by omega)
  go_enter Try.func88, Try.ntmps88
  go_wp2
  refine wp_scope_through 0 (fun a' w' => ∃ (c : Nat) (L : List RowB) (v : Value) (Ab : Option Addr) (nb cb : Nat), Fr [some (.slice Ab nb cb), some (.slice Al m cl), none, none, some (.slice none 0 0), some (.int .i64 0), some v, none, none, none, none, none, none, none, none, none, none, none, none, none, none, none, none, none, none, none, none, none, none, none, none, none, none, none, none, none, none, none, none, none, none, none, none, none, none, none, none, none] a' ∧ sliceLen v = L.length ∧ Hid (CutSt w.heap.size w bs ls c L v Ab nb cb w')) (fun a' _ => 30 - sliceLen (a'.tmps.getD 6 undef)) rfl ?_ ?_
  · intro hrest
    have HI0 := Lib.hid (show CutSt w.heap.size w bs ls 0 [] (.slice (some ⟨w.heap.size, 0, none⟩) 0 (m + 1)) A n cap (w.alloc (.cells (List.replicate (m + 1) (Value.slice none 0 0)).toArray 30)) from
      ⟨own_rows m (by omega) w _ (Nat.le_refl _), CInv.start bs ls, by omega, hcap, hcm, hs, bl_alloc (Below.refl _ _) _⟩)
    have hrep : (List.replicate (m + 1) (Value.slice none 0 0)).toArray = Array.replicate (m + 1) (Value.slice none 0 0) := by simp
    rw [hrep] at HI0
    clear hrep
    go_wp2
    go_step3
    rename_i Q9 K9 h9
    refine h9 _ _ (hrest _ _ ⟨0, [], _, _, _, _, ?_, ?_, HI0⟩)
    · simp only [Fr, Holes]
      repeat apply Exists.intro
      rfl
    · simp [sliceLen]
  · rintro a' w' ⟨c, L, v, Ab, nb, cb, hfr, hsl2, HI⟩
    simp only [Fr, Holes] at hfr
    repeat (obtain ⟨_, hfr⟩ := hfr)
    obtain ⟨Av, cv, rfl, hv1, hv2⟩ := HI.out.own.form
    clear hsl2 HM
    have hlen := HI.out.len
    rw [hm] at hlen
    have hnb := HI.out.room
    have hnc := HI.out.small
    have hleft := HI.out.left
    have hnb6 : nb ≤ 1000000 := by omega
    have HN := Lib.hid hleft
    have HM := Lib.hid hm
    have HB := Lib.hid hb
    have HL1 := Lib.hid hl1
    have HSL := Lib.hid hsl
    clear hleft hn hm hb hl1 hs hsl
    by_cases hk : L.length < m
    · obtain ⟨mm, hmm⟩ : ∃ mm, ls[L.length]? = some mm := ⟨_, List.getElem?_eq_getElem (by have := HM.out; omega)⟩
      obtain ⟨hm1, hm2⟩ := HL1.out mm (List.mem_of_getElem? hmm)
      obtain ⟨adl, rfl, hcl⟩ := HSL.out (by rw [length_insN, HM.out]; omega)
      have hcell : w'.cell? (adl.add L.length) = some (.int .i64 mm) := cell_below HI.out.below (hcl _ _ (by simp [insN, hmm]))
      have hmm' : (ls[(texts L).length]?) = some mm := by rw [length_texts]; exact hmm
      clear hcl
      rcases Nat.lt_or_ge nb mm with hs1 | hs1
      · have HE := Lib.hid (HI.out.inv.short hmm' (by have := HN.out; omega))
        have hs2 : (nb : Int) < mm := by omega
        clear hmm hmm'
        go_wp2
        simp only [Exit.jump]
        refine bodyPost_ret (v := .tuple #[.slice none 0 0, .int .i64 8]) (by simp [results, Try.results88, go_sem]) rfl ⟨.inr ⟨HE.out, rfl⟩, HI.out.below⟩
      · have hbl := HI.out.below
        obtain ⟨adb, rfl, _⟩ := HI.out.src (by rw [length_bts, List.length_drop]; have := HN.out; omega)
        have hNX := HI.out.inv.next hmm' (by have := HN.out; omega)
        have HSB := Lib.hid (src_later HI.out.src HI.out.below)
        have HC := Lib.hid (copied_f (A := some adb) (l := (bs.drop c).take mm) w'.heap.size mm cb w' (by rw [List.length_take, List.length_drop]; have := HN.out; omega) (by omega) (by omega) (src_take mm HSB.out) (fun b h => HB.out b (List.mem_of_mem_drop (List.mem_of_mem_take h))) (Nat.le_refl _))
        have HST := Lib.hid (fun W1 A1 g3 c3 W3 (hmine : RowB.mine w'.heap.size W1 ⟨A1, mm, (bs.drop c).take mm⟩) (hb1 : Below w'.heap.size w' W1) (h3 : OwnR w.heap.size W3 (.slice (some ⟨g3, 0, none⟩) (L.length + 1) c3) (L ++ [⟨A1, mm, (bs.drop c).take mm⟩])) (hb3 : Below w.heap.size W1 W3) Ab nb2 cb2 (e1 : nb2 = nb - mm) (e2 : cb2 = cb - mm) (hs : Src w Ab (bts (bs.drop (c + mm)))) =>
          show CutSt w.heap.size w bs ls (c + mm) (L ++ [⟨A1, mm, (bs.drop c).take mm⟩]) (.slice (some ⟨g3, 0, none⟩) (L.length + 1) c3) Ab nb2 cb2 W3 from
          ⟨h3, by unfold texts; rw [List.map_append]; exact hNX, by have := HN.out; omega, by omega, by omega, hs, HI.out.below.trans ((hb1.mono HI.out.below.size).trans hb3)⟩)
        have HNXT := Lib.hid (fun W1 A1 (hmine : RowB.mine w'.heap.size W1 ⟨A1, mm, (bs.drop c).take mm⟩) (hb1 : Below w'.heap.size w' W1) => (HI.out.own.later hb1).next (Nat.le_trans HI.out.below.size hb1.size) ⟨A1, mm, (bs.drop c).take mm⟩ (hmine.down HI.out.below.size) (by omega))
        have HTK := Lib.hid (show ((bs.drop c).take mm).length = mm by rw [List.length_take, List.length_drop]; have := HN.out; omega)
        have hs2 : (mm : Int) ≤ nb := by omega
        have HSW := Lib.hid HI.out.src
        clear hmm hmm' hNX
        by_cases hcb : mm = cb
        · subst hcb
          go_wp2_with (first
            | (go_at_call 103; refine HC.out.mono ?_; rintro e w1 ⟨A1, rfl, hmine, hb1⟩; obtain ⟨g3, c3, w3, hr3, ho3, hb3⟩ := HNXT.out w1 A1 hmine hb1; rw [HTK.out] at hr3; (have HST2 := Lib.hid (HST.out w1 A1 g3 c3 w3 hmine hb1 ho3 hb3); clear hmine hb1 ho3 hb3))
            | (at_builtin; refine wpList_run rfl (.tmp 32) (.tmp 37) 22 rfl (.slice Av L.length cv) (.slice (some ⟨w1.heap.size, 0, none⟩) 1 1) (by rfl) (by rfl) hr3 ?_))
          go_step3
          refine ⟨rfl, ⟨c + mm, _, _, _, _, _, ?_, ?_, Lib.hid (HST2.out (some adb) 0 0 (by omega) (by omega) ?_)⟩, ?_⟩
          · simp only [Fr, Holes]
            repeat apply Exists.intro
            rfl
          · simp [sliceLen]
          · intro h0; rw [length_bts, List.length_drop] at h0; have := HN.out; omega
          · show 30 - sliceLen _ < 30 - sliceLen _
            simp [sliceLen]
            omega
        · have hcb2 : mm < cb := by omega
          go_wp2_with (first
            | (go_at_call 103; refine HC.out.mono ?_; rintro e w1 ⟨A1, rfl, hmine, hb1⟩; obtain ⟨g3, c3, w3, hr3, ho3, hb3⟩ := HNXT.out w1 A1 hmine hb1; rw [HTK.out] at hr3; (have HST2 := Lib.hid (HST.out w1 A1 g3 c3 w3 hmine hb1 ho3 hb3); clear hmine hb1 ho3 hb3))
            | (at_builtin; refine wpList_run rfl (.tmp 32) (.tmp 37) 22 rfl (.slice Av L.length cv) (.slice (some ⟨w1.heap.size, 0, none⟩) 1 1) (by rfl) (by rfl) hr3 ?_))
          go_step3
          refine ⟨rfl, ⟨c + mm, _, _, _, _, _, ?_, ?_, Lib.hid (HST2.out (some (adb.add mm)) (nb - mm) (cb - mm) rfl rfl ?_)⟩, ?_⟩
          · simp only [Fr, Holes]
            repeat apply Exists.intro
            rfl
          · simp [sliceLen]
          · exact src_dropc mm HSW.out
          · show 30 - sliceLen _ < 30 - sliceLen _
            simp [sliceLen]
            omega
    · have hkm : L.length = m := by omega
      have hkk : (texts L).length = ls.length := by rw [length_texts, HM.out]; exact hkm
      have hlt1 : ¬ ((L.length : Int) < (m : Int)) := by omega
      have hlt2 : ¬ ((L.length : Int) + 1 ≤ (m : Int)) := by omega
      have hl23 : L.length ≤ 23 := by omega
      clear hkm
      rcases Nat.eq_zero_or_pos nb with h0 | h0
      · have HE := Lib.hid (HI.out.inv.last_short hkk (by have := HN.out; omega))
        subst h0
        clear hkk
        go_wp2
        simp only [Exit.jump]
        refine bodyPost_ret (v := .tuple #[.slice none 0 0, .int .i64 8]) (by simp [results, Try.results88, go_sem]) rfl ⟨.inr ⟨HE.out, rfl⟩, HI.out.below⟩
      · have HE := Lib.hid (HI.out.inv.last hkk (by have := HN.out; omega))
        obtain ⟨adb, rfl, _⟩ := HI.out.src (by rw [length_bts, List.length_drop]; have := HN.out; omega)
        have HC := Lib.hid (copied_f (A := some adb) (l := bs.drop c) w'.heap.size nb cb w' (by rw [List.length_drop]; have := HN.out; omega) (by omega) (by omega) (src_later HI.out.src HI.out.below) (fun b h => HB.out b (List.mem_of_mem_drop h)) (Nat.le_refl _))
        have HNXT := Lib.hid (fun W1 A1 (hmine : RowB.mine w'.heap.size W1 ⟨A1, nb, bs.drop c⟩) (hb1 : Below w'.heap.size w' W1) => (HI.out.own.later hb1).next (Nat.le_trans HI.out.below.size hb1.size) ⟨A1, nb, bs.drop c⟩ (hmine.down HI.out.below.size) (by omega))
        have HTK := Lib.hid (show (bs.drop c).length = nb by rw [List.length_drop]; have := HN.out; omega)
        have HBW := Lib.hid HI.out.below
        have h1 : ¬ (nb : Int) < 1 := by omega
        have HX := Lib.hid (show ∀ A1, texts L ++ [bs.drop c] = texts (L ++ [⟨A1, nb, bs.drop c⟩]) from fun A1 => by unfold texts; rw [List.map_append]; rfl)
        clear hkk
        by_cases hcb : nb = cb
        · subst hcb
          go_wp2_with (first
            | (go_at_call 103; refine HC.out.mono ?_; rintro e w1 ⟨A1, rfl, hmine, hb1⟩; obtain ⟨g3, c3, w3, hr3, ho3, hb3⟩ := HNXT.out w1 A1 hmine hb1; rw [HTK.out] at hr3; (have HO3 := Lib.hid ho3; have HB3 := Lib.hid (HBW.out.trans ((hb1.mono HBW.out.size).trans hb3)); clear hmine hb1 ho3 hb3))
            | (at_builtin; refine wpList_run rfl (.tmp 32) (.tmp 37) 22 rfl (.slice Av L.length cv) (.slice (some ⟨w1.heap.size, 0, none⟩) 1 1) (by rfl) (by rfl) hr3 ?_))
          simp only [Exit.jump]
          refine bodyPost_ret (v := .tuple #[.slice (some ⟨g3, 0, none⟩) (L.length + 1) c3, .int .i64 0]) (by simp [results, Try.results88, go_sem]) rfl ⟨.inl ⟨_, _, ?_, rfl, HO3.out⟩, HB3.out⟩
          rw [HE.out, HX.out A1]
        · have hcb2 : nb < cb := by omega
          go_wp2_with (first
            | (go_at_call 103; refine HC.out.mono ?_; rintro e w1 ⟨A1, rfl, hmine, hb1⟩; obtain ⟨g3, c3, w3, hr3, ho3, hb3⟩ := HNXT.out w1 A1 hmine hb1; rw [HTK.out] at hr3; (have HO3 := Lib.hid ho3; have HB3 := Lib.hid (HBW.out.trans ((hb1.mono HBW.out.size).trans hb3)); clear hmine hb1 ho3 hb3))
            | (at_builtin; refine wpList_run rfl (.tmp 32) (.tmp 37) 22 rfl (.slice Av L.length cv) (.slice (some ⟨w1.heap.size, 0, none⟩) 1 1) (by rfl) (by rfl) hr3 ?_))
          simp only [Exit.jump]
          refine bodyPost_ret (v := .tuple #[.slice (some ⟨g3, 0, none⟩) (L.length + 1) c3, .int .i64 0]) (by simp [results, Try.results88, go_sem]) rfl ⟨.inl ⟨_, _, ?_, rfl, HO3.out⟩, HB3.out⟩
          rw [HE.out, HX.out A1]
end Go.Proofs.Ytdklddpkklodnaa
