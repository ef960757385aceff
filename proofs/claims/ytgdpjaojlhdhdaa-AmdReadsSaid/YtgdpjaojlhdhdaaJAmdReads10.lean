/-
  Bytes cut into fields of a call's own: the loop. The fields behind a head, read. The packet that bytes are. How many bytes a head of amd has.
-/
import Derived.Test.YtgdpjaojlhdhdaaJAmdReads09
import Derived.Test.YtgdpjaojlhdhdaaJAmdReads07
import Derived.DataElems
import Derived.Laws.ResultCell
namespace Go.Proofs.Ytgdpjaojlhdhdaa
open Go.RowKit


/-- like wp_scope_jumps; the first way may go through the label, too -/
theorem wp_scope_through {P : Program} {a : Act} {w : World} {Q : Exit → Act → World → Prop} {c tail : Code} (l : Nat) (J : Act → World → Prop) (μ : Act → World → Nat) (hf : findLabel c l = some (.seq .skip tail))
    (first : (∀ a w, J a w → tail.wp P (Exit.jump l J Q) a w) → c.wp P (Exit.jump l J Q) a w)
    (pass : ∀ a w, J a w → tail.wp P (Exit.jump l (fun a' w' => J a' w' ∧ μ a' w' < μ a w) Q) a w) : (Code.scope c).wp P Q a w := by
  refine wp_scope_jumps l J μ hf (first fun a w h b k cs => ?_) (fun a w h => wp_seq (wp_skip (pass a w h)))
  obtain ⟨e, a', w', hq, harr⟩ := pass a w h b k cs
  refine ⟨e, a', w', ?_, harr⟩
  cases e <;> simp only [Exit.jump] at hq ⊢
  all_goals first | exact hq | exact ⟨hq.1, hq.2.1⟩

theorem bts_take (l : List Nat) (n : Nat) : bts (l.take n) = (bts l).take n := by simp [bts, List.map_take]
theorem src_take {w : World} {A : Option Addr} {l : List Nat} (n : Nat) (h : Src w A (bts l)) : Src w A (bts (l.take n)) := by
  intro h0
  obtain ⟨ad, e, hc⟩ := h (by rw [length_bts] at *; rw [List.length_take] at h0; omega)
  refine ⟨ad, e, fun j u hu => hc j u ?_⟩
  rw [bts_take, List.getElem?_take] at hu
  split at hu
  · exact hu
  · cases hu
theorem src_dropc {w : World} {ad : Addr} {l : List Nat} {c : Nat} (n : Nat) (h : Src w (some ad) (bts (l.drop c))) : Src w (some (ad.add n)) (bts (l.drop (c + n))) := by
  intro h0
  obtain ⟨ad2, e, hc⟩ := h (by rw [length_bts, List.length_drop] at *; omega)
  injection e with e
  subst e
  refine ⟨_, rfl, fun j u hu => ?_⟩
  rw [Addr.add_add]
  refine hc (n + j) u ?_
  unfold bts at hu ⊢
  rw [List.getElem?_map, List.getElem?_drop] at hu ⊢
  rw [show c + (n + j) = c + n + j by omega]
  exact hu
/-- at the jump: the fields so far, and what is left -/
structure CutSt (B : Nat) (w0 : World) (bs ls : List Nat) (c : Nat) (L : List RowB) (v : Value) (Ab : Option Addr) (nb cb : Nat) (w : World) : Prop where
  own : OwnR B w v L
  inv : CInv bs ls (texts L) c
  left : nb = bs.length - c
  room : nb ≤ cb
  small : cb ≤ 9223372036854775807
  src : Src w0 Ab (bts (bs.drop c))
  below : Below B w0 w
/-- what cut answers -/
def CutAns (B : Nat) (w : World) (t : Option (List (List Nat))) (e : Ending) (w' : World) : Prop :=
  ((∃ v L, t = some (texts L) ∧ e = .returned (.tuple #[v, .int .i64 0]) ∧ OwnR B w' v L) ∨ (t = none ∧ e = .returned (.tuple #[.slice none 0 0, .int .i64 8]))) ∧ Below B w w'
section
variable {B : Nat} {w0 w : World} {bs ls : List Nat} {c nb cb : Nat} {L : List RowB} {v : Value} {Ab : Option Addr}
theorem CutSt.len (h : CutSt B w0 bs ls c L v Ab nb cb w) : L.length ≤ ls.length := by
  have := h.inv.1
  rwa [length_texts] at this
end
set_option maxRecDepth 100000 in
set_option maxHeartbeats 6400000 in
theorem cut_any {A Al : Option Addr} {bs ls : List Nat} (n cap m cl : Nat) (w : World) (hn : bs.length = n) (hn8 : n ≤ 1000000) (hcap : n ≤ cap) (hcm : cap ≤ 9223372036854775807) (hs : Src w A (bts bs)) (hb : ∀ b ∈ bs, b < 256)
    (hm : ls.length = m) (hm23 : m ≤ 23) (hsl : Src w Al (insN ls)) (hl1 : ∀ x ∈ ls, 1 ≤ x ∧ x < 65536) :
    Calls Try.prog 277 #[.slice A n cap, .slice Al m cl] w (CutAns w.heap.size w (cutF bs ls)) := by
  have HM := make_rows m (by omega)
  go_enter Try.func277, Try.ntmps277
  go_wp2
  refine wp_scope_through 0 (fun a' w' => ∃ (c : Nat) (L : List RowB) (v : Value) (Ab : Option Addr) (nb cb : Nat), Fr [some (.slice Ab nb cb), some (.slice Al m cl), none, none, some (.slice none 0 0), some (.int .i64 0), some v, none, none, none, none, none, none, none, none, none, none, none, none, none, none, none, none, none, none, none, none, none, none, none, none, none, none, none, none, none, none, none, none, none, none, none, none, none, none, none, none, none] a' ∧ sliceLen v = L.length ∧ Hid (CutSt w.heap.size w bs ls c L v Ab nb cb w')) (fun a' _ => 30 - sliceLen (a'.tmps.getD 6 undef)) rfl ?_ ?_
  · intro hrest
    have HI0 := Lib.hid (show CutSt w.heap.size w bs ls 0 [] (.slice (some ⟨w.heap.size, 0, none⟩) 0 (m + 1)) A n cap (w.alloc (.cells (List.replicate (m + 1) (Value.slice none 0 0)).toArray 30)) from
      ⟨own_rows m (by omega) w _ (Nat.le_refl _), CInv.start bs ls, by omega, hcap, hcm, hs, bl_alloc (Below.refl _ _) _⟩)
    have hrep : (List.replicate (m + 1) (Value.slice none 0 0)).toArray = Array.replicate (m + 1) (Value.slice none 0 0) := by simp
    rw [hrep] at HI0
    clear hrep
    go_wp2
    go_step3
    rename_i Q9 K9 h9
    refine h9 _ _ (hrest _ _ ⟨0, [], _, _, _, _, ?_, ?_, HI0⟩)
    · simp only [Fr, Holes]
      repeat apply Exists.intro
      rfl
    · simp [sliceLen]
  · rintro a' w' ⟨c, L, v, Ab, nb, cb, hfr, hsl2, HI⟩
    simp only [Fr, Holes] at hfr
    repeat (obtain ⟨_, hfr⟩ := hfr)
    obtain ⟨Av, cv, rfl, hv1, hv2⟩ := HI.out.own.form
    clear hsl2 HM
    have hlen := HI.out.len
    rw [hm] at hlen
    have hnb := HI.out.room
    have hnc := HI.out.small
    have hleft := HI.out.left
    have hnb6 : nb ≤ 1000000 := by omega
    have HN := Lib.hid hleft
    have HM := Lib.hid hm
    have HB := Lib.hid hb
    have HL1 := Lib.hid hl1
    have HSL := Lib.hid hsl
    clear hleft hn hm hb hl1 hs hsl
    by_cases hk : L.length < m
    · obtain ⟨mm, hmm⟩ : ∃ mm, ls[L.length]? = some mm := ⟨_, List.getElem?_eq_getElem (by have := HM.out; omega)⟩
      obtain ⟨hm1, hm2⟩ := HL1.out mm (List.mem_of_getElem? hmm)
      obtain ⟨adl, rfl, hcl⟩ := HSL.out (by rw [length_insN, HM.out]; omega)
      have hcell : w'.cell? (adl.add L.length) = some (.int .i64 mm) := cell_below HI.out.below (hcl _ _ (by simp [insN, hmm]))
      have hmm' : (ls[(texts L).length]?) = some mm := by rw [length_texts]; exact hmm
      clear hcl
      rcases Nat.lt_or_ge nb mm with hs1 | hs1
      · have HE := Lib.hid (HI.out.inv.short hmm' (by have := HN.out; omega))
        have hs2 : (nb : Int) < mm := by omega
        clear hmm hmm'
        go_wp2
        simp only [Exit.jump]
        refine bodyPost_ret (v := .tuple #[.slice none 0 0, .int .i64 8]) (by simp [results, Try.results277, go_sem]) rfl ⟨.inr ⟨HE.out, rfl⟩, HI.out.below⟩
      · have hbl := HI.out.below
        obtain ⟨adb, rfl, _⟩ := HI.out.src (by rw [length_bts, List.length_drop]; have := HN.out; omega)
        have hNX := HI.out.inv.next hmm' (by have := HN.out; omega)
        have HSB := Lib.hid (src_later HI.out.src HI.out.below)
        have HC := Lib.hid (copied_f (A := some adb) (l := (bs.drop c).take mm) w'.heap.size mm cb w' (by rw [List.length_take, List.length_drop]; have := HN.out; omega) (by omega) (by omega) (src_take mm HSB.out) (fun b h => HB.out b (List.mem_of_mem_drop (List.mem_of_mem_take h))) (Nat.le_refl _))
        have HST := Lib.hid (fun W1 A1 g3 c3 W3 (hmine : RowB.mine w'.heap.size W1 ⟨A1, mm, (bs.drop c).take mm⟩) (hb1 : Below w'.heap.size w' W1) (h3 : OwnR w.heap.size W3 (.slice (some ⟨g3, 0, none⟩) (L.length + 1) c3) (L ++ [⟨A1, mm, (bs.drop c).take mm⟩])) (hb3 : Below w.heap.size W1 W3) Ab nb2 cb2 (e1 : nb2 = nb - mm) (e2 : cb2 = cb - mm) (hs : Src w Ab (bts (bs.drop (c + mm)))) =>
          show CutSt w.heap.size w bs ls (c + mm) (L ++ [⟨A1, mm, (bs.drop c).take mm⟩]) (.slice (some ⟨g3, 0, none⟩) (L.length + 1) c3) Ab nb2 cb2 W3 from
          ⟨h3, by unfold texts; rw [List.map_append]; exact hNX, by have := HN.out; omega, by omega, by omega, hs, HI.out.below.trans ((hb1.mono HI.out.below.size).trans hb3)⟩)
        have HNXT := Lib.hid (fun W1 A1 (hmine : RowB.mine w'.heap.size W1 ⟨A1, mm, (bs.drop c).take mm⟩) (hb1 : Below w'.heap.size w' W1) => (HI.out.own.later hb1).next (Nat.le_trans HI.out.below.size hb1.size) ⟨A1, mm, (bs.drop c).take mm⟩ (hmine.down HI.out.below.size) (by omega))
        have HTK := Lib.hid (show ((bs.drop c).take mm).length = mm by rw [List.length_take, List.length_drop]; have := HN.out; omega)
        have hs2 : (mm : Int) ≤ nb := by omega
        have HSW := Lib.hid HI.out.src
        clear hmm hmm' hNX
        by_cases hcb : mm = cb
        · subst hcb
          go_wp2_with (first
            | (go_at_call 305; refine HC.out.mono ?_; rintro e w1 ⟨A1, rfl, hmine, hb1⟩; obtain ⟨g3, c3, w3, hr3, ho3, hb3⟩ := HNXT.out w1 A1 hmine hb1; rw [HTK.out] at hr3; (have HST2 := Lib.hid (HST.out w1 A1 g3 c3 w3 hmine hb1 ho3 hb3); clear hmine hb1 ho3 hb3))
            | (at_builtin; refine wpList_run rfl (.tmp 32) (.tmp 37) 40 rfl (.slice Av L.length cv) (.slice (some ⟨w1.heap.size, 0, none⟩) 1 1) (by rfl) (by rfl) hr3 ?_))
          go_step3
          refine ⟨rfl, ⟨c + mm, _, _, _, _, _, ?_, ?_, Lib.hid (HST2.out (some adb) 0 0 (by omega) (by omega) ?_)⟩, ?_⟩
          · simp only [Fr, Holes]
            repeat apply Exists.intro
            rfl
          · simp [sliceLen]
          · intro h0; rw [length_bts, List.length_drop] at h0; have := HN.out; omega
          · show 30 - sliceLen _ < 30 - sliceLen _
            simp [sliceLen]
            omega
        · have hcb2 : mm < cb := by omega
          go_wp2_with (first
            | (go_at_call 305; refine HC.out.mono ?_; rintro e w1 ⟨A1, rfl, hmine, hb1⟩; obtain ⟨g3, c3, w3, hr3, ho3, hb3⟩ := HNXT.out w1 A1 hmine hb1; rw [HTK.out] at hr3; (have HST2 := Lib.hid (HST.out w1 A1 g3 c3 w3 hmine hb1 ho3 hb3); clear hmine hb1 ho3 hb3))
            | (at_builtin; refine wpList_run rfl (.tmp 32) (.tmp 37) 40 rfl (.slice Av L.length cv) (.slice (some ⟨w1.heap.size, 0, none⟩) 1 1) (by rfl) (by rfl) hr3 ?_))
          go_step3
          refine ⟨rfl, ⟨c + mm, _, _, _, _, _, ?_, ?_, Lib.hid (HST2.out (some (adb.add mm)) (nb - mm) (cb - mm) rfl rfl ?_)⟩, ?_⟩
          · simp only [Fr, Holes]
            repeat apply Exists.intro
            rfl
          · simp [sliceLen]
          · exact src_dropc mm HSW.out
          · show 30 - sliceLen _ < 30 - sliceLen _
            simp [sliceLen]
            omega
    · have hkm : L.length = m := by omega
      have hkk : (texts L).length = ls.length := by rw [length_texts, HM.out]; exact hkm
      have hlt1 : ¬ ((L.length : Int) < (m : Int)) := by omega
      have hlt2 : ¬ ((L.length : Int) + 1 ≤ (m : Int)) := by omega
      have hl23 : L.length ≤ 23 := by omega
      clear hkm
      rcases Nat.eq_zero_or_pos nb with h0 | h0
      · have HE := Lib.hid (HI.out.inv.last_short hkk (by have := HN.out; omega))
        subst h0
        clear hkk
        go_wp2
        simp only [Exit.jump]
        refine bodyPost_ret (v := .tuple #[.slice none 0 0, .int .i64 8]) (by simp [results, Try.results277, go_sem]) rfl ⟨.inr ⟨HE.out, rfl⟩, HI.out.below⟩
      · have HE := Lib.hid (HI.out.inv.last hkk (by have := HN.out; omega))
        obtain ⟨adb, rfl, _⟩ := HI.out.src (by rw [length_bts, List.length_drop]; have := HN.out; omega)
        have HC := Lib.hid (copied_f (A := some adb) (l := bs.drop c) w'.heap.size nb cb w' (by rw [List.length_drop]; have := HN.out; omega) (by omega) (by omega) (src_later HI.out.src HI.out.below) (fun b h => HB.out b (List.mem_of_mem_drop h)) (Nat.le_refl _))
        have HNXT := Lib.hid (fun W1 A1 (hmine : RowB.mine w'.heap.size W1 ⟨A1, nb, bs.drop c⟩) (hb1 : Below w'.heap.size w' W1) => (HI.out.own.later hb1).next (Nat.le_trans HI.out.below.size hb1.size) ⟨A1, nb, bs.drop c⟩ (hmine.down HI.out.below.size) (by omega))
        have HTK := Lib.hid (show (bs.drop c).length = nb by rw [List.length_drop]; have := HN.out; omega)
        have HBW := Lib.hid HI.out.below
        have h1 : ¬ (nb : Int) < 1 := by omega
        have HX := Lib.hid (show ∀ A1, texts L ++ [bs.drop c] = texts (L ++ [⟨A1, nb, bs.drop c⟩]) from fun A1 => by unfold texts; rw [List.map_append]; rfl)
        clear hkk
        by_cases hcb : nb = cb
        · subst hcb
          go_wp2_with (first
            | (go_at_call 305; refine HC.out.mono ?_; rintro e w1 ⟨A1, rfl, hmine, hb1⟩; obtain ⟨g3, c3, w3, hr3, ho3, hb3⟩ := HNXT.out w1 A1 hmine hb1; rw [HTK.out] at hr3; (have HO3 := Lib.hid ho3; have HB3 := Lib.hid (HBW.out.trans ((hb1.mono HBW.out.size).trans hb3)); clear hmine hb1 ho3 hb3))
            | (at_builtin; refine wpList_run rfl (.tmp 32) (.tmp 37) 40 rfl (.slice Av L.length cv) (.slice (some ⟨w1.heap.size, 0, none⟩) 1 1) (by rfl) (by rfl) hr3 ?_))
          simp only [Exit.jump]
          refine bodyPost_ret (v := .tuple #[.slice (some ⟨g3, 0, none⟩) (L.length + 1) c3, .int .i64 0]) (by simp [results, Try.results277, go_sem]) rfl ⟨.inl ⟨_, _, ?_, rfl, HO3.out⟩, HB3.out⟩
          rw [HE.out, HX.out A1]
        · have hcb2 : nb < cb := by omega
          go_wp2_with (first
            | (go_at_call 305; refine HC.out.mono ?_; rintro e w1 ⟨A1, rfl, hmine, hb1⟩; obtain ⟨g3, c3, w3, hr3, ho3, hb3⟩ := HNXT.out w1 A1 hmine hb1; rw [HTK.out] at hr3; (have HO3 := Lib.hid ho3; have HB3 := Lib.hid (HBW.out.trans ((hb1.mono HBW.out.size).trans hb3)); clear hmine hb1 ho3 hb3))
            | (at_builtin; refine wpList_run rfl (.tmp 32) (.tmp 37) 40 rfl (.slice Av L.length cv) (.slice (some ⟨w1.heap.size, 0, none⟩) 1 1) (by rfl) (by rfl) hr3 ?_))
          simp only [Exit.jump]
          refine bodyPost_ret (v := .tuple #[.slice (some ⟨g3, 0, none⟩) (L.length + 1) c3, .int .i64 0]) (by simp [results, Try.results277, go_sem]) rfl ⟨.inl ⟨_, _, ?_, rfl, HO3.out⟩, HB3.out⟩
          rw [HE.out, HX.out A1]
end Go.Proofs.Ytgdpjaojlhdhdaa
namespace Go.Proofs.Ytgdpjaojlhdhdaa
open Go.RowKit


theorem insN_at {l : List Nat} {k x : Nat} (h : l[k]? = some x) : (insN l)[k]? = some (.int .i64 x) := by simp [insN, h]
set_option maxHeartbeats 800000 in
theorem max_any {A : Option Addr} {l : List Nat} (n c : Nat) (w : World) (hn : l.length = n) (h1 : 1 ≤ n) (h2 : n ≤ 1000) (hs : Src w A (insN l)) :
    Calls Try.prog 279 #[.slice A n c] w fun e w' => (∃ M : Nat, e = .returned (.int .i64 M) ∧ decide ((2047 : Int) < M) = l.any fun x => decide (2047 < x)) ∧ w = w' := by
  obtain ⟨ad, rfl, hc⟩ := hs (by rw [length_insN]; omega)
  obtain ⟨x0, hx0⟩ : ∃ x, l[0]? = some x := ⟨_, List.getElem?_eq_getElem (by omega)⟩
  have hcell0 : w.cell? ad = some (.int .i64 x0) := by have h9 := hc 0 _ (insN_at hx0); rw [addr_zero] at h9; exact h9
  have HX0 := Lib.hid hx0
  have HC := Lib.hid hc
  have HN := Lib.hid hn
  clear hs hc hn hx0
  go_enter Try.func279, Try.ntmps279
  go_wp2
  go_loopw [3, 4] (fun mv i wr => ∃ k M : Nat, 1 ≤ k ∧ k ≤ n ∧ i = .int .i64 k ∧ mv = .int .i64 M ∧ Hid (M ∈ l ∧ ∀ x ∈ l.take k, x ≤ M) ∧ w = wr) (fun _ i _ => n - (intOf i).toNat)
  case atStart => exact ⟨1, x0, by omega, h1, rfl, rfl, Lib.hid ⟨List.mem_of_getElem? HX0.out, fun x hx => by
    have e : l.take 1 = [x0] := by
      have h9 := HX0.out
      cases l with
      | nil => simp at h9
      | cons a r => simp at h9; subst h9; simp
    rw [e] at hx
    simp at hx
    omega⟩, rfl⟩
  case round =>
    obtain ⟨k, M, hk1, hk, rfl, rfl, HK, rfl⟩ := hrel
    by_cases hlt : k < n
    · obtain ⟨x, hx⟩ : ∃ x, l[k]? = some x := ⟨_, List.getElem?_eq_getElem (by have := HN.out; omega)⟩
      have hcell := HC.out k _ (insN_at hx)
      have HX := Lib.hid hx
      clear hx
      have htk : ∀ y, y ∈ l.take (k + 1) ↔ y ∈ l.take k ∨ y = x := fun y => by
        obtain ⟨h8, h9⟩ := List.getElem?_eq_some_iff.1 HX.out
        rw [List.take_succ_eq_append_getElem h8, List.mem_append, List.mem_singleton, h9]
      have HT := Lib.hid htk
      clear htk
      by_cases hgt : M < x
      · have hgt1 : (M : Int) < (x : Int) := by omega
        go_wp2
        go_roundw
        case rel => exact ⟨k + 1, x, by omega, by omega, by go_num, by rw [show max (M : Int) (x : Int) = x by omega], Lib.hid ⟨List.mem_of_getElem? HX.out, fun y hy => by
          rcases (HT.out y).1 hy with h | h
          · have := HK.out.2 y h; omega
          · omega⟩, trivial⟩
        case measure => simp [intOf]; omega
      · have hgt1 : ¬ (M : Int) < (x : Int) := by omega
        go_wp2
        go_roundw
        case rel => exact ⟨k + 1, M, by omega, by omega, by go_num, by rw [show max (M : Int) (x : Int) = M by omega], Lib.hid ⟨HK.out.1, fun y hy => by
          rcases (HT.out y).1 hy with h | h
          · exact HK.out.2 y h
          · omega⟩, trivial⟩
        case measure => simp [intOf]; omega
    · go_wp2
      go_ret
      refine ⟨⟨M, rfl, ?_⟩, rfl⟩
      have h9 := HK.out
      rw [List.take_of_length_le (by have := HN.out; omega)] at h9
      rw [Bool.eq_iff_iff, decide_eq_true_iff, List.any_eq_true]
      constructor
      · intro h
        exact ⟨M, h9.1, by rw [decide_eq_true_iff]; omega⟩
      · rintro ⟨x, hx, h⟩
        rw [decide_eq_true_iff] at h
        have := h9.2 x hx
        omega

/-- what Read of fields answers -/
def FldAns (B : Nat) (w : World) (r : Int × List (List Nat)) (e : Ending) (w' : World) : Prop :=
  ((r.1 = 0 ∧ ∃ v L, r.2 = texts L ∧ e = .returned (.tuple #[v, .int .i64 0]) ∧ OwnR B w' v L) ∨ (r.1 ≠ 0 ∧ e = .returned (.tuple #[.slice none 0 0, .int .i64 r.1]))) ∧ Below B w w'
theorem fld_of_cut {B : Nat} {w w' : World} {e : Ending} {t : Option (List (List Nat))} (h : CutAns B w t e w') : FldAns B w (ansOf t) e w' := by
  obtain ⟨h1 | h1, h2⟩ := h
  · obtain ⟨v, L, rfl, rfl, h4⟩ := h1
    exact ⟨.inl ⟨rfl, v, L, rfl, rfl, h4⟩, h2⟩
  · obtain ⟨rfl, rfl⟩ := h1
    exact ⟨.inr ⟨by decide, rfl⟩, h2⟩
theorem lread_any {A : Option Addr} {bs : List Nat} (wd n cap : Nat) (wi : Int) (w : World) (hw : wd = 11 ∨ wd = 15) (e : wi = wd) (hn : bs.length = n) (hm : n ≤ 8192) (hc : n ≤ cap) (hs : Src w A (bts bs)) (hb : ∀ b ∈ bs, b < 256) :
    Calls Try.prog 278 #[.slice A n cap, .int .i64 wi] w (RdAns w bs wd) := by
  subst e
  rcases hw with rfl | rfl
  · exact read_11 n cap w hn hm hc hs hb
  · exact read_15 n cap w hn hm hc hs hb
set_option maxRecDepth 100000 in
set_option maxHeartbeats 800000 in
theorem fread_no {A : Option Addr} {bs : List Nat} (wd n cap : Nat) (wi : Int) (w : World) (hn : bs.length = n) (hm : n ≤ 8192) (hc : n ≤ cap) (hcm : cap ≤ 9223372036854775807) (hs : Src w A (bts bs)) (hb : ∀ b ∈ bs, b < 256) :
    Calls Try.prog 164 #[.slice A n cap, .bool false, .int .i64 wi] w (FldAns w.heap.size w (fldR bs false wd)) := by
  have HC := Lib.hid (cut_any (Al := none) (ls := []) n cap 0 0 w hn (by omega) hc hcm hs hb rfl (by omega) (fun h => absurd h (by simp [insN])) (fun x hx => by cases hx))
  have HF := Lib.hid (fun e w' (h : CutAns w.heap.size w (cutF bs []) e w') => (show FldAns w.heap.size w (fldR bs false wd) e w' from fld_of_cut h))
  clear hs hb hn
  go_enter Try.func164, Try.ntmps164
  go_wp2_with (go_at_call 277; refine HC.out.mono ?_; rintro e w1 h1; have h2 := HF.out _ _ h1; obtain ⟨h3 | h3, h4⟩ := h1; (obtain ⟨v, L, hv, rfl, ho⟩ := h3; clear ho); rotate_left 1; (obtain ⟨hv, rfl⟩ := h3); rotate_left 1)
  · have HH := Lib.hid h2
    refine bodyPost_ret (v := .tuple #[v, .int .i64 0]) (by simp [results, Try.results164, go_sem]) rfl HH.out
  · have HH := Lib.hid h2
    refine bodyPost_ret (v := .tuple #[.slice none 0 0, .int .i64 8]) (by simp [results, Try.results164, go_sem]) rfl HH.out

theorem ints_src {B : Nat} {w : World} {A : Option Addr} {n c : Nat} {l : List Nat} (h : Ints B w (.slice A n c) (l.map (fun n : Nat => (n : Int)))) : n = l.length ∧ Src w A (insN l) := by
  obtain ⟨A', e, hc⟩ := h.read
  rw [List.length_map] at e
  injection e with e1 e2 e3
  subst e1
  refine ⟨e2, fun h0 => ?_⟩
  rw [length_insN] at h0
  obtain ⟨g, hA, _, _⟩ := hc 0 (l[0] : Nat) (by rw [List.getElem?_map, List.getElem?_eq_getElem h0]; rfl)
  subst hA
  refine ⟨_, rfl, fun j u hu => ?_⟩
  simp only [insN, List.getElem?_map, Option.map_map, Option.map_eq_some_iff] at hu
  obtain ⟨x, hx, rfl⟩ := hu
  obtain ⟨g', e', _, hcell⟩ := hc j (x : Nat) (by rw [List.getElem?_map, hx]; rfl)
  injection e' with e'
  injection e' with e'
  subst e'
  rw [add_zero_addr]
  exact hcell
set_option maxRecDepth 100000 in
set_option maxHeartbeats 1600000 in
theorem fread_yes {A : Option Addr} {bs : List Nat} (wd n cap : Nat) (wi : Int) (w : World) (hw : wd = 11 ∨ wd = 15) (e : wi = wd) (hn : bs.length = n) (hm : n ≤ 8192) (hc : n ≤ cap) (hcm : cap ≤ 9223372036854775807) (hs : Src w A (bts bs)) (hb : ∀ b ∈ bs, b < 256) :
    Calls Try.prog 164 #[.slice A n cap, .bool true, .int .i64 wi] w (FldAns w.heap.size w (fldR bs true wd)) := by
  have HRD := Lib.hid (lread_any wd n cap wi w hw e hn hm hc hs hb)
  by_cases h0 : (readF bs wd).2.2 = 0
  · obtain ⟨ls, k, hrf⟩ : ∃ ls k, readF bs wd = (ls, k, 0) := ⟨(readF bs wd).1, (readF bs wd).2.1, by rw [← h0]⟩
    have hwr := read_write hb hrf
    obtain ⟨q1, q2, q3, q4, q5, q6⟩ := hwr
    have q7 : 1 ≤ ls.length := by
      cases ls with
      | nil => exact absurd rfl q1
      | cons => simp
    have hF : fldR bs true wd = if ls.any (fun x => decide (2047 < x)) then (3, []) else ansOf (cutF (bs.drop k) ls) := by
      unfold fldR
      rw [hrf]
      simp
    have HRD2 := Lib.hid (show Calls Try.prog 278 #[.slice A n cap, .int .i64 wi] w fun e w' => ∃ Al, e = .returned (.tuple #[.slice Al ls.length ls.length, .int .i64 (k : Nat), .int .i64 0]) ∧ Src w' Al (insN ls) ∧ Below w.heap.size w w' from HRD.out.mono fun e w' h => by
      unfold RdAns at h
      rw [hrf] at h
      obtain ⟨h | h, hbl⟩ := h
      · obtain ⟨_, u, rfl, hu⟩ := h
        obtain ⟨Al, rfl, _⟩ := hu.read
        rw [List.length_map] at hu ⊢
        exact ⟨Al, rfl, (ints_src hu).2, hbl⟩
      · exact absurd rfl h.1)
    have hls : ∀ x ∈ ls, 1 ≤ x ∧ x < 65536 := fun x hx => ⟨(q3 x hx).1, Nat.lt_of_lt_of_le (q3 x hx).2 (by rcases hw with rfl | rfl <;> decide)⟩
    have hkn : k ≤ n := by omega
    have HMX := Lib.hid (fun W Al c (hsl : Src W Al (insN ls)) => max_any (l := ls) ls.length c W rfl q7 (by omega) hsl)
    have hdl : (bs.drop k).length = n - k := by rw [List.length_drop, hn]
    have HCT := Lib.hid (fun W Al Ab cb (hb1 : Below w.heap.size w W) (hsl : Src W Al (insN ls)) (hsb : Src w Ab (bts (bs.drop k))) (hcb : n - k ≤ cb) (hcm2 : cb ≤ 9223372036854775807) => cut_any (A := Ab) (Al := Al) (n - k) cb ls.length ls.length W hdl (by omega) hcb hcm2 (src_later hsb hb1) (fun b h => hb b (List.mem_of_mem_drop h)) rfl (by omega) hsl hls)
    have HS := Lib.hid hs
    have HF := Lib.hid hF
    have HDL := Lib.hid hdl
    have HFC := Lib.hid (fun (W : World) e w' (hw1 : Below w.heap.size w W) (h : CutAns W.heap.size W (cutF (bs.drop k) ls) e w') => (show FldAns w.heap.size w (ansOf (cutF (bs.drop k) ls)) e w' from by
      have h8 := fld_of_cut h
      obtain ⟨h9, h10⟩ := h8
      refine ⟨h9.imp (fun h => ?_) id, hw1.trans (h10.mono hw1.size)⟩
      obtain ⟨g1, v, L, g2, g3, g4⟩ := h
      exact ⟨g1, v, L, g2, g3, g4.own |> fun x => ⟨own_down x hw1.size, fun r hr => (g4.mine r hr).down hw1.size⟩⟩))
    have hn1 : 1 ≤ n := by
      have : 1 ≤ packLen (ls.length * (wd + 1)) := by
        have h9 : 1 * 1 ≤ ls.length * (wd + 1) := Nat.mul_le_mul q7 (by omega)
        unfold packLen
        omega
      omega
    have hbl : bs.length = n := hn
    have hlen : 1 ≤ ls.length ∧ ls.length ≤ 23 := ⟨q7, q2⟩
    clear hF hrf q1 q2 q3 q4 q5 q6 q7 hs hb hn hdl hls HRD h0 hw e
    obtain ⟨hlen1, hlen2⟩ := hlen
    have hk8 : k ≤ 8192 := by omega
    cases hany : ls.any fun x => decide (2047 < x)
    · rw [hany] at HMX HF
      clear hany
      have HFF := Lib.hid (show fldR bs true wd = ansOf (cutF (bs.drop k) ls) by rw [HF.out]; rfl)
      have HBL := Lib.hid hbl
      clear hbl
      obtain ⟨ad, rfl, _⟩ := HS.out (by rw [length_bts, HBL.out]; omega)
      by_cases hkc : k = cap
      · have hnk : n - k = 0 := by omega
        obtain rfl : n = k := by omega
        subst hkc
        have HS0 := Lib.hid (show Src w (some ad) (bts (bs.drop n)) from fun h0 => absurd h0 (by rw [length_bts, HDL.out]; omega))
        rw [hnk] at HCT
        clear hnk
        go_enter Try.func164, Try.ntmps164
        go_wp2_with (first
          | (go_at_call 278; refine HRD2.out.mono ?_; rintro e w1 ⟨Al, rfl, hsl, hb1⟩; (have HSL := Lib.hid hsl; have HB1 := Lib.hid hb1; clear hsl hb1))
          | (go_at_call 279; refine (HMX.out _ _ _ HSL.out).mono ?_; rintro e w2 ⟨⟨M, rfl, hM⟩, rfl⟩)
          | (go_at_call 277; refine (HCT.out w1 Al (some ad) 0 HB1.out HSL.out HS0.out (by omega) (by omega)).mono ?_; rintro e w3 h1; have h2 := HFC.out w1 _ _ HB1.out h1; obtain ⟨h3 | h3, h4⟩ := h1; (obtain ⟨v, L, hv, rfl, ho⟩ := h3; clear ho hv); rotate_left 1; (obtain ⟨hv, rfl⟩ := h3; clear hv); rotate_left 1))
        · have HH := Lib.hid h2
          refine bodyPost_ret (v := .tuple #[v, .int .i64 0]) (by simp [results, Try.results164, go_sem]) rfl ?_
          rw [HFF.out]
          exact HH.out
        · have HH := Lib.hid h2
          refine bodyPost_ret (v := .tuple #[.slice none 0 0, .int .i64 8]) (by simp [results, Try.results164, go_sem]) rfl ?_
          rw [HFF.out]
          exact HH.out
      · have hkc2 : k < cap := by omega
        have HS0 := Lib.hid (show Src w (some (ad.add k)) (bts (bs.drop k)) from by
          have h9 := src_dropc (c := 0) k (show Src w (some ad) (bts (bs.drop 0)) from HS.out)
          rw [Nat.zero_add] at h9
          exact h9)
        go_enter Try.func164, Try.ntmps164
        go_wp2_with (first
          | (go_at_call 278; refine HRD2.out.mono ?_; rintro e w1 ⟨Al, rfl, hsl, hb1⟩; (have HSL := Lib.hid hsl; have HB1 := Lib.hid hb1; clear hsl hb1))
          | (go_at_call 279; refine (HMX.out _ _ _ HSL.out).mono ?_; rintro e w2 ⟨⟨M, rfl, hM⟩, rfl⟩)
          | (go_at_call 277; refine (HCT.out w1 Al (some (ad.add k)) (cap - k) HB1.out HSL.out HS0.out (by omega) (by omega)).mono ?_; rintro e w3 h1; have h2 := HFC.out w1 _ _ HB1.out h1; obtain ⟨h3 | h3, h4⟩ := h1; (obtain ⟨v, L, hv, rfl, ho⟩ := h3; clear ho hv); rotate_left 1; (obtain ⟨hv, rfl⟩ := h3; clear hv); rotate_left 1))
        · have HH := Lib.hid h2
          refine bodyPost_ret (v := .tuple #[v, .int .i64 0]) (by simp [results, Try.results164, go_sem]) rfl ?_
          rw [HFF.out]
          exact HH.out
        · have HH := Lib.hid h2
          refine bodyPost_ret (v := .tuple #[.slice none 0 0, .int .i64 8]) (by simp [results, Try.results164, go_sem]) rfl ?_
          rw [HFF.out]
          exact HH.out
    · rw [hany] at HMX HF
      clear hany
      have HFF := Lib.hid (show fldR bs true wd = (3, []) by rw [HF.out]; rfl)
      go_enter Try.func164, Try.ntmps164
      go_wp2_with (first
        | (go_at_call 278; refine HRD2.out.mono ?_; rintro e w1 ⟨Al, rfl, hsl, hb1⟩; (have HSL := Lib.hid hsl; have HB1 := Lib.hid hb1; clear hsl hb1))
        | (go_at_call 279; refine (HMX.out _ _ _ HSL.out).mono ?_; rintro e w2 ⟨⟨M, rfl, hM⟩, rfl⟩))
      refine bodyPost_ret (v := .tuple #[.slice none 0 0, .int .i64 3]) (by simp [results, Try.results164, go_sem]) rfl ?_
      rw [HFF.out]
      exact ⟨.inr ⟨by decide, rfl⟩, HB1.out⟩
  · have HF := Lib.hid (show fldR bs true wd = ((readF bs wd).2.2, []) by unfold fldR; rw [if_pos rfl, if_neg h0])
    have HRD2 := Lib.hid (show Calls Try.prog 278 #[.slice A n cap, .int .i64 wi] w fun e w' => e = .returned (.tuple #[.slice none 0 0, .int .i64 0, .int .i64 (readF bs wd).2.2]) ∧ Below w.heap.size w w' from HRD.out.mono fun e w' h => by
      obtain ⟨h | h, hbl⟩ := h
      · exact absurd h.1 h0
      · exact ⟨h.2, hbl⟩)
    generalize (readF bs wd).2.2 = er at *
    have h1 : (er != 0) = true := by simpa using h0
    have H0 := Lib.hid h0
    clear hs hb hn HRD h0 hw e
    go_enter Try.func164, Try.ntmps164
    go_wp2_with (go_at_call 278; refine HRD2.out.mono ?_; rintro e w1 ⟨rfl, hb1⟩)
    refine bodyPost_ret (v := .tuple #[.slice none 0 0, .int .i64 er]) (by simp [results, Try.results164, go_sem]) rfl ?_
    rw [HF.out]
    exact ⟨.inr ⟨H0.out, rfl⟩, hb1⟩
end Go.Proofs.Ytgdpjaojlhdhdaa
namespace Go.Proofs.Ytgdpjaojlhdhdaa
open Go.RowKit


theorem get54 {pr p g : Nat} {bs : List Nat} {i : Nat} (n : Nat) (ni : Int) (w : World) (e : ni = n) (hp : Row w pr 224 #[.pointer (some ⟨p, 0, none⟩)]) (hr : RRep w p g bs i) (hn : n ≤ 40) (h : i + n ≤ 8 * bs.length) :
    Calls Try.prog 162 #[.int .i64 ni, .pointer (some ⟨pr, 0, none⟩)] w fun e w' => e = .returned (.int .i64 (val (seg bs i n))) ∧ RRep w' p g bs (i + n) ∧ Only (fun k => k = p) w w' := by
  subst e
  have HG := Lib.hid (get_any n w hr (by omega) h)
  have hc : w.cell? ⟨pr, 0, none⟩ = some (.pointer (some ⟨p, 0, none⟩)) := hp.read rfl
  have hv : val (seg bs i n) < 9223372036854775808 := val_small (by rw [length_seg h]; omega)
  generalize val (seg bs i n) = v at *
  have hw : IntKind.i64.wrap (v : Int) = (v : Int) := by rw [IntKind.wrap_i64]; omega
  clear hr hp
  go_enter Try.func162, Try.ntmps162
  go_wp2_with (go_at_call 163; refine HG.out.mono ?_; rintro e w1 ⟨rfl, h1, h2⟩)
  go_ret
  exact ⟨ret_int (by first | rfl | exact hw), h1, h2⟩
/-- what a packet's bytes tell: why they are none, FI, the number, the fields -/
def umdRd (bs : List Nat) (wd : Nat) : Int × Nat × Nat × List (List Nat) :=
  if wd = 5 ∨ wd = 10 then
    if 4000 < bs.length then (2, 0, 0, [])
    else if bs.length < wd / 5 then (8, 0, 0, [])
    else if val (seg (bs.take (wd / 5)) 0 (if wd = 10 then 3 else 0)) ≠ 0 then (3, 0, 0, [])
    else if (fldR (bs.drop (wd / 5)) (bitAt (bs.take (wd / 5)) ((if wd = 10 then 3 else 0) + 2)) 11).1 = 0 then
      (0, val (seg (bs.take (wd / 5)) (if wd = 10 then 3 else 0) 2), val (seg (bs.take (wd / 5)) ((if wd = 10 then 3 else 0) + 2 + 1) wd), (fldR (bs.drop (wd / 5)) (bitAt (bs.take (wd / 5)) ((if wd = 10 then 3 else 0) + 2)) 11).2)
    else ((fldR (bs.drop (wd / 5)) (bitAt (bs.take (wd / 5)) ((if wd = 10 then 3 else 0) + 2)) 11).1, 0, 0, [])
  else (9, 0, 0, [])
def UrdAns (B : Nat) (w : World) (r : Int × Nat × Nat × List (List Nat)) (e : Ending) (w' : World) : Prop :=
  ((r.1 = 0 ∧ ∃ v L, r.2.2.2 = texts L ∧ e = .returned (.tuple #[.agg #[.int .i64 r.2.1, .int .i64 r.2.2.1, v], .int .i64 0]) ∧ OwnR B w' v L) ∨ (r.1 ≠ 0 ∧ e = .returned (.tuple #[.agg #[.int .i64 0, .int .i64 0, .slice none 0 0], .int .i64 r.1]))) ∧ Below B w w'
theorem urd_bad {B : Nat} {w w' : World} {er : Int} {r : Int × Nat × Nat × List (List Nat)} (h : r.1 = er) (h0 : er ≠ 0) (hb : Below B w w') : UrdAns B w r (.returned (.tuple #[.agg #[.int .i64 0, .int .i64 0, .slice none 0 0], .int .i64 er])) w' := by
  subst h
  exact ⟨.inr ⟨h0, rfl⟩, hb⟩
theorem fread_any {A : Option Addr} {bs : List Nat} (more : Bool) (wd n cap : Nat) (wi : Int) (w : World) (hw : wd = 11 ∨ wd = 15) (e : wi = wd) (hn : bs.length = n) (hm : n ≤ 8192) (hc : n ≤ cap) (hcm : cap ≤ 9223372036854775807) (hs : Src w A (bts bs)) (hb : ∀ b ∈ bs, b < 256) :
    Calls Try.prog 164 #[.slice A n cap, .bool more, .int .i64 wi] w (FldAns w.heap.size w (fldR bs more wd)) := by
  cases more
  · exact fread_no wd n cap wi w hn hm hc hcm hs hb
  · exact fread_yes wd n cap wi w hw e hn hm hc hcm hs hb
theorem OwnR.down {B B' : Nat} {w : World} {v : Value} {L : List RowB} (h : OwnR B w v L) (hb : B' ≤ B) : OwnR B' w v L := ⟨own_down h.own hb, fun r hr => (h.mine r hr).down hb⟩
/-- a reader while a head is read -/
structure RdSt (B : Nat) (w0 : World) (pr p g : Nat) (hd : List Nat) (i : Nat) (w : World) : Prop where
  rd : RRep w p g hd i
  cell : Row w pr 224 #[.pointer (some ⟨p, 0, none⟩)]
  below : Below B w0 w
  above : B ≤ p
  size : B ≤ w.heap.size
theorem RdSt.get {B pr p g i : Nat} {w0 w : World} {hd : List Nat} (h : RdSt B w0 pr p g hd i w) (n : Nat) (ni : Int) (e : ni = n) (hn : n ≤ 40) (h2 : i + n ≤ 8 * hd.length) :
    Calls Try.prog 162 #[.int .i64 ni, .pointer (some ⟨pr, 0, none⟩)] w fun e w' => e = .returned (.int .i64 (val (seg hd i n))) ∧ RdSt B w0 pr p g hd (i + n) w' := by
  refine (get54 n ni w e h.cell h.rd hn h2).mono ?_
  rintro e w' ⟨rfl, h3, h4⟩
  exact ⟨rfl, h3, h.cell.only h4 (h.cell.apart h.rd.1 (by decide)), h.below.trans (get_below h4 h.above h.size), h.above, Nat.le_trans h.size h4.size⟩
theorem one_bit {bs : List Nat} {i : Nat} (h : i < 8 * bs.length) : ((val (seg bs i 1) : Nat) : Int) = ((bitAt bs i).toNat : Int) := by rw [val_one h]
theorem bit_eq (b : Bool) : (((b.toNat : Nat) : Int) == 1) = b := by cases b <;> rfl

theorem Try.info42s : (Try.prog.info? 42).map (·.size) = some 3 := by kernel_rfl
theorem Try.under42s : (Try.prog.underlying 42).map (fun d => match d with | .struct _ => true | _ => false) = some true := by kernel_rfl
theorem under42_parts : ∃ fs, Try.prog.underlying 42 = some (.struct fs) := by
  obtain ⟨d, hd, h⟩ := Option.map_eq_some_iff.1 Try.under42s
  cases d with
  | struct fs => exact ⟨fs, hd⟩
  | _ => simp at h
theorem results_two {fn : Func} {p u : Tmp} {ty : TypeId} (h : fn.results = #[.cell p ty, .tmp u]) (tmps : Array Value) (w : World) (g : Nat) (t : TypeId) (cs : Array Value) (fs : Array Field)
    (hp : tmps.getD p undef = .pointer (some ⟨g, 0, none⟩)) (hg : Row w g t cs)
    (hu : Try.prog.underlying ty = some (.struct fs)) (hi : (Try.prog.info? ty).map (·.size) = some cs.size) :
    (results fn tmps).run Try.prog w = .ok (.tuple #[.agg cs, tmps.getD u undef]) w := by
  rw [results_cell_tmp h, hp]
  simp only [asAddr, Sem.run_pure, Result.andThen_ok, run_loadVar_row w g t ty cs (0, 0) (.struct fs) hg hu rfl hi]

set_option maxRecDepth 100000 in
set_option maxHeartbeats 1600000 in
theorem uread_kind {A : Option Addr} {bs : List Nat} (n cap : Nat) (wd : Int) (w : World) (h5 : wd ≠ 5) (h10 : wd ≠ 10) :
    Calls Try.prog 25 #[.slice A n cap, .int .i64 wd] w fun e w' => e = .returned (.tuple #[.agg #[.int .i64 0, .int .i64 0, .slice none 0 0], .int .i64 9]) ∧ Below w.heap.size w w' := by
  have hh : headN wd = (0, 0) := by unfold headN; rw [if_neg h5, if_neg h10]
  have HSH := Lib.hid (fun W => shape_any wd W)
  rw [hh] at HSH
  clear hh h5 h10
  go_enter Try.func25, Try.ntmps25
  go_wp2_with (go_at_call 160; refine (HSH.out _).mono ?_; rintro e w1 ⟨rfl, rfl⟩)
  exact bodyPost_ret (v := .tuple #[.agg #[.int .i64 0, .int .i64 0, .slice none 0 0], .int .i64 9]) (by simp [results, Try.results25, go_sem]) rfl ⟨rfl, by first | exact bl_alloc (Below.refl _ _) _ | exact (bl_alloc (Below.refl _ _) _).setCell (by simp) _⟩
end Go.Proofs.Ytgdpjaojlhdhdaa
namespace Go.Proofs.Ytgdpjaojlhdhdaa
open Go.RowKit

/-- how many bytes a head has, or what is wrong -/
def headR (bs : List Nat) (wd : Nat) : Nat × Int :=
  if wd = 10 ∨ wd = 16 then
    if 4000 < bs.length then (0, 2) else if bs.length = 0 then (0, 8) else if bitAt bs 0 = false then (0, 4) else if bs.length < headNA (bitAt bs 1) wd then (0, 8) else (headNA (bitAt bs 1) wd, 0)
  else (0, 9)
theorem headA_nat {wd : Nat} (part : Bool) (hw : wd = 10 ∨ wd = 16) : headA part (wd : Int) = (headNA part wd : Int) := by
  rcases hw with rfl | rfl <;> cases part <;> rfl
theorem byte_one {bs : List Nat} {b : Nat} (h : bs[0]? = some b) (hb : b < 256) : bitAt bs 0 = !(((b : Int) / 128) == 0) ∧ bitAt bs 1 = (b / 64 % 2 == 1) := by
  refine ⟨?_, bitAt_eq (bs := bs) (i := 1) h⟩
  rw [bitAt_eq (bs := bs) (i := 0) h]
  have e : b / 2 ^ (7 - 0 % 8) % 2 = b / 128 := by
    have : (2 : Nat) ^ (7 - 0 % 8) = 128 := by decide
    rw [this]; omega
  rw [e]
  rcases Nat.lt_or_ge b 128 with h1 | h1
  · have h2 : b / 128 = 0 := by omega
    have h3 : (b : Int) / 128 = 0 := by omega
    rw [h2, h3]; rfl
  · have h2 : b / 128 = 1 := by omega
    have h3 : (b : Int) / 128 = 1 := by omega
    rw [h2, h3]; rfl
set_option maxRecDepth 100000 in
set_option maxHeartbeats 1600000 in
theorem headOf_any {A : Option Addr} {bs : List Nat} (wd n cap : Nat) (w : World) (hw : wd = 10 ∨ wd = 16) (hn : bs.length = n) (hs : Src w A (bts bs)) (hb : ∀ b ∈ bs, b < 256) :
    Calls Try.prog 172 #[.slice A n cap, .int .i64 wd] w fun e w' => e = .returned (.tuple #[.int .i64 (headR bs wd).1, .int .i64 (headR bs wd).2]) ∧ w = w' := by
  obtain ⟨_, _, hh0⟩ : lwA (wd : Int) = lwA (wd : Int) ∧ True ∧ headA false (wd : Int) ≠ 0 := ⟨rfl, trivial, by rcases hw with rfl | rfl <;> decide⟩
  have h0 : (headA false (wd : Int) == 0) = false := by simpa using hh0
  have HSH := Lib.hid (fun W => ahead_any false wd W)
  generalize headA false (wd : Int) = hf at *
  clear hh0
  rcases Nat.lt_or_ge 4000 n with h1 | h1
  · have HF := Lib.hid (show headR bs wd = (0, 2) by unfold headR; rw [if_pos hw, if_pos (by omega)])
    have h1' : (4000 : Int) < n := by omega
    clear hs hb hn hw
    go_enter Try.func172, Try.ntmps172
    go_wp2_with (go_at_call 44; refine (HSH.out _).mono ?_; rintro e w1 ⟨rfl, rfl⟩)
    go_ret2
    exact ⟨by rw [HF.out]; rfl, rfl⟩
  · have h1' : ¬ (4000 : Int) < n := by omega
    rcases Nat.eq_zero_or_pos n with h2 | h2
    · have HF := Lib.hid (show headR bs wd = (0, 8) by unfold headR; rw [if_pos hw, if_neg (by omega), if_pos (by omega)])
      subst h2
      clear hs hb hn hw
      go_enter Try.func172, Try.ntmps172
      go_wp2_with (go_at_call 44; refine (HSH.out _).mono ?_; rintro e w1 ⟨rfl, rfl⟩)
      go_ret2
      exact ⟨by rw [HF.out]; rfl, rfl⟩
    · have hnz : ((n : Int) == 0) = false := by simp; omega
      obtain ⟨ad, rfl, hc⟩ := hs (by rw [length_bts]; omega)
      obtain ⟨b, hb0⟩ : ∃ b, bs[0]? = some b := ⟨bs[0]'(by omega), List.getElem?_eq_getElem (by omega)⟩
      have hb1 : b < 256 := hb b (List.mem_of_getElem? hb0)
      have ca := hc 0 _ (bts_at hb0)
      have cb := ca
      rw [addr_zero] at cb
      obtain ⟨e0, e1⟩ := byte_one hb0 hb1
      have hF : headR bs wd = if bitAt bs 0 = false then (0, 4) else if n < headNA (bitAt bs 1) wd then (0, 8) else (headNA (bitAt bs 1) wd, 0) := by
        unfold headR
        rw [if_pos hw, if_neg (by omega), if_neg (by omega), hn]
      have hd6 : bits .and .u8 ((b : Int) / 64) 1 = (((bitAt bs 1).toNat : Nat) : Int) := by
        have := bit_u8 b 6 hb1
        rw [e1]
        exact this
      have HS2 := Lib.hid (fun p W => (show Calls Try.prog 44 #[.bool p, .int .i64 wd] W fun e w' => e = .returned (.int .i64 (headNA p wd)) ∧ W = w' from by
        have h := ahead_any p wd W
        rw [headA_nat p hw] at h
        exact h))
      have HF := Lib.hid hF
      generalize headR bs wd = F at *
      have hp : ((((bitAt bs 1).toNat : Nat) : Int) == 1) = bitAt bs 1 := bit_eq _
      generalize bitAt bs 1 = part at *
      clear hs hb hn hw hc hb0 hF e1
      cases hz : bitAt bs 0
      · rw [hz] at HF e0
        have hz2 : (((b : Int) / 128) == 0) = true := by
          cases h9 : (((b : Int) / 128) == 0)
          · rw [h9] at e0; cases e0
          · rfl
        clear e0 hz
        go_enter Try.func172, Try.ntmps172
        go_wp2_with (go_at_call 44; refine (HSH.out _).mono ?_; rintro e w1 ⟨rfl, rfl⟩)
        go_ret2
        exact ⟨by rw [HF.out]; rfl, rfl⟩
      · rw [hz] at HF e0
        have hz2 : (((b : Int) / 128) == 0) = false := by
          cases h9 : (((b : Int) / 128) == 0)
          · rfl
          · rw [h9] at e0; cases e0
        clear e0 hz
        rcases Nat.lt_or_ge n (headNA part wd) with h3 | h3
        · have HF2 := Lib.hid (show F = (0, 8) by rw [HF.out, if_neg (by decide), if_pos h3])
          have h3' : decide (n < headNA part wd) = true := decide_eq_true h3
          go_enter Try.func172, Try.ntmps172
          go_wp2_with (first
            | (go_at_call 44; (with_reducible refine (HSH.out _).mono ?_); rintro e w1 ⟨rfl, rfl⟩)
            | (go_at_call 44; (with_reducible refine (HS2.out _ _).mono ?_); rintro e w1 ⟨rfl, rfl⟩))
          go_ret2
          exact ⟨by rw [HF2.out]; rfl, rfl⟩
        · have HF2 := Lib.hid (show F = (headNA part wd, 0) by rw [HF.out, if_neg (by decide), if_neg (by omega)])
          have h3' : decide (n < headNA part wd) = false := decide_eq_false (by omega)
          go_enter Try.func172, Try.ntmps172
          go_wp2_with (first
            | (go_at_call 44; (with_reducible refine (HSH.out _).mono ?_); rintro e w1 ⟨rfl, rfl⟩)
            | (go_at_call 44; (with_reducible refine (HS2.out _ _).mono ?_); rintro e w1 ⟨rfl, rfl⟩))
          go_ret2
          exact ⟨by rw [HF2.out]; rfl, rfl⟩
end Go.Proofs.Ytgdpjaojlhdhdaa
