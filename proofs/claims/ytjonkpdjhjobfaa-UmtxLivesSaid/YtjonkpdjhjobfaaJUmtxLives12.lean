/-
  cut: Build, walked.
-/
import Derived.Test.YtjonkpdjhjobfaaJUmtxLives11
namespace Go.Proofs.Ytjonkpdjhjobfaa
open Go.RowKit

def muC (a : Act) (w : World) : Nat := 1000 - sliceLen ((match a.tmps.getD 9 undef with
  | .pointer (some ⟨b, _, _⟩) => w.cell? ⟨b, 1, none⟩
  | _ => none).getD undef)
theorem lens_texts (L : List RowB) : lens L = (texts L).map List.length := by simp [lens, texts]
theorem lens_whole {L : List RowB} {ts : List Txt} {k : Nat} (h : texts L = (ts.take k).map Txt.bs) : lens L = (lenT ts).take k := by
  rw [lens_texts, h, lenT_take]
  unfold lenT
  rw [List.map_map]
  rfl
theorem sum_small (ls : List Nat) (h : ∀ l ∈ ls, l ≤ 1000) : ls.sum ≤ ls.length * 1000 := by
  induction ls with
  | nil => simp
  | cons a r ih =>
    have h1 := h a (List.mem_cons_self ..)
    have h2 := ih (fun l hl => h l (List.mem_cons_of_mem _ hl))
    simp
    omega
theorem lens_small {L : List RowB} {ts : List Txt} {k : Nat} (h : texts L = (ts.take k).map Txt.bs) (hn : ts.length ≤ 64) (h0 : ∀ t ∈ ts, t.bs.length ≤ 1000) : (lens L).sum ≤ 1000000 := by
  rw [lens_whole h, lenT_take]
  have h1 := sum_small (lenT (ts.take k)) (fun l hl => by
    unfold lenT at hl
    rw [List.mem_map] at hl
    obtain ⟨t, ht, rfl⟩ := hl
    exact h0 t (List.mem_of_mem_take ht))
  have h2 : (lenT (ts.take k)).length ≤ 64 := by rw [length_lenT, List.length_take]; omega
  have h3 : (lenT (ts.take k)).length * 1000 ≤ 64 * 1000 := Nat.mul_le_mul_right _ h2
  omega
theorem Try.underpc : (Try.prog.underlying 141).map (fun d => match d with | .struct _ => true | _ => false) = some true := by kernel_rfl
theorem underpc_parts : ∃ fs, Try.prog.underlying 141 = some (.struct fs) := by
  obtain ⟨d, hd, h⟩ := Option.map_eq_some_iff.1 Try.underpc
  cases d with
  | struct fs => exact ⟨fs, hd⟩
  | _ => simp at h
theorem Try.infopcs : (Try.prog.info? 141).map (·.size) = some 3 := by kernel_rfl
/-- at the label -/
def CutJ (B p last : Nat) (R room x : Int) (ts : List Txt) (w0 : World) (p9 k : Nat) (fi : Int) (F D : Value) (w : World) : Prop :=
  ∃ L, CutI B p last R w0 p9 fi F D L ((ts.take k).map Txt.id) (ts.drop k) w ∧ texts L = (ts.take k).map Txt.bs ∧ k ≤ ts.length ∧
    (∀ i l, i < k → (lenT ts)[i]? = some l → nextF l ((lenT ts).take i) room x = l) ∧ fi = (if k = 0 then 0 else if headBg ts then 2 else 0) ∧ (∃ A c, F = .slice A k c ∧ k ≤ c) ∧ ∃ A c, D = .slice A k c ∧ k ≤ c
set_option maxRecDepth 100000 in
set_option maxHeartbeats 6400000 in
theorem cutbuild_ok {B p last : Nat} {R : Int} {ts : List Txt} {w : World} (room x : Int) (h : QRep B w p R last ts) (hr : 0 < R) (hn : ts.length ≤ 64) (hid : ∀ t ∈ ts, 1 ≤ t.id) (hf : faultC room x = 0) (h0 : ∀ t ∈ ts, 0 < t.bs.length ∧ t.bs.length ≤ 1000 ∧ ∀ b ∈ t.bs, b < 256) (hbg : ∀ t ∈ ts.drop 1, t.bg = false) :
    Calls Try.prog 84 #[.pointer (some ⟨p, 0, none⟩), .int .i64 room, .int .i64 x] w (CutDone B p last R ts room x w) := by
  have hb0 := bl_alloc (Below.refl w.heap.size w) (.cells #[.int .i64 0, .slice none 0 0, .slice none 0 0] 141)
  have HF := cfault_any room x (h.later hb0) hr (by omega) hid
  rw [hf] at HF
  have HF := Lib.hid HF
  have HROW := Lib.hid (Row.made w 141 #[.int .i64 0, .slice none 0 0, .slice none 0 0])
  have hx : 0 < sizeF 1 x ∧ 0 ≤ room ∧ room ≤ 4000 := by
    unfold faultC at hf
    split at hf
    · split at hf
      · omega
      · omega
    · omega
  obtain ⟨hx1, hr0, hr1⟩ := hx
  have H0 := Lib.hid h0
  have HBG := Lib.hid hbg
  have HN := Lib.hid hn
  have HQO := Lib.hid (QOnly.of_below (B := B) hb0)
  clear h hid hf h0 hbg hx1 hb0
  go_enter Try.func84, Try.ntmps84
  go_wp2
  refine wp_scope_through 0 (fun a' w' => ∃ (k : Nat) (fi : Int) (A : Option Addr) (c : Nat) (DA : Option Addr) (dc p9 : Nat), Fr [some (.pointer (some ⟨p, 0, none⟩)), some (.int .i64 room), some (.int .i64 x), none, none, none, some (.pointer (some ⟨w.heap.size, 0, none⟩)), some (.int .i64 0), none, some (.pointer (some ⟨p9, 0, none⟩)), none, none, none, none, none, none, none, none, none, none, none, none, none, none, none, none, none, none, none, none, none, none, none, none, none, none, none, none, none, none, none, none, none, none, none, none, none, none, none, none, none, none, none, none, none, none, none, none, none, none, none, none, none, none, none, none, none, none, none, none, none, none, none, none, none, none, none, none, none, none] a' ∧ Hid (CutJ B p last R room x ts w p9 k fi (.slice A k c) (.slice DA k dc) w')) muC rfl ?_ ?_
  · intro hrest
    go_wp2_with (go_at_call 149; (with_reducible refine HF.out.mono ?_); rintro e w1 ⟨rfl, hq, ho⟩; (have H1 := Lib.hid hq; have H2 := Lib.hid ho; clear hq ho))
    go_step3
    rename_i Q9 K9 h9
    refine h9 _ _ (hrest _ _ ⟨0, 0, none, 0, none, 0, w1.heap.size, ?_, Lib.hid ⟨[], ⟨H1.out.later (bl_alloc (Below.refl _ _) _), (HQO.out.trans H2.out).trans (QOnly.of_below (bl_alloc (Below.refl _ _) _)), ⟨World.ownsRow_nil _ _ _ _, fun r hr => by cases hr⟩, World.ownsRow_nil _ _ _ _, (H2.out.row HROW.out (by decide) (by decide)).more _, Row.made _ _ _, by have := H2.out.size; simp at this; omega⟩, rfl, by omega, fun i l h => by omega, rfl, ⟨none, 0, rfl, by omega⟩, none, 0, rfl, by omega⟩⟩)
    simp only [Fr, Holes]
    repeat apply Exists.intro
    rfl
  · rintro a' w' ⟨k, fi, A, c, DA, dc, p9, hfr, HJ⟩
    simp only [Fr, Holes] at hfr
    repeat (obtain ⟨_, hfr⟩ := hfr)
    obtain ⟨L, hI, htx, hk, hwh, hfi, ⟨A', c', eF, hkc⟩, ⟨DA', dc', eD, hkd⟩⟩ := HJ.out
    injection eF with e1 e2 e3
    injection eD with e4 e5 e6
    subst e1 e3 e4 e6
    clear e2 e5
    have HI := Lib.hid hI
    have HTX := Lib.hid htx
    have HWH := Lib.hid hwh
    have hLk : L.length = k := by
      have := congrArg List.length htx
      rw [length_texts, List.length_map, List.length_take] at this
      omega
    have HLK := Lib.hid hLk
    have hsm := Lib.hid (lens_small htx (by have := HN.out; omega) (fun t ht => (H0.out t ht).2.1))
    have HNX := Lib.hid (fun (wl wc : Nat) (W0 : Option Addr) (fi' : Int) (W : World) (hW : CutI B p last R w p9 fi' (.slice A k c) (.slice DA k dc) L ((ts.take k).map Txt.id) (ts.drop k) W) => cutnext_any (A := A) (W := W0) (L := L) wl wc k c room x W hLk (by have := HN.out; omega) hr0 hr1 hW.rows.src hsm.out)
    rw [lens_whole htx] at HNX
    clear hI htx hwh hLk HJ
    rcases Nat.lt_or_ge k ts.length with hlt | hge
    · obtain ⟨t, ht⟩ : ∃ t, ts[k]? = some t := ⟨_, List.getElem?_eq_getElem hlt⟩
      have hd : ts.drop k = t :: ts.drop (k + 1) := by
        rw [List.drop_eq_getElem_cons hlt]
        obtain ⟨_, e⟩ := List.getElem?_eq_some_iff.1 ht
        rw [e]
      have hmem := List.mem_of_getElem? ht
      obtain ⟨ht0, ht1, ht2⟩ := H0.out t hmem
      have hdl : (ts.drop (k + 1)).length ≤ 900 := by rw [List.length_drop]; have := HN.out; omega
      have hq := HI.out.q
      rw [hd] at hq
      have HFR := Lib.hid (front_ok hq hr ht0 (by omega))
      have hbg1 : t.bg = true → k = 0 := fun h => by
        rcases Nat.eq_zero_or_pos k with h1 | h1
        · exact h1
        · have h2 : t ∈ ts.drop 1 := by
            refine List.mem_of_getElem? (i := k - 1) ?_
            rw [List.getElem?_drop, show 1 + (k - 1) = k by omega]
            exact ht
          rw [HBG.out t h2] at h
          cases h
      have hbg2 : k = 0 → headBg ts = t.bg := fun h => by
        subst h
        cases ts with
        | nil => simp at ht
        | cons a r => simp at ht; subst ht; rfl
      have HT := Lib.hid ht
      have HD := Lib.hid hd
      have HDL := Lib.hid hdl
      have HT2 := Lib.hid ht2
      -- the world behind Front, and behind the mark of a text that was begun
      obtain ⟨n, hnn⟩ : ∃ n, nextF t.bs.length ((lenT ts).take k) room x = n := ⟨_, rfl⟩
      have hge : (lenT ts).getD k 0 = t.bs.length := by rw [List.getD_eq_getElem?_getD, lenT_at ht]; rfl
      have hle : n ≤ t.bs.length := by
        rw [← hnn]
        unfold nextF
        split <;> omega
      have HNN := Lib.hid hnn
      have HNX2 := Lib.hid (fun (wc : Nat) (W0 : Option Addr) (fi2 : Int) (W : World) hW => HNX.out t.bs.length wc W0 fi2 W hW)
      rw [hnn] at HNX2
      have HBL := Lib.hid (show (n ≤ 0 ∨ n < t.bs.length) → Bld room x (lenT ts) k n from fun h => ⟨by rw [length_lenT]; omega, HWH.out, by rw [hge, hnn], by
        rw [hge, length_lenT]
        rcases h with h | h
        · exact .inl h
        · exact .inr ⟨hlt, h⟩⟩)
      have hbgs : (t.bg = true ∧ k = 0 ∧ headBg ts = true ∧ fi = 0) ∨ (t.bg = false ∧ fi = (if headBg ts then 2 else 0)) := by
        cases hb : t.bg
        · refine .inr ⟨rfl, ?_⟩
          rw [hfi]
          split
          · rename_i h
            rw [hbg2 h, hb]
            rfl
          · rfl
        · have h1 := hbg1 hb
          refine .inl ⟨rfl, h1, ?_, ?_⟩
          · rw [hbg2 h1, hb]
          · rw [hfi, if_pos h1]
      have HTK1 := Lib.hid (fun (W : World) (hq : QRep B W p R last (ts.drop k)) => take_whole (t := t) (r := ts.drop (k + 1)) (by rw [HD.out] at hq; exact hq) hr ht0 (by omega) HDL.out)
      have HTK2 := Lib.hid (fun (nn : Nat) (W : World) (hq : QRep B W p R last (ts.drop k)) (h1 : 1 ≤ nn) (h2 : nn < t.bs.length) => take_some (t := t) (r := ts.drop (k + 1)) nn (by rw [HD.out] at hq; exact hq) hr h1 h2 (by omega) HDL.out)
      have HIDL := Lib.hid (show ((ts.take k).map Txt.id).length = k by rw [List.length_map, List.length_take]; omega)
      have HTS := Lib.hid (show ts.take (k + 1) = ts.take k ++ [t] by rw [List.take_add_one, ht]; rfl)
      have p0 := HI.out.prow.read (i := 0) (x := .int .i64 _) rfl
      have p0f := HI.out.prow.free 0
      have p1 := HI.out.prow.read (i := 1) (x := .slice A k c) rfl
      have p2 := HI.out.prow.read (i := 2) (x := .slice DA k dc) rfl
      clear hfi hbg1 hbg2 ht hd hdl ht2 hq hnn hge
      unfold FrontDone at HFR
      rcases hbgs with ⟨hb1, hk9, hh, rfl⟩ | ⟨hb1, hfi⟩
      · rw [hb1] at HFR
        have HH := Lib.hid hh
        have HK9 := Lib.hid hk9
        clear hb1 hk9 hh
        rcases Int.lt_or_le 0 n with hn0 | hn0
        · rcases Int.lt_or_eq_of_le hle with hnb | hnb
          · obtain ⟨nn, rfl⟩ : ∃ nn : Nat, n = nn := ⟨n.toNat, by omega⟩
            have hn1 : 1 ≤ nn := by omega
            have hn2 : nn < t.bs.length := by omega
            have hor : bits BinOp.or IntKind.i64 2 1 = 3 := by decide
            have HTN := Lib.hid (show (t.bs.take nn).length = nn by rw [List.length_take]; omega)
            go_wp2_with (first
              | (go_at_call 150; (with_reducible refine HFR.out.mono ?_); rintro e w1 ⟨g1, rfl, hg1, hby, hbl⟩; (have HI2 := Lib.hid (HI.out.later hbl)); (have q0 := HI2.out.prow.read (i := 0) (x := .int .i64 0) rfl); (have q0f := HI2.out.prow.free 0); (have q1 := HI2.out.prow.read (i := 1) (x := .slice A k c) rfl); (have HI3 := Lib.hid (HI2.out.setfi 2)); clear hbl hby hg1)
              | (go_at_call 151; clear q0 q0f q1; generalize w1.setCell ⟨p9, 0, none⟩ (.int .i64 2) = w2 at HI3 ⊢; (have q0 := HI3.out.prow.read (i := 0) (x := .int .i64 2) rfl); (have q0f := HI3.out.prow.free 0); (have q1 := HI3.out.prow.read (i := 1) (x := .slice A k c) rfl); (have q2 := HI3.out.prow.read (i := 2) (x := .slice DA k dc) rfl); (with_reducible refine (HNX2.out _ _ _ _ HI3.out).mono ?_); rintro e w3 ⟨rfl, rfl⟩)
              | (go_at_call 152; (with_reducible refine (HTK2.out nn _ HI3.out.q hn1 hn2).mono ?_); rintro e w4 ⟨g4, rfl, hg4, hby4, hq4, t4, u1, u2, u3, hq5⟩; (have HI4 := Lib.hid (HI3.out.step hq4 hq5)); obtain ⟨A5, c5, w5, hrun5, hr5, hi5⟩ := HI4.out.addRow ⟨some ⟨g4, 0, none⟩, nn, t.bs.take nn⟩ (by rw [HLK.out]; omega) ⟨g4, rfl, Nat.le_trans HI3.out.only.size hg4, hby4, HTN.out.symm, by show 0 < (t.bs.take nn).length; rw [HTN.out]; omega, by show (t.bs.take nn).length ≤ 100000; rw [HTN.out]; omega, fun b hb => HT2.out b (List.mem_of_mem_take hb)⟩; unfold RowB.v at hrun5; simp only [HTN.out] at hrun5; rw [HLK.out] at hrun5 hi5; (have HI5 := Lib.hid hi5); (have z0 := hr5.read (i := 0) (x := .int .i64 2) rfl); (have z0f := hr5.free 0); (have z1 := hr5.read (i := 1) (x := .slice A k c) rfl); (have z1f := hr5.free 1); (have z2 := hr5.read (i := 2) (x := .slice DA k dc) rfl); (have x1 := HI4.out.prow.read (i := 1) (x := .slice A k c) rfl); (have HI7 := Lib.hid (HI5.out.setfi 3)); (have HU := Lib.hid (And.intro u1 (And.intro u2 u3))); clear hg4 hby4 hq4 hq5 hi5 hr5 u1 u2 u3)
              | (at_builtin; refine wpList_run rfl (.tmp 50) (.tmp 52) 48 rfl (.slice A k c) (.slice (some ⟨w4.heap.size, 0, none⟩) 1 1) (by rfl) (by rfl) hrun5 ?_))
            have hc1 := fun W => cclipr_any (A := A5) (k + 1) c5 W HI7.out.rows.cap_le.2
            have hc2 := fun W => cclipu_any (A := DA) k dc W hkd
            have CL := Lib.hid (HI7.out.close)
            have f1 := HI7.out.prow.free 1
            have f2 := HI7.out.prow.free 2
            have c1 := HI7.out.prow.read (i := 1) (x := .slice A5 (k + 1) c5) rfl
            have c2 := HI7.out.prow.read (i := 2) (x := .slice DA k dc) rfl
            generalize (w5.setCell ⟨p9, 1, none⟩ (.slice A5 (k + 1) c5)).setCell ⟨p9, 0, none⟩ (.int .i64 3) = W8 at CL f1 f2 c1 c2 ⊢
            go_region_law (first
              | (go_simp; go_at_call 153; refine (hc1 _).mono ?_; rintro e w5 ⟨rfl, rfl⟩; go_simp)
              | (go_simp; go_at_call 154; refine (hc2 _).mono ?_; rintro e w6 ⟨rfl, rfl⟩; go_simp))
            all_goals
              obtain ⟨r9, s9, k9⟩ := CL.out
              have S9 := Lib.hid s9
              have K9 := Lib.hid k9
              generalize ((W8.setCell ⟨p9, 1, none⟩ (.slice A5 (k + 1) (k + 1))).setCell ⟨p9, 2, none⟩ (.slice DA k k)).drew = W9 at r9 s9 S9 K9 ⊢
              have e0 := r9.read (i := 0) (x := .int .i64 3) rfl
              have e1 := r9.read (i := 1) (x := .slice A5 (k + 1) (k + 1)) rfl
              have e2 := r9.read (i := 2) (x := .slice DA k k) rfl
              have g0 := s9.free 0
              have g1 := s9.free 1
              have g2 := s9.free 2
              have d0 := s9.read (i := 0) (x := .int .i64 0) rfl
              have d1 := s9.read (i := 1) (x := .slice none 0 0) rfl
              have d2 := s9.read (i := 2) (x := .slice none 0 0) rfl
              clear r9 s9 k9 CL hc1 hc2
              go_wp2
              simp only [Exit.jump]
              obtain ⟨d24, hu24⟩ := underpc_parts
              refine bodyPost_ret (results_two rfl _ _ w.heap.size 141 #[.int .i64 3, .slice A5 (k + 1) (k + 1), .slice DA k k] d24 rfl (((S9.out.written 0 (.int .i64 3)).written 1 (.slice A5 (k + 1) (k + 1))).written 2 (.slice DA k k)) hu24 Try.infopcs) rfl ?_
              have hE := K9.out (((W9.setCell ⟨w.heap.size, 0, none⟩ (.int .i64 3)).setCell ⟨w.heap.size, 1, none⟩ (.slice A5 (k + 1) (k + 1))).setCell ⟨w.heap.size, 2, none⟩ (.slice DA k k)) ((((Only.refl (fun k => k = w.heap.size) W9).set (p := ⟨w.heap.size, 0, none⟩) (.inl rfl) _).set (p := ⟨w.heap.size, 1, none⟩) (.inl rfl) _).set (p := ⟨w.heap.size, 2, none⟩) (.inl rfl) _)
              refine cutdone_ok (HBL.out (.inr (by omega))) (.inr ⟨by omega, t, t4, HT.out, HU.out.1, HU.out.2.1, HU.out.2.2, rfl⟩) (.inr (by omega)) (by rw [fiT_pos HH.out (show (0 : Int) < nn by omega)]; rfl) (by rw [List.length_append, HLK.out]; rfl) ?_ hE
              unfold fieldsT
              rw [if_neg (by omega), ← List.map_take, ← HTX.out, List.getD_eq_getElem?_getD, List.getElem?_map, HT.out]
              simp [texts]
          · subst hnb
            go_wp2_with (first
              | (go_at_call 150; (with_reducible refine HFR.out.mono ?_); rintro e w1 ⟨g1, rfl, hg1, hby, hbl⟩; (have HI2 := Lib.hid (HI.out.later hbl)); (have q0 := HI2.out.prow.read (i := 0) (x := .int .i64 0) rfl); (have q0f := HI2.out.prow.free 0); (have q1 := HI2.out.prow.read (i := 1) (x := .slice A k c) rfl); (have HI3 := Lib.hid (HI2.out.setfi 2)); clear hbl hby hg1)
              | (go_at_call 151; clear q0 q0f q1; generalize w1.setCell ⟨p9, 0, none⟩ (.int .i64 2) = w2 at HI3 ⊢; (have q0 := HI3.out.prow.read (i := 0) (x := .int .i64 2) rfl); (have q0f := HI3.out.prow.free 0); (have q1 := HI3.out.prow.read (i := 1) (x := .slice A k c) rfl); (have q2 := HI3.out.prow.read (i := 2) (x := .slice DA k dc) rfl); (with_reducible refine (HNX2.out _ _ _ _ HI3.out).mono ?_); rintro e w3 ⟨rfl, rfl⟩)
              | (go_at_call 152; (with_reducible refine (HTK1.out _ HI3.out.q).mono ?_); rintro e w4 ⟨g4, rfl, hg4, hby4, hq4, hq5⟩; (have HI4 := Lib.hid (HI3.out.step hq4 hq5)); obtain ⟨A5, c5, w5, hrun5, hr5, hi5⟩ := HI4.out.addRow ⟨some ⟨g4, 0, none⟩, t.bs.length, t.bs⟩ (by rw [HLK.out]; omega) ⟨g4, rfl, Nat.le_trans HI3.out.only.size hg4, hby4, rfl, ht0, by show t.bs.length ≤ 100000; omega, HT2.out⟩; rw [HLK.out] at hrun5 hi5; (have HI5 := Lib.hid hi5); (have z0 := hr5.read (i := 0) (x := .int .i64 2) rfl); (have z1 := hr5.read (i := 1) (x := .slice A k c) rfl); (have z1f := hr5.free 1); (have z2 := hr5.read (i := 2) (x := .slice DA k dc) rfl); (have x1 := HI4.out.prow.read (i := 1) (x := .slice A k c) rfl); obtain ⟨A6, c6, w6, hrun6, hr6, hi6⟩ := HI5.out.addId t.id (by rw [HIDL.out]; omega); rw [HIDL.out] at hrun6 hi6; rw [show (w5.setCell ⟨p9, 1, none⟩ (Value.slice A5 (k + 1) c5)).heap.size = w5.heap.size by simp] at hrun6; (have HI6 := Lib.hid hi6); (have y2 := hr6.read (i := 2) (x := .slice DA k dc) rfl); (have y2f := hr6.free 2); clear hg4 hby4 hq4 hq5 hi5 hr5 hi6 hr6)
              | (at_builtin; refine wpList_run rfl (.tmp 50) (.tmp 52) 48 rfl (.slice A k c) (.slice (some ⟨w4.heap.size, 0, none⟩) 1 1) (by rfl) (by rfl) hrun5 ?_)
              | (at_builtin; refine wpList_run rfl (.tmp 57) (.tmp 59) 39 rfl (.slice DA k dc) (.slice (some ⟨w5.heap.size, 0, none⟩) 1 1) (by rfl) (by rfl) hrun6 ?_))
            have HC5 := Lib.hid HI6.out.rows.cap_le.2
            have HC6 := Lib.hid HI6.out.ids.cap_le.2
            go_step3
            refine ⟨rfl, ⟨k + 1, 2, A5, c5, A6, c6, p9, ?_, Lib.hid ⟨_, by rw [HTS.out, List.map_append]; exact HI6.out, ?_, by omega, ?_, by rw [if_neg (by omega), HH.out]; rfl, ⟨A5, c5, rfl, HC5.out⟩, A6, c6, rfl, HC6.out⟩⟩, ?_⟩
            · simp only [Fr, Holes]
              repeat apply Exists.intro
              rfl
            · rw [HTS.out, List.map_append, ← HTX.out]
              simp [texts]
            · intro i l hi hl
              rcases Nat.lt_or_ge i k with h9 | h9
              · exact HWH.out i l h9 hl
              · obtain rfl : i = k := by omega
                rw [lenT_at HT.out] at hl
                injection hl with hl
                rw [← hl]
                exact HNN.out
            · have hm1 := HI6.out.prow.read (i := 1) (x := .slice A5 (k + 1) c5) rfl
              show 1000 - sliceLen ((World.cell? _ ⟨p9, 1, none⟩).getD undef) < 1000 - sliceLen ((World.cell? _ ⟨p9, 1, none⟩).getD undef)
              rw [hm1, p1]
              show 1000 - (k + 1) < 1000 - k
              have := HN.out
              omega

        · rcases Nat.eq_zero_or_pos k with hk0 | hk0
          · subst hk0
            go_wp2_with (first
              | (go_at_call 150; (with_reducible refine HFR.out.mono ?_); rintro e w1 ⟨g1, rfl, hg1, hby, hbl⟩; (have HI2 := Lib.hid (HI.out.later hbl)); (have q0 := HI2.out.prow.read (i := 0) (x := .int .i64 0) rfl); (have q0f := HI2.out.prow.free 0); (have q1 := HI2.out.prow.read (i := 1) (x := .slice A 0 c) rfl); (have HI3 := Lib.hid (HI2.out.setfi 2)); clear hbl hby hg1)
              | (go_at_call 151; clear q0 q0f q1; generalize w1.setCell ⟨p9, 0, none⟩ (.int .i64 2) = w2 at HI3 ⊢; (have q0 := HI3.out.prow.read (i := 0) (x := .int .i64 2) rfl); (have q0f := HI3.out.prow.free 0); (have q1 := HI3.out.prow.read (i := 1) (x := .slice A 0 c) rfl); (have q2 := HI3.out.prow.read (i := 2) (x := .slice DA 0 dc) rfl); (have s9 := HI3.out.res); (have g0 := s9.free 0); (have g1f := s9.free 1); (have g2 := s9.free 2); (have d0 := s9.read (i := 0) (x := .int .i64 0) rfl); (have d1 := s9.read (i := 1) (x := .slice none 0 0) rfl); (have d2 := s9.read (i := 2) (x := .slice none 0 0) rfl); (have S9 := Lib.hid s9); clear s9; (with_reducible refine (HNX2.out _ _ _ _ HI3.out).mono ?_); rintro e w3 ⟨rfl, rfl⟩))
            simp only [Exit.jump]
            obtain ⟨d24, hu24⟩ := underpc_parts
            refine bodyPost_ret (results_two rfl _ _ w.heap.size 141 #[.int .i64 0, .slice none 0 0, .slice none 0 0] d24 rfl (((S9.out.written 0 (.int .i64 0)).written 1 (.slice none 0 0)).written 2 (.slice none 0 0)) hu24 Try.infopcs) rfl ?_
            exact cutdone_none (HBL.out (.inl hn0)) hn0 HI3.out _ _ _

          · exact absurd HK9.out (by omega)

      · have hfi2 : (headBg ts = false ∧ fi = 0) ∨ (headBg ts = true ∧ fi = 2) := by
          cases hh : headBg ts
          · rw [hh] at hfi
            exact .inl ⟨rfl, hfi⟩
          · rw [hh] at hfi
            exact .inr ⟨rfl, hfi⟩
        rw [hb1] at HFR
        clear hb1 hfi
        rcases hfi2 with ⟨hh, rfl⟩ | ⟨hh, rfl⟩
        · have HH := Lib.hid hh
          clear hh
          rcases Int.lt_or_le 0 n with hn0 | hn0
          · rcases Int.lt_or_eq_of_le hle with hnb | hnb
            · obtain ⟨nn, rfl⟩ : ∃ nn : Nat, n = nn := ⟨n.toNat, by omega⟩
              have hn1 : 1 ≤ nn := by omega
              have hn2 : nn < t.bs.length := by omega
              have hor : bits BinOp.or IntKind.i64 0 1 = 1 := by decide
              have HTN := Lib.hid (show (t.bs.take nn).length = nn by rw [List.length_take]; omega)
              go_wp2_with (first
                | (go_at_call 150; (with_reducible refine HFR.out.mono ?_); rintro e w1 ⟨g1, rfl, hg1, hby, hbl⟩; (have HI3 := Lib.hid (HI.out.later hbl)); (have q1 := HI3.out.prow.read (i := 1) (x := .slice A k c) rfl); clear hbl hby hg1)
                | (go_at_call 151; clear q1; (have q0 := HI3.out.prow.read (i := 0) (x := .int .i64 0) rfl); (have q0f := HI3.out.prow.free 0); (have q1 := HI3.out.prow.read (i := 1) (x := .slice A k c) rfl); (have q2 := HI3.out.prow.read (i := 2) (x := .slice DA k dc) rfl); (with_reducible refine (HNX2.out _ _ _ _ HI3.out).mono ?_); rintro e w3 ⟨rfl, rfl⟩)
                | (go_at_call 152; (with_reducible refine (HTK2.out nn _ HI3.out.q hn1 hn2).mono ?_); rintro e w4 ⟨g4, rfl, hg4, hby4, hq4, t4, u1, u2, u3, hq5⟩; (have HI4 := Lib.hid (HI3.out.step hq4 hq5)); obtain ⟨A5, c5, w5, hrun5, hr5, hi5⟩ := HI4.out.addRow ⟨some ⟨g4, 0, none⟩, nn, t.bs.take nn⟩ (by rw [HLK.out]; omega) ⟨g4, rfl, Nat.le_trans HI3.out.only.size hg4, hby4, HTN.out.symm, by show 0 < (t.bs.take nn).length; rw [HTN.out]; omega, by show (t.bs.take nn).length ≤ 100000; rw [HTN.out]; omega, fun b hb => HT2.out b (List.mem_of_mem_take hb)⟩; unfold RowB.v at hrun5; simp only [HTN.out] at hrun5; rw [HLK.out] at hrun5 hi5; (have HI5 := Lib.hid hi5); (have z0 := hr5.read (i := 0) (x := .int .i64 0) rfl); (have z0f := hr5.free 0); (have z1 := hr5.read (i := 1) (x := .slice A k c) rfl); (have z1f := hr5.free 1); (have z2 := hr5.read (i := 2) (x := .slice DA k dc) rfl); (have x1 := HI4.out.prow.read (i := 1) (x := .slice A k c) rfl); (have HI7 := Lib.hid (HI5.out.setfi 1)); (have HU := Lib.hid (And.intro u1 (And.intro u2 u3))); clear hg4 hby4 hq4 hq5 hi5 hr5 u1 u2 u3)
                | (at_builtin; refine wpList_run rfl (.tmp 50) (.tmp 52) 48 rfl (.slice A k c) (.slice (some ⟨w4.heap.size, 0, none⟩) 1 1) (by rfl) (by rfl) hrun5 ?_))
              have hc1 := fun W => cclipr_any (A := A5) (k + 1) c5 W HI7.out.rows.cap_le.2
              have hc2 := fun W => cclipu_any (A := DA) k dc W hkd
              have CL := Lib.hid (HI7.out.close)
              have f1 := HI7.out.prow.free 1
              have f2 := HI7.out.prow.free 2
              have c1 := HI7.out.prow.read (i := 1) (x := .slice A5 (k + 1) c5) rfl
              have c2 := HI7.out.prow.read (i := 2) (x := .slice DA k dc) rfl
              generalize (w5.setCell ⟨p9, 1, none⟩ (.slice A5 (k + 1) c5)).setCell ⟨p9, 0, none⟩ (.int .i64 1) = W8 at CL f1 f2 c1 c2 ⊢
              go_region_law (first
                | (go_simp; go_at_call 153; refine (hc1 _).mono ?_; rintro e w5 ⟨rfl, rfl⟩; go_simp)
                | (go_simp; go_at_call 154; refine (hc2 _).mono ?_; rintro e w6 ⟨rfl, rfl⟩; go_simp))
              all_goals
                obtain ⟨r9, s9, k9⟩ := CL.out
                have S9 := Lib.hid s9
                have K9 := Lib.hid k9
                generalize ((W8.setCell ⟨p9, 1, none⟩ (.slice A5 (k + 1) (k + 1))).setCell ⟨p9, 2, none⟩ (.slice DA k k)).drew = W9 at r9 s9 S9 K9 ⊢
                have e0 := r9.read (i := 0) (x := .int .i64 1) rfl
                have e1 := r9.read (i := 1) (x := .slice A5 (k + 1) (k + 1)) rfl
                have e2 := r9.read (i := 2) (x := .slice DA k k) rfl
                have g0 := s9.free 0
                have g1 := s9.free 1
                have g2 := s9.free 2
                have d0 := s9.read (i := 0) (x := .int .i64 0) rfl
                have d1 := s9.read (i := 1) (x := .slice none 0 0) rfl
                have d2 := s9.read (i := 2) (x := .slice none 0 0) rfl
                clear r9 s9 k9 CL hc1 hc2
                go_wp2
                simp only [Exit.jump]
                obtain ⟨d24, hu24⟩ := underpc_parts
                refine bodyPost_ret (results_two rfl _ _ w.heap.size 141 #[.int .i64 1, .slice A5 (k + 1) (k + 1), .slice DA k k] d24 rfl (((S9.out.written 0 (.int .i64 1)).written 1 (.slice A5 (k + 1) (k + 1))).written 2 (.slice DA k k)) hu24 Try.infopcs) rfl ?_
                have hE := K9.out (((W9.setCell ⟨w.heap.size, 0, none⟩ (.int .i64 1)).setCell ⟨w.heap.size, 1, none⟩ (.slice A5 (k + 1) (k + 1))).setCell ⟨w.heap.size, 2, none⟩ (.slice DA k k)) ((((Only.refl (fun k => k = w.heap.size) W9).set (p := ⟨w.heap.size, 0, none⟩) (.inl rfl) _).set (p := ⟨w.heap.size, 1, none⟩) (.inl rfl) _).set (p := ⟨w.heap.size, 2, none⟩) (.inl rfl) _)
                refine cutdone_ok (HBL.out (.inr (by omega))) (.inr ⟨by omega, t, t4, HT.out, HU.out.1, HU.out.2.1, HU.out.2.2, rfl⟩) (.inr (by omega)) (by rw [fiT_pos HH.out (show (0 : Int) < nn by omega)]; rfl) (by rw [List.length_append, HLK.out]; rfl) ?_ hE
                unfold fieldsT
                rw [if_neg (by omega), ← List.map_take, ← HTX.out, List.getD_eq_getElem?_getD, List.getElem?_map, HT.out]
                simp [texts]
            · subst hnb
              go_wp2_with (first
                | (go_at_call 150; (with_reducible refine HFR.out.mono ?_); rintro e w1 ⟨g1, rfl, hg1, hby, hbl⟩; (have HI3 := Lib.hid (HI.out.later hbl)); (have q1 := HI3.out.prow.read (i := 1) (x := .slice A k c) rfl); clear hbl hby hg1)
                | (go_at_call 151; clear q1; (have q0 := HI3.out.prow.read (i := 0) (x := .int .i64 0) rfl); (have q0f := HI3.out.prow.free 0); (have q1 := HI3.out.prow.read (i := 1) (x := .slice A k c) rfl); (have q2 := HI3.out.prow.read (i := 2) (x := .slice DA k dc) rfl); (with_reducible refine (HNX2.out _ _ _ _ HI3.out).mono ?_); rintro e w3 ⟨rfl, rfl⟩)
                | (go_at_call 152; (with_reducible refine (HTK1.out _ HI3.out.q).mono ?_); rintro e w4 ⟨g4, rfl, hg4, hby4, hq4, hq5⟩; (have HI4 := Lib.hid (HI3.out.step hq4 hq5)); obtain ⟨A5, c5, w5, hrun5, hr5, hi5⟩ := HI4.out.addRow ⟨some ⟨g4, 0, none⟩, t.bs.length, t.bs⟩ (by rw [HLK.out]; omega) ⟨g4, rfl, Nat.le_trans HI3.out.only.size hg4, hby4, rfl, ht0, by show t.bs.length ≤ 100000; omega, HT2.out⟩; rw [HLK.out] at hrun5 hi5; (have HI5 := Lib.hid hi5); (have z0 := hr5.read (i := 0) (x := .int .i64 0) rfl); (have z1 := hr5.read (i := 1) (x := .slice A k c) rfl); (have z1f := hr5.free 1); (have z2 := hr5.read (i := 2) (x := .slice DA k dc) rfl); (have x1 := HI4.out.prow.read (i := 1) (x := .slice A k c) rfl); obtain ⟨A6, c6, w6, hrun6, hr6, hi6⟩ := HI5.out.addId t.id (by rw [HIDL.out]; omega); rw [HIDL.out] at hrun6 hi6; rw [show (w5.setCell ⟨p9, 1, none⟩ (Value.slice A5 (k + 1) c5)).heap.size = w5.heap.size by simp] at hrun6; (have HI6 := Lib.hid hi6); (have y2 := hr6.read (i := 2) (x := .slice DA k dc) rfl); (have y2f := hr6.free 2); clear hg4 hby4 hq4 hq5 hi5 hr5 hi6 hr6)
                | (at_builtin; refine wpList_run rfl (.tmp 50) (.tmp 52) 48 rfl (.slice A k c) (.slice (some ⟨w4.heap.size, 0, none⟩) 1 1) (by rfl) (by rfl) hrun5 ?_)
                | (at_builtin; refine wpList_run rfl (.tmp 57) (.tmp 59) 39 rfl (.slice DA k dc) (.slice (some ⟨w5.heap.size, 0, none⟩) 1 1) (by rfl) (by rfl) hrun6 ?_))
              have HC5 := Lib.hid HI6.out.rows.cap_le.2
              have HC6 := Lib.hid HI6.out.ids.cap_le.2
              go_step3
              refine ⟨rfl, ⟨k + 1, 0, A5, c5, A6, c6, p9, ?_, Lib.hid ⟨_, by rw [HTS.out, List.map_append]; exact HI6.out, ?_, by omega, ?_, by rw [if_neg (by omega), HH.out]; rfl, ⟨A5, c5, rfl, HC5.out⟩, A6, c6, rfl, HC6.out⟩⟩, ?_⟩
              · simp only [Fr, Holes]
                repeat apply Exists.intro
                rfl
              · rw [HTS.out, List.map_append, ← HTX.out]
                simp [texts]
              · intro i l hi hl
                rcases Nat.lt_or_ge i k with h9 | h9
                · exact HWH.out i l h9 hl
                · obtain rfl : i = k := by omega
                  rw [lenT_at HT.out] at hl
                  injection hl with hl
                  rw [← hl]
                  exact HNN.out
              · have hm1 := HI6.out.prow.read (i := 1) (x := .slice A5 (k + 1) c5) rfl
                show 1000 - sliceLen ((World.cell? _ ⟨p9, 1, none⟩).getD undef) < 1000 - sliceLen ((World.cell? _ ⟨p9, 1, none⟩).getD undef)
                rw [hm1, p1]
                show 1000 - (k + 1) < 1000 - k
                have := HN.out
                omega

          · rcases Nat.eq_zero_or_pos k with hk0 | hk0
            · subst hk0
              go_wp2_with (first
                | (go_at_call 150; (with_reducible refine HFR.out.mono ?_); rintro e w1 ⟨g1, rfl, hg1, hby, hbl⟩; (have HI3 := Lib.hid (HI.out.later hbl)); (have q1 := HI3.out.prow.read (i := 1) (x := .slice A 0 c) rfl); clear hbl hby hg1)
                | (go_at_call 151; clear q1; (have q0 := HI3.out.prow.read (i := 0) (x := .int .i64 0) rfl); (have q0f := HI3.out.prow.free 0); (have q1 := HI3.out.prow.read (i := 1) (x := .slice A 0 c) rfl); (have q2 := HI3.out.prow.read (i := 2) (x := .slice DA 0 dc) rfl); (have s9 := HI3.out.res); (have g0 := s9.free 0); (have g1f := s9.free 1); (have g2 := s9.free 2); (have d0 := s9.read (i := 0) (x := .int .i64 0) rfl); (have d1 := s9.read (i := 1) (x := .slice none 0 0) rfl); (have d2 := s9.read (i := 2) (x := .slice none 0 0) rfl); (have S9 := Lib.hid s9); clear s9; (with_reducible refine (HNX2.out _ _ _ _ HI3.out).mono ?_); rintro e w3 ⟨rfl, rfl⟩))
              simp only [Exit.jump]
              obtain ⟨d24, hu24⟩ := underpc_parts
              refine bodyPost_ret (results_two rfl _ _ w.heap.size 141 #[.int .i64 0, .slice none 0 0, .slice none 0 0] d24 rfl (((S9.out.written 0 (.int .i64 0)).written 1 (.slice none 0 0)).written 2 (.slice none 0 0)) hu24 Try.infopcs) rfl ?_
              exact cutdone_none (HBL.out (.inl hn0)) hn0 HI3.out _ _ _

            · have hk1 : ((k : Int) == 0) = false := by simp; omega
              go_wp2_with (first
                | (go_at_call 150; (with_reducible refine HFR.out.mono ?_); rintro e w1 ⟨g1, rfl, hg1, hby, hbl⟩; (have HI3 := Lib.hid (HI.out.later hbl)); (have q1 := HI3.out.prow.read (i := 1) (x := .slice A k c) rfl); clear hbl hby hg1)
                | (go_at_call 151; clear q1; (have q0 := HI3.out.prow.read (i := 0) (x := .int .i64 0) rfl); (have q0f := HI3.out.prow.free 0); (have q1 := HI3.out.prow.read (i := 1) (x := .slice A k c) rfl); (have q2 := HI3.out.prow.read (i := 2) (x := .slice DA k dc) rfl); (with_reducible refine (HNX2.out _ _ _ _ HI3.out).mono ?_); rintro e w3 ⟨rfl, rfl⟩))
              have hc1 := fun W => cclipr_any (A := A) (k) c W hkc
              have hc2 := fun W => cclipu_any (A := DA) k dc W hkd
              have CL := Lib.hid (HI3.out.close)
              have f1 := HI3.out.prow.free 1
              have f2 := HI3.out.prow.free 2
              have c1 := HI3.out.prow.read (i := 1) (x := .slice A (k) c) rfl
              have c2 := HI3.out.prow.read (i := 2) (x := .slice DA k dc) rfl
              generalize w1 = W8 at CL f1 f2 c1 c2 ⊢
              go_region_law (first
                | (go_simp; go_at_call 153; refine (hc1 _).mono ?_; rintro e w5 ⟨rfl, rfl⟩; go_simp)
                | (go_simp; go_at_call 154; refine (hc2 _).mono ?_; rintro e w6 ⟨rfl, rfl⟩; go_simp))
              all_goals
                obtain ⟨r9, s9, k9⟩ := CL.out
                have S9 := Lib.hid s9
                have K9 := Lib.hid k9
                generalize ((W8.setCell ⟨p9, 1, none⟩ (.slice A (k) (k))).setCell ⟨p9, 2, none⟩ (.slice DA k k)).drew = W9 at r9 s9 S9 K9 ⊢
                have e0 := r9.read (i := 0) (x := .int .i64 0) rfl
                have e1 := r9.read (i := 1) (x := .slice A (k) (k)) rfl
                have e2 := r9.read (i := 2) (x := .slice DA k k) rfl
                have g0 := s9.free 0
                have g1 := s9.free 1
                have g2 := s9.free 2
                have d0 := s9.read (i := 0) (x := .int .i64 0) rfl
                have d1 := s9.read (i := 1) (x := .slice none 0 0) rfl
                have d2 := s9.read (i := 2) (x := .slice none 0 0) rfl
                clear r9 s9 k9 CL hc1 hc2
                go_wp2
                simp only [Exit.jump]
                obtain ⟨d24, hu24⟩ := underpc_parts
                refine bodyPost_ret (results_two rfl _ _ w.heap.size 141 #[.int .i64 0, .slice A (k) (k), .slice DA k k] d24 rfl (((S9.out.written 0 (.int .i64 0)).written 1 (.slice A (k) (k))).written 2 (.slice DA k k)) hu24 Try.infopcs) rfl ?_
                have hE := K9.out (((W9.setCell ⟨w.heap.size, 0, none⟩ (.int .i64 0)).setCell ⟨w.heap.size, 1, none⟩ (.slice A (k) (k))).setCell ⟨w.heap.size, 2, none⟩ (.slice DA k k)) ((((Only.refl (fun k => k = w.heap.size) W9).set (p := ⟨w.heap.size, 0, none⟩) (.inl rfl) _).set (p := ⟨w.heap.size, 1, none⟩) (.inl rfl) _).set (p := ⟨w.heap.size, 2, none⟩) (.inl rfl) _)
                exact cutdone_ok (HBL.out (.inl hn0)) (.inl ⟨hn0, rfl⟩) (.inl hk0) (by unfold fiT; rw [HH.out, if_pos hn0]; rfl) HLK.out (by unfold fieldsT; rw [if_pos hn0, List.append_nil, HTX.out, List.map_take]) hE
        · have HH := Lib.hid hh
          clear hh
          rcases Int.lt_or_le 0 n with hn0 | hn0
          · rcases Int.lt_or_eq_of_le hle with hnb | hnb
            · obtain ⟨nn, rfl⟩ : ∃ nn : Nat, n = nn := ⟨n.toNat, by omega⟩
              have hn1 : 1 ≤ nn := by omega
              have hn2 : nn < t.bs.length := by omega
              have hor : bits BinOp.or IntKind.i64 2 1 = 3 := by decide
              have HTN := Lib.hid (show (t.bs.take nn).length = nn by rw [List.length_take]; omega)
              go_wp2_with (first
                | (go_at_call 150; (with_reducible refine HFR.out.mono ?_); rintro e w1 ⟨g1, rfl, hg1, hby, hbl⟩; (have HI3 := Lib.hid (HI.out.later hbl)); (have q1 := HI3.out.prow.read (i := 1) (x := .slice A k c) rfl); clear hbl hby hg1)
                | (go_at_call 151; clear q1; (have q0 := HI3.out.prow.read (i := 0) (x := .int .i64 2) rfl); (have q0f := HI3.out.prow.free 0); (have q1 := HI3.out.prow.read (i := 1) (x := .slice A k c) rfl); (have q2 := HI3.out.prow.read (i := 2) (x := .slice DA k dc) rfl); (with_reducible refine (HNX2.out _ _ _ _ HI3.out).mono ?_); rintro e w3 ⟨rfl, rfl⟩)
                | (go_at_call 152; (with_reducible refine (HTK2.out nn _ HI3.out.q hn1 hn2).mono ?_); rintro e w4 ⟨g4, rfl, hg4, hby4, hq4, t4, u1, u2, u3, hq5⟩; (have HI4 := Lib.hid (HI3.out.step hq4 hq5)); obtain ⟨A5, c5, w5, hrun5, hr5, hi5⟩ := HI4.out.addRow ⟨some ⟨g4, 0, none⟩, nn, t.bs.take nn⟩ (by rw [HLK.out]; omega) ⟨g4, rfl, Nat.le_trans HI3.out.only.size hg4, hby4, HTN.out.symm, by show 0 < (t.bs.take nn).length; rw [HTN.out]; omega, by show (t.bs.take nn).length ≤ 100000; rw [HTN.out]; omega, fun b hb => HT2.out b (List.mem_of_mem_take hb)⟩; unfold RowB.v at hrun5; simp only [HTN.out] at hrun5; rw [HLK.out] at hrun5 hi5; (have HI5 := Lib.hid hi5); (have z0 := hr5.read (i := 0) (x := .int .i64 2) rfl); (have z0f := hr5.free 0); (have z1 := hr5.read (i := 1) (x := .slice A k c) rfl); (have z1f := hr5.free 1); (have z2 := hr5.read (i := 2) (x := .slice DA k dc) rfl); (have x1 := HI4.out.prow.read (i := 1) (x := .slice A k c) rfl); (have HI7 := Lib.hid (HI5.out.setfi 3)); (have HU := Lib.hid (And.intro u1 (And.intro u2 u3))); clear hg4 hby4 hq4 hq5 hi5 hr5 u1 u2 u3)
                | (at_builtin; refine wpList_run rfl (.tmp 50) (.tmp 52) 48 rfl (.slice A k c) (.slice (some ⟨w4.heap.size, 0, none⟩) 1 1) (by rfl) (by rfl) hrun5 ?_))
              have hc1 := fun W => cclipr_any (A := A5) (k + 1) c5 W HI7.out.rows.cap_le.2
              have hc2 := fun W => cclipu_any (A := DA) k dc W hkd
              have CL := Lib.hid (HI7.out.close)
              have f1 := HI7.out.prow.free 1
              have f2 := HI7.out.prow.free 2
              have c1 := HI7.out.prow.read (i := 1) (x := .slice A5 (k + 1) c5) rfl
              have c2 := HI7.out.prow.read (i := 2) (x := .slice DA k dc) rfl
              generalize (w5.setCell ⟨p9, 1, none⟩ (.slice A5 (k + 1) c5)).setCell ⟨p9, 0, none⟩ (.int .i64 3) = W8 at CL f1 f2 c1 c2 ⊢
              go_region_law (first
                | (go_simp; go_at_call 153; refine (hc1 _).mono ?_; rintro e w5 ⟨rfl, rfl⟩; go_simp)
                | (go_simp; go_at_call 154; refine (hc2 _).mono ?_; rintro e w6 ⟨rfl, rfl⟩; go_simp))
              all_goals
                obtain ⟨r9, s9, k9⟩ := CL.out
                have S9 := Lib.hid s9
                have K9 := Lib.hid k9
                generalize ((W8.setCell ⟨p9, 1, none⟩ (.slice A5 (k + 1) (k + 1))).setCell ⟨p9, 2, none⟩ (.slice DA k k)).drew = W9 at r9 s9 S9 K9 ⊢
                have e0 := r9.read (i := 0) (x := .int .i64 3) rfl
                have e1 := r9.read (i := 1) (x := .slice A5 (k + 1) (k + 1)) rfl
                have e2 := r9.read (i := 2) (x := .slice DA k k) rfl
                have g0 := s9.free 0
                have g1 := s9.free 1
                have g2 := s9.free 2
                have d0 := s9.read (i := 0) (x := .int .i64 0) rfl
                have d1 := s9.read (i := 1) (x := .slice none 0 0) rfl
                have d2 := s9.read (i := 2) (x := .slice none 0 0) rfl
                clear r9 s9 k9 CL hc1 hc2
                go_wp2
                simp only [Exit.jump]
                obtain ⟨d24, hu24⟩ := underpc_parts
                refine bodyPost_ret (results_two rfl _ _ w.heap.size 141 #[.int .i64 3, .slice A5 (k + 1) (k + 1), .slice DA k k] d24 rfl (((S9.out.written 0 (.int .i64 3)).written 1 (.slice A5 (k + 1) (k + 1))).written 2 (.slice DA k k)) hu24 Try.infopcs) rfl ?_
                have hE := K9.out (((W9.setCell ⟨w.heap.size, 0, none⟩ (.int .i64 3)).setCell ⟨w.heap.size, 1, none⟩ (.slice A5 (k + 1) (k + 1))).setCell ⟨w.heap.size, 2, none⟩ (.slice DA k k)) ((((Only.refl (fun k => k = w.heap.size) W9).set (p := ⟨w.heap.size, 0, none⟩) (.inl rfl) _).set (p := ⟨w.heap.size, 1, none⟩) (.inl rfl) _).set (p := ⟨w.heap.size, 2, none⟩) (.inl rfl) _)
                refine cutdone_ok (HBL.out (.inr (by omega))) (.inr ⟨by omega, t, t4, HT.out, HU.out.1, HU.out.2.1, HU.out.2.2, rfl⟩) (.inr (by omega)) (by rw [fiT_pos HH.out (show (0 : Int) < nn by omega)]; rfl) (by rw [List.length_append, HLK.out]; rfl) ?_ hE
                unfold fieldsT
                rw [if_neg (by omega), ← List.map_take, ← HTX.out, List.getD_eq_getElem?_getD, List.getElem?_map, HT.out]
                simp [texts]
            · subst hnb
              go_wp2_with (first
                | (go_at_call 150; (with_reducible refine HFR.out.mono ?_); rintro e w1 ⟨g1, rfl, hg1, hby, hbl⟩; (have HI3 := Lib.hid (HI.out.later hbl)); (have q1 := HI3.out.prow.read (i := 1) (x := .slice A k c) rfl); clear hbl hby hg1)
                | (go_at_call 151; clear q1; (have q0 := HI3.out.prow.read (i := 0) (x := .int .i64 2) rfl); (have q0f := HI3.out.prow.free 0); (have q1 := HI3.out.prow.read (i := 1) (x := .slice A k c) rfl); (have q2 := HI3.out.prow.read (i := 2) (x := .slice DA k dc) rfl); (with_reducible refine (HNX2.out _ _ _ _ HI3.out).mono ?_); rintro e w3 ⟨rfl, rfl⟩)
                | (go_at_call 152; (with_reducible refine (HTK1.out _ HI3.out.q).mono ?_); rintro e w4 ⟨g4, rfl, hg4, hby4, hq4, hq5⟩; (have HI4 := Lib.hid (HI3.out.step hq4 hq5)); obtain ⟨A5, c5, w5, hrun5, hr5, hi5⟩ := HI4.out.addRow ⟨some ⟨g4, 0, none⟩, t.bs.length, t.bs⟩ (by rw [HLK.out]; omega) ⟨g4, rfl, Nat.le_trans HI3.out.only.size hg4, hby4, rfl, ht0, by show t.bs.length ≤ 100000; omega, HT2.out⟩; rw [HLK.out] at hrun5 hi5; (have HI5 := Lib.hid hi5); (have z0 := hr5.read (i := 0) (x := .int .i64 2) rfl); (have z1 := hr5.read (i := 1) (x := .slice A k c) rfl); (have z1f := hr5.free 1); (have z2 := hr5.read (i := 2) (x := .slice DA k dc) rfl); (have x1 := HI4.out.prow.read (i := 1) (x := .slice A k c) rfl); obtain ⟨A6, c6, w6, hrun6, hr6, hi6⟩ := HI5.out.addId t.id (by rw [HIDL.out]; omega); rw [HIDL.out] at hrun6 hi6; rw [show (w5.setCell ⟨p9, 1, none⟩ (Value.slice A5 (k + 1) c5)).heap.size = w5.heap.size by simp] at hrun6; (have HI6 := Lib.hid hi6); (have y2 := hr6.read (i := 2) (x := .slice DA k dc) rfl); (have y2f := hr6.free 2); clear hg4 hby4 hq4 hq5 hi5 hr5 hi6 hr6)
                | (at_builtin; refine wpList_run rfl (.tmp 50) (.tmp 52) 48 rfl (.slice A k c) (.slice (some ⟨w4.heap.size, 0, none⟩) 1 1) (by rfl) (by rfl) hrun5 ?_)
                | (at_builtin; refine wpList_run rfl (.tmp 57) (.tmp 59) 39 rfl (.slice DA k dc) (.slice (some ⟨w5.heap.size, 0, none⟩) 1 1) (by rfl) (by rfl) hrun6 ?_))
              have HC5 := Lib.hid HI6.out.rows.cap_le.2
              have HC6 := Lib.hid HI6.out.ids.cap_le.2
              go_step3
              refine ⟨rfl, ⟨k + 1, 2, A5, c5, A6, c6, p9, ?_, Lib.hid ⟨_, by rw [HTS.out, List.map_append]; exact HI6.out, ?_, by omega, ?_, by rw [if_neg (by omega), HH.out]; rfl, ⟨A5, c5, rfl, HC5.out⟩, A6, c6, rfl, HC6.out⟩⟩, ?_⟩
              · simp only [Fr, Holes]
                repeat apply Exists.intro
                rfl
              · rw [HTS.out, List.map_append, ← HTX.out]
                simp [texts]
              · intro i l hi hl
                rcases Nat.lt_or_ge i k with h9 | h9
                · exact HWH.out i l h9 hl
                · obtain rfl : i = k := by omega
                  rw [lenT_at HT.out] at hl
                  injection hl with hl
                  rw [← hl]
                  exact HNN.out
              · have hm1 := HI6.out.prow.read (i := 1) (x := .slice A5 (k + 1) c5) rfl
                show 1000 - sliceLen ((World.cell? _ ⟨p9, 1, none⟩).getD undef) < 1000 - sliceLen ((World.cell? _ ⟨p9, 1, none⟩).getD undef)
                rw [hm1, p1]
                show 1000 - (k + 1) < 1000 - k
                have := HN.out
                omega

          · rcases Nat.eq_zero_or_pos k with hk0 | hk0
            · subst hk0
              go_wp2_with (first
                | (go_at_call 150; (with_reducible refine HFR.out.mono ?_); rintro e w1 ⟨g1, rfl, hg1, hby, hbl⟩; (have HI3 := Lib.hid (HI.out.later hbl)); (have q1 := HI3.out.prow.read (i := 1) (x := .slice A 0 c) rfl); clear hbl hby hg1)
                | (go_at_call 151; clear q1; (have q0 := HI3.out.prow.read (i := 0) (x := .int .i64 2) rfl); (have q0f := HI3.out.prow.free 0); (have q1 := HI3.out.prow.read (i := 1) (x := .slice A 0 c) rfl); (have q2 := HI3.out.prow.read (i := 2) (x := .slice DA 0 dc) rfl); (have s9 := HI3.out.res); (have g0 := s9.free 0); (have g1f := s9.free 1); (have g2 := s9.free 2); (have d0 := s9.read (i := 0) (x := .int .i64 0) rfl); (have d1 := s9.read (i := 1) (x := .slice none 0 0) rfl); (have d2 := s9.read (i := 2) (x := .slice none 0 0) rfl); (have S9 := Lib.hid s9); clear s9; (with_reducible refine (HNX2.out _ _ _ _ HI3.out).mono ?_); rintro e w3 ⟨rfl, rfl⟩))
              simp only [Exit.jump]
              obtain ⟨d24, hu24⟩ := underpc_parts
              refine bodyPost_ret (results_two rfl _ _ w.heap.size 141 #[.int .i64 0, .slice none 0 0, .slice none 0 0] d24 rfl (((S9.out.written 0 (.int .i64 0)).written 1 (.slice none 0 0)).written 2 (.slice none 0 0)) hu24 Try.infopcs) rfl ?_
              exact cutdone_none (HBL.out (.inl hn0)) hn0 HI3.out _ _ _

            · have hk1 : ((k : Int) == 0) = false := by simp; omega
              go_wp2_with (first
                | (go_at_call 150; (with_reducible refine HFR.out.mono ?_); rintro e w1 ⟨g1, rfl, hg1, hby, hbl⟩; (have HI3 := Lib.hid (HI.out.later hbl)); (have q1 := HI3.out.prow.read (i := 1) (x := .slice A k c) rfl); clear hbl hby hg1)
                | (go_at_call 151; clear q1; (have q0 := HI3.out.prow.read (i := 0) (x := .int .i64 2) rfl); (have q0f := HI3.out.prow.free 0); (have q1 := HI3.out.prow.read (i := 1) (x := .slice A k c) rfl); (have q2 := HI3.out.prow.read (i := 2) (x := .slice DA k dc) rfl); (with_reducible refine (HNX2.out _ _ _ _ HI3.out).mono ?_); rintro e w3 ⟨rfl, rfl⟩))
              have hc1 := fun W => cclipr_any (A := A) (k) c W hkc
              have hc2 := fun W => cclipu_any (A := DA) k dc W hkd
              have CL := Lib.hid (HI3.out.close)
              have f1 := HI3.out.prow.free 1
              have f2 := HI3.out.prow.free 2
              have c1 := HI3.out.prow.read (i := 1) (x := .slice A (k) c) rfl
              have c2 := HI3.out.prow.read (i := 2) (x := .slice DA k dc) rfl
              generalize w1 = W8 at CL f1 f2 c1 c2 ⊢
              go_region_law (first
                | (go_simp; go_at_call 153; refine (hc1 _).mono ?_; rintro e w5 ⟨rfl, rfl⟩; go_simp)
                | (go_simp; go_at_call 154; refine (hc2 _).mono ?_; rintro e w6 ⟨rfl, rfl⟩; go_simp))
              all_goals
                obtain ⟨r9, s9, k9⟩ := CL.out
                have S9 := Lib.hid s9
                have K9 := Lib.hid k9
                generalize ((W8.setCell ⟨p9, 1, none⟩ (.slice A (k) (k))).setCell ⟨p9, 2, none⟩ (.slice DA k k)).drew = W9 at r9 s9 S9 K9 ⊢
                have e0 := r9.read (i := 0) (x := .int .i64 2) rfl
                have e1 := r9.read (i := 1) (x := .slice A (k) (k)) rfl
                have e2 := r9.read (i := 2) (x := .slice DA k k) rfl
                have g0 := s9.free 0
                have g1 := s9.free 1
                have g2 := s9.free 2
                have d0 := s9.read (i := 0) (x := .int .i64 0) rfl
                have d1 := s9.read (i := 1) (x := .slice none 0 0) rfl
                have d2 := s9.read (i := 2) (x := .slice none 0 0) rfl
                clear r9 s9 k9 CL hc1 hc2
                go_wp2
                simp only [Exit.jump]
                obtain ⟨d24, hu24⟩ := underpc_parts
                refine bodyPost_ret (results_two rfl _ _ w.heap.size 141 #[.int .i64 2, .slice A (k) (k), .slice DA k k] d24 rfl (((S9.out.written 0 (.int .i64 2)).written 1 (.slice A (k) (k))).written 2 (.slice DA k k)) hu24 Try.infopcs) rfl ?_
                have hE := K9.out (((W9.setCell ⟨w.heap.size, 0, none⟩ (.int .i64 2)).setCell ⟨w.heap.size, 1, none⟩ (.slice A (k) (k))).setCell ⟨w.heap.size, 2, none⟩ (.slice DA k k)) ((((Only.refl (fun k => k = w.heap.size) W9).set (p := ⟨w.heap.size, 0, none⟩) (.inl rfl) _).set (p := ⟨w.heap.size, 1, none⟩) (.inl rfl) _).set (p := ⟨w.heap.size, 2, none⟩) (.inl rfl) _)
                exact cutdone_ok (HBL.out (.inl hn0)) (.inl ⟨hn0, rfl⟩) (.inl hk0) (by unfold fiT; rw [HH.out, if_pos hn0]; rfl) HLK.out (by unfold fieldsT; rw [if_pos hn0, List.append_nil, HTX.out, List.map_take]) hE
    · have hd : ts.drop k = [] := List.drop_eq_nil_of_le hge
      have hq := HI.out.q
      rw [hd] at hq
      have HFR := Lib.hid (front_none hq hr)
      have hn0 : nextF 0 ((lenT ts).take k) room x ≤ 0 := by
        unfold nextF
        split <;> omega
      have hge2 : (lenT ts).getD k 0 = 0 := by rw [List.getD_eq_getElem?_getD, List.getElem?_eq_none (by rw [length_lenT]; omega)]; rfl
      have HBL0 := Lib.hid (show Bld room x (lenT ts) k (nextF 0 ((lenT ts).take k) room x) from ⟨by rw [length_lenT]; omega, HWH.out, by rw [hge2], .inl hn0⟩)
      have HNX2 := Lib.hid (fun (wc : Nat) (W0 : Option Addr) (fi2 : Int) (W : World) hW => HNX.out 0 wc W0 fi2 W hW)
      generalize nextF 0 ((lenT ts).take k) room x = n at *
      have HFI := Lib.hid hfi
      have HI3 := HI
      have q1 := HI.out.prow.read (i := 1) (x := .slice A k c) rfl
      have HBL := Lib.hid (fun (_ : n ≤ 0 ∨ n < 0) => HBL0.out)
      clear hfi hd hq hge2 HBL0
      rcases Nat.eq_zero_or_pos k with hk0 | hk0
      · subst hk0
        have s9 := HI3.out.res
        have g0 := s9.free 0
        have g1f := s9.free 1
        have g2 := s9.free 2
        have d0 := s9.read (i := 0) (x := .int .i64 0) rfl
        have d1 := s9.read (i := 1) (x := .slice none 0 0) rfl
        have d2 := s9.read (i := 2) (x := .slice none 0 0) rfl
        have S9 := Lib.hid s9
        clear s9
        go_wp2_with (first
          | (go_at_call 150; (with_reducible refine HFR.out.mono ?_); rintro e w1 ⟨rfl, rfl⟩)
          | (go_at_call 151; (with_reducible refine (HNX2.out _ _ _ _ HI3.out).mono ?_); rintro e w3 ⟨rfl, rfl⟩))
        simp only [Exit.jump]
        obtain ⟨d24, hu24⟩ := underpc_parts
        refine bodyPost_ret (results_two rfl _ _ w.heap.size 141 #[.int .i64 0, .slice none 0 0, .slice none 0 0] d24 rfl (((S9.out.written 0 (.int .i64 0)).written 1 (.slice none 0 0)).written 2 (.slice none 0 0)) hu24 Try.infopcs) rfl ?_
        exact cutdone_none (HBL.out (.inl hn0)) hn0 HI3.out _ _ _
      · have hk1 : ((k : Int) == 0) = false := by simp; omega
        have HFI2 := Lib.hid (show fi = fiT ts n by unfold fiT; rw [if_pos hn0, HFI.out, if_neg (by omega)]; omega)
        go_wp2_with (first
          | (go_at_call 150; (with_reducible refine HFR.out.mono ?_); rintro e w1 ⟨rfl, rfl⟩)
          | (go_at_call 151; (with_reducible refine (HNX2.out _ _ _ _ HI3.out).mono ?_); rintro e w3 ⟨rfl, rfl⟩))
        have hc1 := fun W => cclipr_any (A := A) (k) c W hkc
        have hc2 := fun W => cclipu_any (A := DA) k dc W hkd
        have CL := Lib.hid (HI3.out.close)
        have f1 := HI3.out.prow.free 1
        have f2 := HI3.out.prow.free 2
        have c1 := HI3.out.prow.read (i := 1) (x := .slice A (k) c) rfl
        have c2 := HI3.out.prow.read (i := 2) (x := .slice DA k dc) rfl
        generalize w' = W8 at CL f1 f2 c1 c2 ⊢
        go_region_law (first
          | (go_simp; go_at_call 153; refine (hc1 _).mono ?_; rintro e w5 ⟨rfl, rfl⟩; go_simp)
          | (go_simp; go_at_call 154; refine (hc2 _).mono ?_; rintro e w6 ⟨rfl, rfl⟩; go_simp))
        all_goals
          obtain ⟨r9, s9, k9⟩ := CL.out
          have S9 := Lib.hid s9
          have K9 := Lib.hid k9
          generalize ((W8.setCell ⟨p9, 1, none⟩ (.slice A (k) (k))).setCell ⟨p9, 2, none⟩ (.slice DA k k)).drew = W9 at r9 s9 S9 K9 ⊢
          have e0 := r9.read (i := 0) (x := .int .i64 fi) rfl
          have e1 := r9.read (i := 1) (x := .slice A (k) (k)) rfl
          have e2 := r9.read (i := 2) (x := .slice DA k k) rfl
          have g0 := s9.free 0
          have g1 := s9.free 1
          have g2 := s9.free 2
          have d0 := s9.read (i := 0) (x := .int .i64 0) rfl
          have d1 := s9.read (i := 1) (x := .slice none 0 0) rfl
          have d2 := s9.read (i := 2) (x := .slice none 0 0) rfl
          clear r9 s9 k9 CL hc1 hc2
          go_wp2
          simp only [Exit.jump]
          obtain ⟨d24, hu24⟩ := underpc_parts
          refine bodyPost_ret (results_two rfl _ _ w.heap.size 141 #[.int .i64 fi, .slice A (k) (k), .slice DA k k] d24 rfl (((S9.out.written 0 (.int .i64 fi)).written 1 (.slice A (k) (k))).written 2 (.slice DA k k)) hu24 Try.infopcs) rfl ?_
          have hE := K9.out (((W9.setCell ⟨w.heap.size, 0, none⟩ (.int .i64 fi)).setCell ⟨w.heap.size, 1, none⟩ (.slice A (k) (k))).setCell ⟨w.heap.size, 2, none⟩ (.slice DA k k)) ((((Only.refl (fun k => k = w.heap.size) W9).set (p := ⟨w.heap.size, 0, none⟩) (.inl rfl) _).set (p := ⟨w.heap.size, 1, none⟩) (.inl rfl) _).set (p := ⟨w.heap.size, 2, none⟩) (.inl rfl) _)
          exact cutdone_ok (HBL.out (.inl hn0)) (.inl ⟨hn0, rfl⟩) (.inl hk0) HFI2.out HLK.out (by unfold fieldsT; rw [if_pos hn0, List.append_nil, HTX.out, List.map_take]) hE
end Go.Proofs.Ytjonkpdjhjobfaa
