/-
  The fields behind a head, read. The bytes of a head, and of fields behind it. Which packets of umd may be, and how many bytes they are.
-/
import Derived.Test.YtbcjfdhphpckfaaJPlainLives21
import Derived.Test.YtbcjfdhphpckfaaJPlainLives16
import Derived.Test.YtbcjfdhphpckfaaJPlainLives10
namespace Go.Proofs.Ytbcjfdhphpckfaa
open Go.RowKit


theorem insN_at {l : List Nat} {k x : Nat} (h : l[k]? = some x) : (insN l)[k]? = some (.int .i64 x) := by simp [insN, h]
set_option maxHeartbeats 800000 in
theorem max_any {A : Option Addr} {l : List Nat} (n c : Nat) (w : World) (hn : l.length = n) (h1 : 1 ≤ n) (h2 : n ≤ 1000) (hs : Src w A (insN l)) :
    Calls Try.prog 265 #[.slice A n c] w fun e w' => (∃ M : Nat, e = .returned (.int .i64 M) ∧ decide ((2047 : Int) < M) = l.any fun x => decide (2047 < x)) ∧ w = w' := by
  obtain ⟨ad, rfl, hc⟩ := hs (by rw [length_insN]; omega)
  obtain ⟨x0, hx0⟩ : ∃ x, l[0]? = some x := ⟨_, List.getElem?_eq_getElem (by omega)⟩
  have hcell0 : w.cell? ad = some (.int .i64 x0) := by have h9 := hc 0 _ (insN_at hx0); rw [addr_zero] at h9; exact h9
  have HX0 := Lib.hid hx0
  have HC := Lib.hid hc
  have HN := Lib.hid hn
  clear hs hc hn hx0
  go_enter Try.func265, Try.ntmps265
  go_wp2
  go_loopw [3, 4] (fun mv i wr => ∃ k M : Nat, 1 ≤ k ∧ k ≤ n ∧ i = .int .i64 k ∧ mv = .int .i64 M ∧ Hid (M ∈ l ∧ ∀ x ∈ l.take k, x ≤ M) ∧ w = wr) (fun _ i _ => n - (intOf i).toNat)
  case atStart => exact ⟨1, x0, by omega, h1, rfl, rfl, Lib.hid ⟨List.mem_of_getElem? HX0.out, fun x hx => by
    have e : l.take 1 = [x0] := by
      have h9 := HX0.out
      cases l with
      | nil => simp at h9
      | cons a r => simp at h9; subst h9; simp
    rw [e] at hx
    simp at hx
    omega⟩, rfl⟩
  case round =>
    obtain ⟨k, M, hk1, hk, rfl, rfl, HK, rfl⟩ := hrel
    by_cases hlt : k < n
    · obtain ⟨x, hx⟩ : ∃ x, l[k]? = some x := ⟨_, List.getElem?_eq_getElem (by have := HN.out; omega)⟩
      have hcell := HC.out k _ (insN_at hx)
      have HX := Lib.hid hx
      clear hx
      have htk : ∀ y, y ∈ l.take (k + 1) ↔ y ∈ l.take k ∨ y = x := fun y => by
        obtain ⟨h8, h9⟩ := List.getElem?_eq_some_iff.1 HX.out
        rw [List.take_succ_eq_append_getElem h8, List.mem_append, List.mem_singleton, h9]
      have HT := Lib.hid htk
      clear htk
      by_cases hgt : M < x
      · have hgt1 : (M : Int) < (x : Int) := by omega
        go_wp2
        go_roundw
        case rel => exact ⟨k + 1, x, by omega, by omega, by go_num, by rw [show max (M : Int) (x : Int) = x by omega], Lib.hid ⟨List.mem_of_getElem? HX.out, fun y hy => by
          rcases (HT.out y).1 hy with h | h
          · have := HK.out.2 y h; omega
          · omega⟩, trivial⟩
        case measure => simp [intOf]; omega
      · have hgt1 : ¬ (M : Int) < (x : Int) := by omega
        go_wp2
        go_roundw
        case rel => exact ⟨k + 1, M, by omega, by omega, by go_num, by rw [show max (M : Int) (x : Int) = M by omega], Lib.hid ⟨HK.out.1, fun y hy => by
          rcases (HT.out y).1 hy with h | h
          · exact HK.out.2 y h
          · omega⟩, trivial⟩
        case measure => simp [intOf]; omega
    · go_wp2
      go_ret
      refine ⟨⟨M, rfl, ?_⟩, rfl⟩
      have h9 := HK.out
      rw [List.take_of_length_le (by have := HN.out; omega)] at h9
      rw [Bool.eq_iff_iff, decide_eq_true_iff, List.any_eq_true]
      constructor
      · intro h
        exact ⟨M, h9.1, by rw [decide_eq_true_iff]; omega⟩
      · rintro ⟨x, hx, h⟩
        rw [decide_eq_true_iff] at h
        have := h9.2 x hx
        omega

/-- what Read of fields answers -/
def FldAns (B : Nat) (w : World) (r : Int × List (List Nat)) (e : Ending) (w' : World) : Prop :=
  ((r.1 = 0 ∧ ∃ v L, r.2 = texts L ∧ e = .returned (.tuple #[v, .int .i64 0]) ∧ OwnR B w' v L) ∨ (r.1 ≠ 0 ∧ e = .returned (.tuple #[.slice none 0 0, .int .i64 r.1]))) ∧ Below B w w'
theorem fld_of_cut {B : Nat} {w w' : World} {e : Ending} {t : Option (List (List Nat))} (h : CutAns B w t e w') : FldAns B w (ansOf t) e w' := by
  obtain ⟨h1 | h1, h2⟩ := h
  · obtain ⟨v, L, rfl, rfl, h4⟩ := h1
    exact ⟨.inl ⟨rfl, v, L, rfl, rfl, h4⟩, h2⟩
  · obtain ⟨rfl, rfl⟩ := h1
    exact ⟨.inr ⟨by decide, rfl⟩, h2⟩
theorem lread_any {A : Option Addr} {bs : List Nat} (wd n cap : Nat) (wi : Int) (w : World) (hw : wd = 11 ∨ wd = 15) (e : wi = wd) (hn : bs.length = n) (hm : n ≤ 8192) (hc : n ≤ cap) (hs : Src w A (bts bs)) (hb : ∀ b ∈ bs, b < 256) :
    Calls Try.prog 264 #[.slice A n cap, .int .i64 wi] w (RdAns w bs wd) := by
  subst e
  rcases hw with rfl | rfl
  · exact read_11 n cap w hn hm hc hs hb
  · exact read_15 n cap w hn hm hc hs hb
set_option maxRecDepth 100000 in
set_option maxHeartbeats 800000 in
theorem fread_no {A : Option Addr} {bs : List Nat} (wd n cap : Nat) (wi : Int) (w : World) (hn : bs.length = n) (hm : n ≤ 8192) (hc : n ≤ cap) (hcm : cap ≤ 9223372036854775807) (hs : Src w A (bts bs)) (hb : ∀ b ∈ bs, b < 256) :
    Calls Try.prog 232 #[.slice A n cap, .bool false, .int .i64 wi] w (FldAns w.heap.size w (fldR bs false wd)) := by
  have HC := Lib.hid (cut_any (Al := none) (ls := []) n cap 0 0 w hn (by omega) hc hcm hs hb rfl (by omega) (fun h => absurd h (by simp [insN])) (fun x hx => by cases hx))
  have HF := Lib.hid (fun e w' (h : CutAns w.heap.size w (cutF bs []) e w') => (show FldAns w.heap.size w (fldR bs false wd) e w' from fld_of_cut h))
  clear hs hb hn
  go_enter Try.func232, Try.ntmps232
  go_wp2_with (go_at_call 263; refine HC.out.mono ?_; rintro e w1 h1; have h2 := HF.out _ _ h1; obtain ⟨h3 | h3, h4⟩ := h1; (obtain ⟨v, L, hv, rfl, ho⟩ := h3; clear ho); rotate_left 1; (obtain ⟨hv, rfl⟩ := h3); rotate_left 1)
  · have HH := Lib.hid h2
    refine bodyPost_ret (v := .tuple #[v, .int .i64 0]) (by simp [results, Try.results232, go_sem]) rfl HH.out
  · have HH := Lib.hid h2
    refine bodyPost_ret (v := .tuple #[.slice none 0 0, .int .i64 8]) (by simp [results, Try.results232, go_sem]) rfl HH.out

theorem ints_src {B : Nat} {w : World} {A : Option Addr} {n c : Nat} {l : List Nat} (h : Ints B w (.slice A n c) (l.map (fun n : Nat => (n : Int)))) : n = l.length ∧ Src w A (insN l) := by
  obtain ⟨A', e, hc⟩ := h.read
  rw [List.length_map] at e
  injection e with e1 e2 e3
  subst e1
  refine ⟨e2, fun h0 => ?_⟩
  rw [length_insN] at h0
  obtain ⟨g, hA, _, _⟩ := hc 0 (l[0] : Nat) (by rw [List.getElem?_map, List.getElem?_eq_getElem h0]; rfl)
  subst hA
  refine ⟨_, rfl, fun j u hu => ?_⟩
  simp only [insN, List.getElem?_map, Option.map_map, Option.map_eq_some_iff] at hu
  obtain ⟨x, hx, rfl⟩ := hu
  obtain ⟨g', e', _, hcell⟩ := hc j (x : Nat) (by rw [List.getElem?_map, hx]; rfl)
  injection e' with e'
  injection e' with e'
  subst e'
  rw [add_zero_addr]
  exact hcell
set_option maxRecDepth 100000 in
set_option maxHeartbeats 1600000 in
theorem fread_yes {A : Option Addr} {bs : List Nat} (wd n cap : Nat) (wi : Int) (w : World) (hw : wd = 11 ∨ wd = 15) (e : wi = wd) (hn : bs.length = n) (hm : n ≤ 8192) (hc : n ≤ cap) (hcm : cap ≤ 9223372036854775807) (hs : Src w A (bts bs)) (hb : ∀ b ∈ bs, b < 256) :
    Calls Try.prog 232 #[.slice A n cap, .bool true, .int .i64 wi] w (FldAns w.heap.size w (fldR bs true wd)) := by
  have HRD := Lib.hid (lread_any wd n cap wi w hw e hn hm hc hs hb)
  by_cases h0 : (readF bs wd).2.2 = 0
  · obtain ⟨ls, k, hrf⟩ : ∃ ls k, readF bs wd = (ls, k, 0) := ⟨(readF bs wd).1, (readF bs wd).2.1, by rw [← h0]⟩
    have hwr := read_write hb hrf
    obtain ⟨q1, q2, q3, q4, q5, q6⟩ := hwr
    have q7 : 1 ≤ ls.length := by
      cases ls with
      | nil => exact absurd rfl q1
      | cons => simp
    have hF : fldR bs true wd = if ls.any (fun x => decide (2047 < x)) then (3, []) else ansOf (cutF (bs.drop k) ls) := by
      unfold fldR
      rw [hrf]
      simp
    have HRD2 := Lib.hid (show Calls Try.prog 264 #[.slice A n cap, .int .i64 wi] w fun e w' => ∃ Al, e = .returned (.tuple #[.slice Al ls.length ls.length, .int .i64 (k : Nat), .int .i64 0]) ∧ Src w' Al (insN ls) ∧ Below w.heap.size w w' from HRD.out.mono fun e w' h => by
      unfold RdAns at h
      rw [hrf] at h
      obtain ⟨h | h, hbl⟩ := h
      · obtain ⟨_, u, rfl, hu⟩ := h
        obtain ⟨Al, rfl, _⟩ := hu.read
        rw [List.length_map] at hu ⊢
        exact ⟨Al, rfl, (ints_src hu).2, hbl⟩
      · exact absurd rfl h.1)
    have hls : ∀ x ∈ ls, 1 ≤ x ∧ x < 65536 := fun x hx => ⟨(q3 x hx).1, Nat.lt_of_lt_of_le (q3 x hx).2 (by rcases hw with rfl | rfl <;> decide)⟩
    have hkn : k ≤ n := by omega
    have HMX := Lib.hid (fun W Al c (hsl : Src W Al (insN ls)) => max_any (l := ls) ls.length c W rfl q7 (by omega) hsl)
    have hdl : (bs.drop k).length = n - k := by rw [List.length_drop, hn]
    have HCT := Lib.hid (fun W Al Ab cb (hb1 : Below w.heap.size w W) (hsl : Src W Al (insN ls)) (hsb : Src w Ab (bts (bs.drop k))) (hcb : n - k ≤ cb) (hcm2 : cb ≤ 9223372036854775807) => cut_any (A := Ab) (Al := Al) (n - k) cb ls.length ls.length W hdl (by omega) hcb hcm2 (src_later hsb hb1) (fun b h => hb b (List.mem_of_mem_drop h)) rfl (by omega) hsl hls)
    have HS := Lib.hid hs
    have HF := Lib.hid hF
    have HDL := Lib.hid hdl
    have HFC := Lib.hid (fun (W : World) e w' (hw1 : Below w.heap.size w W) (h : CutAns W.heap.size W (cutF (bs.drop k) ls) e w') => (show FldAns w.heap.size w (ansOf (cutF (bs.drop k) ls)) e w' from by
      have h8 := fld_of_cut h
      obtain ⟨h9, h10⟩ := h8
      refine ⟨h9.imp (fun h => ?_) id, hw1.trans (h10.mono hw1.size)⟩
      obtain ⟨g1, v, L, g2, g3, g4⟩ := h
      exact ⟨g1, v, L, g2, g3, g4.own |> fun x => ⟨own_down x hw1.size, fun r hr => (g4.mine r hr).down hw1.size⟩⟩))
    have hn1 : 1 ≤ n := by
      have : 1 ≤ packLen (ls.length * (wd + 1)) := by
        have h9 : 1 * 1 ≤ ls.length * (wd + 1) := Nat.mul_le_mul q7 (by omega)
        unfold packLen
        omega
      omega
    have hbl : bs.length = n := hn
    have hlen : 1 ≤ ls.length ∧ ls.length ≤ 23 := ⟨q7, q2⟩
    clear hF hrf q1 q2 q3 q4 q5 q6 q7 hs hb hn hdl hls HRD h0 hw e
    obtain ⟨hlen1, hlen2⟩ := hlen
    have hk8 : k ≤ 8192 := by omega
    cases hany : ls.any fun x => decide (2047 < x)
    · rw [hany] at HMX HF
      clear hany
      have HFF := Lib.hid (show fldR bs true wd = ansOf (cutF (bs.drop k) ls) by rw [HF.out]; rfl)
      have HBL := Lib.hid hbl
      clear hbl
      obtain ⟨ad, rfl, _⟩ := HS.out (by rw [length_bts, HBL.out]; omega)
      by_cases hkc : k = cap
      · have hnk : n - k = 0 := by omega
        obtain rfl : n = k := by omega
        subst hkc
        have HS0 := Lib.hid (show Src w (some ad) (bts (bs.drop n)) from fun h0 => absurd h0 (by rw [length_bts, HDL.out]; omega))
        rw [hnk] at HCT
        clear hnk
        go_enter Try.func232, Try.ntmps232
        go_wp2_with (first
          | (go_at_call 264; refine HRD2.out.mono ?_; rintro e w1 ⟨Al, rfl, hsl, hb1⟩; (have HSL := Lib.hid hsl; have HB1 := Lib.hid hb1; clear hsl hb1))
          | (go_at_call 265; refine (HMX.out _ _ _ HSL.out).mono ?_; rintro e w2 ⟨⟨M, rfl, hM⟩, rfl⟩)
          | (go_at_call 263; refine (HCT.out w1 Al (some ad) 0 HB1.out HSL.out HS0.out (by omega) (by omega)).mono ?_; rintro e w3 h1; have h2 := HFC.out w1 _ _ HB1.out h1; obtain ⟨h3 | h3, h4⟩ := h1; (obtain ⟨v, L, hv, rfl, ho⟩ := h3; clear ho hv); rotate_left 1; (obtain ⟨hv, rfl⟩ := h3; clear hv); rotate_left 1))
        · have HH := Lib.hid h2
          refine bodyPost_ret (v := .tuple #[v, .int .i64 0]) (by simp [results, Try.results232, go_sem]) rfl ?_
          rw [HFF.out]
          exact HH.out
        · have HH := Lib.hid h2
          refine bodyPost_ret (v := .tuple #[.slice none 0 0, .int .i64 8]) (by simp [results, Try.results232, go_sem]) rfl ?_
          rw [HFF.out]
          exact HH.out
      · have hkc2 : k < cap := by omega
        have HS0 := Lib.hid (show Src w (some (ad.add k)) (bts (bs.drop k)) from by
          have h9 := src_dropc (c := 0) k (show Src w (some ad) (bts (bs.drop 0)) from HS.out)
          rw [Nat.zero_add] at h9
          exact h9)
        go_enter Try.func232, Try.ntmps232
        go_wp2_with (first
          | (go_at_call 264; refine HRD2.out.mono ?_; rintro e w1 ⟨Al, rfl, hsl, hb1⟩; (have HSL := Lib.hid hsl; have HB1 := Lib.hid hb1; clear hsl hb1))
          | (go_at_call 265; refine (HMX.out _ _ _ HSL.out).mono ?_; rintro e w2 ⟨⟨M, rfl, hM⟩, rfl⟩)
          | (go_at_call 263; refine (HCT.out w1 Al (some (ad.add k)) (cap - k) HB1.out HSL.out HS0.out (by omega) (by omega)).mono ?_; rintro e w3 h1; have h2 := HFC.out w1 _ _ HB1.out h1; obtain ⟨h3 | h3, h4⟩ := h1; (obtain ⟨v, L, hv, rfl, ho⟩ := h3; clear ho hv); rotate_left 1; (obtain ⟨hv, rfl⟩ := h3; clear hv); rotate_left 1))
        · have HH := Lib.hid h2
          refine bodyPost_ret (v := .tuple #[v, .int .i64 0]) (by simp [results, Try.results232, go_sem]) rfl ?_
          rw [HFF.out]
          exact HH.out
        · have HH := Lib.hid h2
          refine bodyPost_ret (v := .tuple #[.slice none 0 0, .int .i64 8]) (by simp [results, Try.results232, go_sem]) rfl ?_
          rw [HFF.out]
          exact HH.out
    · rw [hany] at HMX HF
      clear hany
      have HFF := Lib.hid (show fldR bs true wd = (3, []) by rw [HF.out]; rfl)
      go_enter Try.func232, Try.ntmps232
      go_wp2_with (first
        | (go_at_call 264; refine HRD2.out.mono ?_; rintro e w1 ⟨Al, rfl, hsl, hb1⟩; (have HSL := Lib.hid hsl; have HB1 := Lib.hid hb1; clear hsl hb1))
        | (go_at_call 265; refine (HMX.out _ _ _ HSL.out).mono ?_; rintro e w2 ⟨⟨M, rfl, hM⟩, rfl⟩))
      refine bodyPost_ret (v := .tuple #[.slice none 0 0, .int .i64 3]) (by simp [results, Try.results232, go_sem]) rfl ?_
      rw [HFF.out]
      exact ⟨.inr ⟨by decide, rfl⟩, HB1.out⟩
  · have HF := Lib.hid (show fldR bs true wd = ((readF bs wd).2.2, []) by unfold fldR; rw [if_pos rfl, if_neg h0])
    have HRD2 := Lib.hid (show Calls Try.prog 264 #[.slice A n cap, .int .i64 wi] w fun e w' => e = .returned (.tuple #[.slice none 0 0, .int .i64 0, .int .i64 (readF bs wd).2.2]) ∧ Below w.heap.size w w' from HRD.out.mono fun e w' h => by
      obtain ⟨h | h, hbl⟩ := h
      · exact absurd h.1 h0
      · exact ⟨h.2, hbl⟩)
    generalize (readF bs wd).2.2 = er at *
    have h1 : (er != 0) = true := by simpa using h0
    have H0 := Lib.hid h0
    clear hs hb hn HRD h0 hw e
    go_enter Try.func232, Try.ntmps232
    go_wp2_with (go_at_call 264; refine HRD2.out.mono ?_; rintro e w1 ⟨rfl, hb1⟩)
    refine bodyPost_ret (v := .tuple #[.slice none 0 0, .int .i64 er]) (by simp [results, Try.results232, go_sem]) rfl ?_
    rw [HF.out]
    exact ⟨.inr ⟨H0.out, rfl⟩, hb1⟩
end Go.Proofs.Ytbcjfdhphpckfaa
namespace Go.Proofs.Ytbcjfdhphpckfaa
open Go.RowKit


/-- the first k lengths, noughts behind -/
def lenK (ls : List Nat) (k : Nat) : List Value := insN (ls.take k) ++ List.replicate (ls.length - k) (.int .i64 0)
theorem lenK_zero (ls : List Nat) : lenK ls 0 = List.replicate ls.length (.int .i64 0) := by simp [lenK, insN]
theorem lenK_all (ls : List Nat) : lenK ls ls.length = insN ls := by simp [lenK]
theorem lenK_succ {ls : List Nat} {k m : Nat} (h : ls[k]? = some m) : (lenK ls k).set k (.int .i64 m) = lenK ls (k + 1) := by
  obtain ⟨hk, rfl⟩ := List.getElem?_eq_some_iff.1 h
  unfold lenK
  have hl : (insN (ls.take k)).length = k := by rw [length_insN, List.length_take]; omega
  rw [List.set_append_right _ _ (by omega), hl, Nat.sub_self, show ls.length - k = (ls.length - (k + 1)) + 1 by omega, List.replicate_succ, List.set_cons_zero, List.take_succ_eq_append_getElem hk]
  simp only [insN, List.map_append, List.map_cons, List.map_nil, List.append_assoc, List.cons_append, List.nil_append]
theorem made_ints (n : Nat) : madeCells #[.int .i64 0] n = (List.replicate n (Value.int .i64 0)).toArray := by
  apply Array.toList_inj.1
  rw [toList_madeCells_one]
set_option maxRecDepth 100000 in
theorem make_ints (n : Nat) (h : n ≤ 8192) (w : World) :
    (Instr.makeSlice 30 (.int .i64 (n : Int)) (.int .i64 (n : Int))).run Try.prog w = .ok (.slice (some ⟨w.heap.size, 0, none⟩) n n) (w.alloc (.cells (List.replicate n (Value.int .i64 0)).toArray 3)) := by
  obtain ⟨i, hi, hz, hs, hb⟩ := info_parts Try.info3
  have h := run_make (P := Try.prog) w 30 3 i _ Try.under30 hi hz .i64 .i64 n n (by omega) (Int.le_refl _) (by rw [hb]; omega) (by omega)
  rw [h, hs, Nat.mul_one, Int.toNat_natCast, ← made_ints]
  rfl
set_option maxHeartbeats 400000 in
theorem lengthsOf1_any {pb g n : Nat} {A : Option Addr} {cs : List Value} (k m c : Nat) (w : World) (hp : Row w pb 30 #[.slice (some ⟨g, 0, none⟩) n n]) (hg : Row w g 3 cs.toArray) (_hn : cs.length = n) (hk : k < n) (hc : ∃ x, cs[k]? = some (Value.int .i64 x)) :
    Calls Try.prog 273 #[.int .i64 k, .slice A m c, .pointer (some ⟨pb, 0, none⟩)] w fun e w' => e = .returned (.bool true) ∧ Row w' g 3 (cs.set k (.int .i64 m)).toArray ∧ Only (fun b => b = g) w w' := by
  obtain ⟨x, hx⟩ := hc
  have hc0 : w.cell? ⟨pb, 0, none⟩ = some (.slice (some ⟨g, 0, none⟩) n n) := hp.read rfl
  have hck : w.cell? ⟨g, k, none⟩ = some (.int .i64 x) := hg.read (by simpa using hx)
  have hf := hg.free k
  have HROW := Lib.hid (show Row (w.setCell ⟨g, k, none⟩ (.int .i64 m)) g 3 (cs.set k (.int .i64 m)).toArray by
    have h1 := hg.written k (.int .i64 m)
    rw [List.setIfInBounds_toArray] at h1
    exact h1)
  have HON := Lib.hid ((Only.refl (fun b => b = g) w).set (p := ⟨g, k, none⟩) (.inl rfl) (.int .i64 m))
  clear hp hg hx _hn
  go_enter Try.func273, Try.ntmps273
  go_wp2
  go_ret
  exact ⟨rfl, HROW.out, HON.out⟩
theorem each_lengths {B pb g n cap : Nat} {A : Option Addr} {L : List RowB} (w : World) (hL : L.length = n) (hn : n ≤ 8192) (hs : ∀ W, Below B w W → RSrc W A L) (hp : Row w pb 30 #[.slice (some ⟨g, 0, none⟩) n n]) (hg : Row w g 3 (List.replicate n (Value.int .i64 0)).toArray) (hgB : B ≤ g) (hB : B ≤ w.heap.size) :
    Calls Try.prog 214 #[.slice A n cap, .func (.func 273) #[] #[.pointer (some ⟨pb, 0, none⟩)]] w fun e w' => e = .returned (.bool true) ∧ Row w' pb 30 #[.slice (some ⟨g, 0, none⟩) n n] ∧ Row w' g 3 (insN (lens L)).toArray ∧ Below B w w' := by
  have hll : (lens L).length = n := by rw [length_lens, hL]
  have hne : pb ≠ g := hp.apart hg (by decide)
  refine (each_any (K := 273) (caps := #[.pointer (some ⟨pb, 0, none⟩)]) n cap (fun a W => enters Try.func273 (by kernel_rfl) rfl a W) (fun k W => Row W pb 30 #[.slice (some ⟨g, 0, none⟩) n n] ∧ Row W g 3 (lenK (lens L) k).toArray ∧ Below B w W) (fun _ => False) w hL (by omega)
    ⟨hp, by rw [lenK_zero, hll]; exact hg, Below.refl _ _⟩ (fun k W h => hs W h.2.2) (fun k W r hr h => ?_)).mono ?_
  · obtain ⟨h1, h2, h3⟩ := h
    have hk : k < n := by rw [← hL]; exact (List.getElem?_eq_some_iff.1 hr).1
    have hlk : (lenK (lens L) k).length = n := by simp [lenK, length_insN, hll]; omega
    refine (lengthsOf1_any (cs := lenK (lens L) k) k r.bs.length r.cap W h1 h2 hlk hk ⟨0, ?_⟩).mono ?_
    · unfold lenK
      rw [List.getElem?_append_right (by rw [length_insN, List.length_take]; omega), length_insN, List.length_take, List.getElem?_replicate, if_pos (by omega)]
    · rintro e W2 ⟨rfl, g1, g2⟩
      refine .inl ⟨rfl, h1.only g2 hne, ?_, h3.trans (only_below g2 hgB (Nat.le_trans hB h3.size))⟩
      rw [lenK_succ (lens_at hr)] at g1
      exact g1
  · rintro e W (⟨rfl, h1, h2, h3⟩ | ⟨_, h⟩)
    · rw [← hll, lenK_all] at h2
      exact ⟨rfl, h1, h2, h3⟩
    · exact h.elim
set_option maxHeartbeats 400000 in
theorem lengthsOf_any {A : Option Addr} {L : List RowB} (n cap : Nat) (w : World) (hL : L.length = n) (hn : n ≤ 8192) (hs : RSrc w A L) :
    Calls Try.prog 244 #[.slice A n cap] w fun e w' => ∃ g, e = .returned (.slice (some ⟨g, 0, none⟩) n n) ∧ Row w' g 3 (insN (lens L)).toArray ∧ Below w.heap.size w w' := by
  have HM := make_ints n hn
  have HE := Lib.hid (fun W (hb : Below w.heap.size w W) x y => each_lengths (pb := w.heap.size + 1) (g := w.heap.size) (B := w.heap.size) (cap := cap) W hL hn (fun W' hb' => hs.later (hb.trans hb')) x y (Nat.le_refl _) hb.size)
  clear hL hs
  go_enter Try.func244, Try.ntmps244
  go_wp2_with (go_at_call 214; refine (HE.out _ (bl_alloc (bl_alloc (Below.refl _ _) _) _) ?x1 ?x2).mono ?_; rotate_left 2; rintro e w2 ⟨rfl, h1, h2, h3⟩; have hc := h1.read (i := 0) rfl; (have H2 := Lib.hid h2; have H3 := Lib.hid h3; clear h1 h2 h3))
  case x1 => exact (by simpa using Row.made (w.alloc (.cells (List.replicate n (Value.int .i64 0)).toArray 3)) 30 #[.slice (some ⟨w.heap.size, 0, none⟩) n n])
  case x2 => exact (Row.made _ _ _).more _
  go_ret
  exact ⟨_, rfl, H2.out, (bl_alloc (bl_alloc (Below.refl _ _) _) _).trans H3.out⟩

/-- lengths' bytes, of all but the last -/
def tailF (ls : List Nat) (wd : Nat) : List Nat := if 1 < ls.length then pack (wbl wd (ls.take (ls.length - 1))) else []
theorem tail_small (ls : List Nat) (wd : Nat) : ∀ b ∈ tailF ls wd, b < 256 := by
  unfold tailF
  split
  · exact pack_small _
  · intro b hb; cases hb
theorem tail_lens {ls : List Nat} (h : okTo ls ls.length = true) : ∀ x ∈ ls.take (ls.length - 1), 1 ≤ x ∧ x < 2048 := by
  intro x hx
  obtain ⟨k, hk⟩ := List.getElem?_of_mem hx
  rw [List.getElem?_take] at hk
  split at hk
  · have := okTo_small h hk
    omega
  · cases hk
theorem sizeF_pack (n wd : Nat) (h : wd = 11 ∨ wd = 15) (h1 : 1 ≤ n) (h2 : n ≤ 23) : sizeF n wd = ((packLen (n * (wd + 1)) : Nat) : Int) := by
  rcases h with rfl | rfl
  · unfold sizeF
    rw [show okW ((11 : Nat) : Int) = true from rfl, decide_eq_true (show (1 : Int) ≤ n by omega), decide_eq_true (show (n : Int) ≤ 23 by omega)]
    simp only [Bool.and_self, if_true, packLen]
    omega
  · unfold sizeF
    rw [show okW ((15 : Nat) : Int) = true from rfl, decide_eq_true (show (1 : Int) ≤ n by omega), decide_eq_true (show (n : Int) ≤ 23 by omega)]
    simp only [Bool.and_self, if_true, packLen]
    omega
theorem length_tail {ls : List Nat} (wd : Nat) (h : wd = 11 ∨ wd = 15) (h1 : 1 ≤ ls.length) (h2 : ls.length ≤ 24) : ((tailF ls wd).length : Int) = sizeF ((ls.length : Int) - 1) wd := by
  unfold tailF
  split
  · have hl : (ls.take (ls.length - 1)).length = ls.length - 1 := by rw [List.length_take]; omega
    rw [length_pack, length_wbl, hl, ← sizeF_pack (ls.length - 1) wd h (by omega) (by omega)]
    congr 1
    omega
  · have : (ls.length : Int) - 1 = 0 := by omega
    rw [this]
    unfold sizeF
    simp
theorem lens_write {A : Option Addr} {l : List Nat} (wd n cap : Nat) (w : World) (h : wd = 11 ∨ wd = 15) (hn : l.length = n) (h0 : 1 ≤ n) (h23 : n ≤ 23) (hl : ∀ x ∈ l, 1 ≤ x ∧ x < 2048) (hs : Src w A (insN l)) :
    Calls Try.prog 243 #[.slice A n cap, .int .i64 wd] w fun e w' => ∃ g k, e = .returned (.tuple #[.slice (some ⟨g, 0, none⟩) k k, .int .i64 0]) ∧ k = (pack (wbl wd l)).length ∧ Row w' g 5 (bts (pack (wbl wd l))).toArray ∧ Below w.heap.size w w' := by
  rcases h with rfl | rfl
  · refine (write_ok_11 n cap w hn h0 h23 hl hs).mono ?_
    rintro e w' ⟨g, rfl, _, hr, hb⟩
    exact ⟨g, _, rfl, by rw [length_pack, length_wbl, hn], hr, hb⟩
  · refine (write_ok_15 n cap w hn h0 h23 (fun x hx => ⟨(hl x hx).1, Nat.lt_of_lt_of_le (hl x hx).2 (by decide)⟩) hs).mono ?_
    rintro e w' ⟨g, rfl, _, hr, hb⟩
    exact ⟨g, _, rfl, by rw [length_pack, length_wbl, hn], hr, hb⟩
theorem make_capZ (z : Int) (h0 : 0 ≤ z) (h : z ≤ 1000000) (w : World) :
    (Instr.makeSlice 34 (.int .i64 0) (.int .i64 z)).run Try.prog w = .ok (.slice (some ⟨w.heap.size, 0, none⟩) 0 z.toNat) (w.alloc (.cells (zeros z.toNat).toArray 5)) := by
  have h1 := make_cap z.toNat (by omega) w
  rw [Int.toNat_of_nonneg h0] at h1
  exact h1
theorem lens_take (L : List RowB) (k : Nat) : lens (L.take k) = (lens L).take k := by simp [lens]
theorem app_head {B : Nat} {W : World} {A0 : Option Addr} {lh : List Nat} (n0 c0 q : Nat) (hq : q ≤ 1000000) (hB : B ≤ W.heap.size) (hh : Src W A0 (bts lh)) (hn0 : lh.length = n0) (hn1 : n0 ≤ 1000000) :
    ∃ A' c' W', (Builtin.append_ #[34, 34] 34 #[.slice (some ⟨W.heap.size, 0, none⟩) 0 q, .slice A0 n0 c0]).run Try.prog (W.alloc (.cells (zeros q).toArray 5)) = .ok (.slice A' n0 c') W' ∧ OwnY B W' (.slice A' n0 c') lh ∧ Below B W W' := by
  obtain ⟨A', c', W', h1, h2, h3, _, _⟩ := app_bytes (B := B) (l := []) (y := lh) (A := A0) n0 c0 (own_cap q hq W B hB) (by simp; omega) (src_later hh (bl_alloc (Below.refl _ _) _)) hn0 (by simp; omega)
  simp only [List.length_nil, Nat.zero_add, List.nil_append] at h1 h2
  exact ⟨A', c', W', h1, h2, ((bl_alloc (Below.refl _ _) _).mono hB).trans h3⟩
set_option maxRecDepth 100000 in
set_option maxHeartbeats 1600000 in
theorem fwrite_any {A A0 : Option Addr} {L : List RowB} {lh : List Nat} (n cap n0 c0 wd : Nat) (w : World) (h : wd = 11 ∨ wd = 15) (hL : L.length = n) (hcap : n ≤ cap) (_hcm : cap ≤ 9223372036854775807) (h1 : 1 ≤ n) (h24 : n ≤ 24) (hok : okTo (lens L) (lens L).length = true) (hs : RSrc w A L) (hh : Src w A0 (bts lh)) (hn0 : lh.length = n0) (hn1 : n0 ≤ 10) :
    Calls Try.prog 200 #[.slice A0 n0 c0, .slice A n cap, .int .i64 wd] w fun e w' => ∃ v', e = .returned v' ∧ OwnY w.heap.size w' v' (lh ++ tailF (lens L) wd ++ flat L) ∧ Below w.heap.size w w' := by
  have hll : (lens L).length = n := by rw [length_lens, hL]
  have hsum := sumTo_bound hok (Nat.le_refl _)
  rw [sumTo_all, hll] at hsum
  have hm : ∀ m ∈ lens L, m ≤ 9223372036854775807 := by
    intro m hm
    obtain ⟨k, hk⟩ := List.getElem?_of_mem hm
    have := okTo_small hok hk
    omega
  have HSZ := Lib.hid (fsize_any n cap wd w hL (by omega) hs hm)
  have hz := szF_pos (ls := lens L) (wd := wd)
  have hzz : 0 ≤ szF (lens L) wd ∧ szF (lens L) wd ≤ 100000 := by rcases hz with hz | hz <;> omega
  obtain ⟨hz0, hz1⟩ := hzz
  clear hz
  generalize szF (lens L) wd = z at *
  have HM := make_capZ ((n0 : Int) + z) (by omega) (by omega)
  have ht46 : (tailF (lens L) wd).length ≤ 46 := by
    have h9 := length_tail wd h (ls := lens L) (by omega) (by omega)
    have h8 := sizeF_nonneg (((lens L).length : Int) - 1) wd
    omega
  have HA1 := Lib.hid (fun W (hb : Below w.heap.size w W) => app_head (B := w.heap.size) n0 c0 ((n0 : Int) + z).toNat (by omega) hb.size (src_later hh hb) hn0 (by omega))
  have HB := Lib.hid (fun W v l (hb : Below w.heap.size w W) (hv : OwnY w.heap.size W v l) (hl : l.length ≤ 1000) => behind_any (B := w.heap.size) (l := l) n cap W hL (by omega) (fun W' hb' => hs.later (hb.trans hb')) hv hb.size (by omega))
  obtain ⟨ad, rfl, _⟩ := hs (by omega)
  by_cases hn2 : n = 1
  · have HT := Lib.hid (show lh ++ tailF (lens L) wd = lh by unfold tailF; rw [if_neg (by omega)]; simp)
    have HN0 := Lib.hid hn0
    subst hn2
    clear hs hL hll hok hsum hm h hh hn0 ht46
    go_enter Try.func200, Try.ntmps200
    go_wp2_with (first
      | (go_at_call 211; refine HSZ.out.mono ?_; rintro e w1 ⟨rfl, hb1⟩; obtain ⟨A1, c1, W1, hr1, ho1, hbw1⟩ := HA1.out w1 hb1; (have HO1 := Lib.hid ho1; have HBW := Lib.hid (hb1.trans hbw1); clear ho1 hb1 hbw1))
      | (at_builtin; refine wpList_run rfl (.tmp 16) (.tmp 17) 34 rfl (.slice (some ⟨w1.heap.size, 0, none⟩) 0 ((n0 : Int) + z).toNat) (.slice A0 n0 c0) (by rfl) (by rfl) hr1 ?_)
      | (go_at_call 216; refine (HB.out W1 _ _ HBW.out HO1.out (by rw [HN0.out]; omega)).mono ?_; rintro e w4 ⟨v', rfl, h4, h5⟩; obtain ⟨A2, c2, hv2, _⟩ := h4.form; generalize (lh ++ flat L).length = n2 at hv2; subst hv2; (have H4 := Lib.hid h4; have H5 := Lib.hid h5; clear h4 h5)))
    go_ret
    exact ⟨_, rfl, by rw [HT.out]; exact H4.out, HBW.out.trans H5.out⟩
  · obtain ⟨m, rfl⟩ : ∃ m, n = m + 1 := ⟨n - 1, by omega⟩
    have htk : (lens L).take ((lens L).length - 1) = lens (L.take m) := by rw [lens_take, hll, Nat.add_sub_cancel]
    have hT : tailF (lens L) wd = pack (wbl wd (lens (L.take m))) := by unfold tailF; rw [if_pos (by omega), htk]
    have hlt : (L.take m).length = m := by rw [List.length_take]; omega
    have H74 := Lib.hid (fun W (hb : Below w.heap.size w W) => lengthsOf_any (A := some ad) (L := L.take m) m cap W hlt (by omega) ((hs.later hb).take m))
    have hlens := tail_lens hok
    rw [htk] at hlens
    have H73 := Lib.hid (fun W g (hr : Row W g 3 (insN (lens (L.take m))).toArray) => lens_write (A := some ⟨g, 0, none⟩) wd m m W h (by rw [length_lens, hlt]) (by omega) (by omega) hlens (row_src hr))
    have HAP := Lib.hid (fun W v g k c (hv : OwnY w.heap.size W v lh) (hB : w.heap.size ≤ W.heap.size) (hr : Row W g 5 (bts (pack (wbl wd (lens (L.take m))))).toArray) (hk : k = (pack (wbl wd (lens (L.take m)))).length) => app_bytes (A := some ⟨g, 0, none⟩) k c hv hB (row_src hr) hk.symm (by rw [hT] at ht46; omega))
    rw [hT] at ht46 ⊢
    have HTL := Lib.hid (show (lh ++ pack (wbl wd (lens (L.take m)))).length ≤ 1000 by rw [List.length_append]; omega)
    have HN0 := Lib.hid hn0
    have hm1 : (1 : Int) < ((m + 1 : Nat) : Int) := by omega
    have hm2 : m ≤ cap := by omega
    clear hs hL hll hok hsum hm h hh hn0 ht46 htk hT hlt hlens HM
    have HM := make_capZ ((n0 : Int) + z) (by omega) (by omega)
    generalize pack (wbl wd (lens (L.take m))) = tl at *
    go_enter Try.func200, Try.ntmps200
    go_wp2_with (first
      | (go_at_call 211; refine HSZ.out.mono ?_; rintro e w1 ⟨rfl, hb1⟩; obtain ⟨A1, c1, W1, hr1, ho1, hbw1⟩ := HA1.out w1 hb1; (have HO1 := Lib.hid ho1; have HBW := Lib.hid (hb1.trans hbw1); clear ho1 hb1 hbw1))
      | (at_builtin; refine wpList_run rfl (.tmp 16) (.tmp 17) 34 rfl (.slice (some ⟨w1.heap.size, 0, none⟩) 0 ((n0 : Int) + z).toNat) (.slice A0 n0 c0) (by rfl) (by rfl) hr1 ?_)
      | (go_at_call 244; refine (H74.out W1 HBW.out).mono ?_; rintro e w2 ⟨g, rfl, hr2, hb2⟩; (have HR2 := Lib.hid hr2; have HB2 := Lib.hid hb2; clear hr2 hb2))
      | (go_at_call 243; refine (H73.out w2 g HR2.out).mono ?_; rintro e w3 ⟨g3, k3, rfl, hk3, hr3, hb3⟩; obtain ⟨A5, c5, W5, hr5, ho5, hb5, _, _⟩ := HAP.out w3 (.slice A1 n0 c1) g3 k3 k3 ((HO1.out.later HB2.out).later hb3) (Nat.le_trans HBW.out.size (Nat.le_trans HB2.out.size hb3.size)) hr3 hk3; rw [HN0.out] at hr5 ho5; (have HO5 := Lib.hid ho5; have HB5 := Lib.hid (((HBW.out.trans (HB2.out.mono HBW.out.size)).trans (hb3.mono (Nat.le_trans HBW.out.size HB2.out.size))).trans hb5); clear hr3 hb3 ho5 hb5 hk3))
      | (at_builtin; refine wpList_run rfl (.tmp 33) (.tmp 34) 34 rfl (.slice A1 n0 c1) (.slice (some ⟨g3, 0, none⟩) k3 k3) (by rfl) (by rfl) hr5 ?_)
      | (go_at_call 216; refine (HB.out W5 _ _ HB5.out HO5.out HTL.out).mono ?_; rintro e w4 ⟨v', rfl, h4, h5⟩; obtain ⟨A2, c2, hv2, _⟩ := h4.form; generalize (lh ++ tl ++ flat L).length = n2 at hv2; subst hv2; (have H4 := Lib.hid h4; have H5 := Lib.hid h5; clear h4 h5)))
    go_ret
    exact ⟨_, rfl, H4.out, HB5.out.trans H5.out⟩
end Go.Proofs.Ytbcjfdhphpckfaa
namespace Go.Proofs.Ytbcjfdhphpckfaa
open Go.RowKit


def umdF (fi sn : Int) (ls : List Nat) (wd : Int) : Int := if (wd = 5 ∨ wd = 10) ∧ 0 ≤ fi ∧ fi ≤ 3 ∧ okn wd sn = true then fieldsF ls (wd / 5) 11 else 0
theorem fieldsF_big (ls : List Nat) (head wd : Int) : fieldsF ls head wd ≤ 4000 := by
  unfold fieldsF
  split
  · rename_i h; exact h.2.2.2
  · omega
theorem umdF_big (fi sn : Int) (ls : List Nat) (wd : Int) : umdF fi sn ls wd ≤ 4000 := by
  unfold umdF
  split
  · exact fieldsF_big _ _ _
  · omega
theorem fieldsF_nonneg (ls : List Nat) (head wd : Int) (h : 0 ≤ head) : 0 ≤ fieldsF ls head wd := by
  unfold fieldsF
  have := sizeF_nonneg ((ls.length : Int) - 1) wd
  split <;> omega
theorem umdF_nonneg (fi sn : Int) (ls : List Nat) (wd : Int) : 0 ≤ umdF fi sn ls wd := by
  unfold umdF
  split
  · exact fieldsF_nonneg _ _ _ (by omega)
  · omega
theorem umdF_pos {fi sn : Int} {ls : List Nat} {wd : Int} (h : umdF fi sn ls wd ≠ 0) : (wd = 5 ∨ wd = 10) ∧ 0 ≤ fi ∧ fi ≤ 3 ∧ okn wd sn = true ∧ 1 ≤ ls.length ∧ ls.length ≤ 24 ∧ okTo ls ls.length = true ∧ umdF fi sn ls wd = wd / 5 + sizeF ((ls.length : Int) - 1) 11 + ls.sum := by
  unfold umdF at h ⊢
  split at h
  · rename_i h1
    rw [if_pos h1]
    unfold fieldsF at h ⊢
    split at h
    · rename_i h2
      rw [if_pos h2]
      exact ⟨h1.1, h1.2.1, h1.2.2.1, h1.2.2.2, h2.1, h2.2.1, h2.2.2.1, rfl⟩
    · exact absurd rfl h
  · exact absurd rfl h

/-- a head's bytes, and the noughts that it begins with -/
def headN (wd : Int) : Int × Int := if wd = 5 then (1, 0) else if wd = 10 then (2, 3) else (0, 0)
theorem shape_any (wd : Int) (w : World) : Calls Try.prog 195 #[.int .i64 wd] w fun e w' => e = .returned (.tuple #[.int .i64 (headN wd).1, .int .i64 (headN wd).2]) ∧ w = w' := by
  by_cases h5 : wd = 5
  · subst h5
    go_enter Try.func195, Try.ntmps195
    go_wp2
    go_ret2
    exact ⟨rfl, rfl⟩
  · by_cases h10 : wd = 10
    · subst h10
      go_enter Try.func195, Try.ntmps195
      go_wp2
      go_ret2
      exact ⟨rfl, rfl⟩
    · have h1 : (wd == 5) = false := by simpa using h5
      have h2 : (wd == 10) = false := by simpa using h10
      have HH := Lib.hid (show headN wd = (0, 0) by unfold headN; rw [if_neg h5, if_neg h10])
      clear h5 h10
      go_enter Try.func195, Try.ntmps195
      go_wp2
      go_ret2
      exact ⟨by rw [HH.out]; rfl, rfl⟩

set_option maxRecDepth 100000 in
set_option maxHeartbeats 3200000 in
theorem usize_any {A : Option Addr} {L : List RowB} (fi sn wd : Int) (n cap : Nat) (w : World) (hL : L.length = n) (hn : n ≤ 9223372036854775807) (hs : RSrc w A L) (hm : ∀ m ∈ lens L, m ≤ 9223372036854775807) :
    Calls Try.prog 194 #[.agg #[.int .i64 fi, .int .i64 sn, .slice A n cap], .int .i64 wd] w fun e w' => e = .returned (.int .i64 (umdF fi sn (lens L) wd)) ∧ Below w.heap.size w w' := by
  have HSH := Lib.hid (fun W => shape_any wd W)
  have HZ := Lib.hid (fun W (hb : Below w.heap.size w W) => fsize_any n cap 11 W hL hn (hs.later hb) hm)
  have hz : 0 ≤ szF (lens L) 11 ∧ szF (lens L) 11 ≤ 100000 := by
    rcases szF_pos (ls := lens L) (wd := 11) with h | h <;> omega
  have HI := Lib.hid (fun W => sqis_any wd sn W)
  have hF : umdF fi sn (lens L) wd = if (wd = 5 ∨ wd = 10) ∧ 0 ≤ fi ∧ fi ≤ 3 ∧ okn wd sn = true then (if szF (lens L) 11 = 0 ∨ 4000 < wd / 5 + szF (lens L) 11 then 0 else wd / 5 + szF (lens L) 11) else 0 := by
    unfold umdF
    rw [fieldsF_code]
  generalize szF (lens L) 11 = z at *
  generalize umdF fi sn (lens L) wd = F at *
  obtain ⟨hz0, hz1⟩ := hz
  clear hs hm hL
  by_cases hw : wd = 5 ∨ wd = 10
  · have hd : (headN wd).1 = wd / 5 ∧ 1 ≤ wd / 5 ∧ wd / 5 ≤ 2 := by rcases hw with rfl | rfl <;> decide
    obtain ⟨hd1, hd2, hd3⟩ := hd
    rw [hd1] at HSH
    generalize (headN wd).2 = nz at *
    have hF2 : F = if 0 ≤ fi ∧ fi ≤ 3 ∧ okn wd sn = true then (if z = 0 ∨ 4000 < wd / 5 + z then 0 else wd / 5 + z) else 0 := by
      rw [hF]
      by_cases h : 0 ≤ fi ∧ fi ≤ 3 ∧ okn wd sn = true
      · rw [if_pos ⟨hw, h⟩, if_pos h]
      · rw [if_neg (fun h2 => h h2.2), if_neg h]
    clear hF hw hd1
    generalize wd / 5 = hd at *
    have h0 : (hd == 0) = false := by simp; omega
    rcases Decidable.em (z = 0) with hz2 | hz2
    · have HF := Lib.hid (show F = 0 by rw [hF2]; split <;> simp [hz2])
      subst hz2
      clear hF2
      go_enter Try.func194, Try.ntmps194
      go_wp2_with (first
        | (go_at_call 195; refine (HSH.out _).mono ?_; rintro e w1 ⟨rfl, rfl⟩)
        | (go_at_call 211; refine (HZ.out _ (bl_alloc (Below.refl _ _) _)).mono ?_; rintro e w2 ⟨rfl, hb2⟩; obtain ⟨hc, hf⟩ := bcell hb2; (have HB := Lib.hid ((bl_alloc (Below.refl w.heap.size w) _).trans (hb2.mono (by simp))); clear hb2)))
      go_ret
      exact ⟨ret_int (by rw [HF.out]), HB.out⟩
    · have hz3 : (z == 0) = false := by simpa using hz2
      rcases Decidable.em (4000 < hd + z) with hz4 | hz4
      · have HF := Lib.hid (show F = 0 by rw [hF2]; split <;> simp [hz4])
        clear hF2 hz2
        go_enter Try.func194, Try.ntmps194
        go_wp2_with (first
          | (go_at_call 195; refine (HSH.out _).mono ?_; rintro e w1 ⟨rfl, rfl⟩)
          | (go_at_call 211; refine (HZ.out _ (bl_alloc (Below.refl _ _) _)).mono ?_; rintro e w2 ⟨rfl, hb2⟩; obtain ⟨hc, hf⟩ := bcell hb2; (have HB := Lib.hid ((bl_alloc (Below.refl w.heap.size w) _).trans (hb2.mono (by simp))); clear hb2)))
        go_ret
        exact ⟨ret_int (by rw [HF.out]), HB.out⟩
      · have hF3 : F = if 0 ≤ fi ∧ fi ≤ 3 ∧ okn wd sn = true then hd + z else 0 := by
          rw [hF2, if_neg (show ¬ (z = 0 ∨ 4000 < hd + z) by omega)]
        clear hF2 hz2
        rcases Decidable.em (fi < 0) with hfi | hfi
        · have HF := Lib.hid (show F = 0 by rw [hF3, if_neg (by omega)])
          clear hF3
          go_enter Try.func194, Try.ntmps194
          go_wp2_with (first
            | (go_at_call 195; refine (HSH.out _).mono ?_; rintro e w1 ⟨rfl, rfl⟩)
            | (go_at_call 211; refine (HZ.out _ (bl_alloc (Below.refl _ _) _)).mono ?_; rintro e w2 ⟨rfl, hb2⟩; obtain ⟨hc, hf⟩ := bcell hb2; (have HB := Lib.hid ((bl_alloc (Below.refl w.heap.size w) _).trans (hb2.mono (by simp))); clear hb2)))
          go_ret
          exact ⟨ret_int (by rw [HF.out]), HB.out⟩
        · rcases Decidable.em (3 < fi) with hfi2 | hfi2
          · have HF := Lib.hid (show F = 0 by rw [hF3, if_neg (by omega)])
            clear hF3
            go_enter Try.func194, Try.ntmps194
            go_wp2_with (first
              | (go_at_call 195; refine (HSH.out _).mono ?_; rintro e w1 ⟨rfl, rfl⟩)
              | (go_at_call 211; refine (HZ.out _ (bl_alloc (Below.refl _ _) _)).mono ?_; rintro e w2 ⟨rfl, hb2⟩; obtain ⟨hc, hf⟩ := bcell hb2; (have HB := Lib.hid ((bl_alloc (Below.refl w.heap.size w) _).trans (hb2.mono (by simp))); clear hb2)))
            go_ret
            exact ⟨ret_int (by rw [HF.out]), HB.out⟩
          · cases hi : okn wd sn
            · have HF := Lib.hid (show F = 0 by rw [hF3, if_neg (by rw [hi]; simp)])
              rw [hi] at HI
              clear hF3 hi
              go_enter Try.func194, Try.ntmps194
              go_wp2_with (first
                | (go_at_call 195; refine (HSH.out _).mono ?_; rintro e w1 ⟨rfl, rfl⟩)
                | (go_at_call 211; refine (HZ.out _ (bl_alloc (Below.refl _ _) _)).mono ?_; rintro e w2 ⟨rfl, hb2⟩; obtain ⟨hc, hf⟩ := bcell hb2; (have HB := Lib.hid ((bl_alloc (Below.refl w.heap.size w) _).trans (hb2.mono (by simp))); clear hb2))
                | (go_at_call 212; refine (HI.out _).mono ?_; rintro e w3 ⟨rfl, hb3⟩))
              go_ret
              exact ⟨ret_int (by rw [HF.out]), HB.out.trans (hb3.mono HB.out.size)⟩
            · have HF := Lib.hid (show F = hd + z by rw [hF3, if_pos ⟨by omega, by omega, hi⟩])
              rw [hi] at HI
              clear hF3 hi
              go_enter Try.func194, Try.ntmps194
              go_wp2_with (first
                | (go_at_call 195; refine (HSH.out _).mono ?_; rintro e w1 ⟨rfl, rfl⟩)
                | (go_at_call 211; refine (HZ.out _ (bl_alloc (Below.refl _ _) _)).mono ?_; rintro e w2 ⟨rfl, hb2⟩; obtain ⟨hc, hf⟩ := bcell hb2; (have HB := Lib.hid ((bl_alloc (Below.refl w.heap.size w) _).trans (hb2.mono (by simp))); clear hb2))
                | (go_at_call 212; refine (HI.out _).mono ?_; rintro e w3 ⟨rfl, hb3⟩))
              go_ret
              exact ⟨ret_int (by rw [HF.out]), HB.out.trans (hb3.mono HB.out.size)⟩
  · have HF := Lib.hid (show F = 0 by rw [hF, if_neg (fun h => hw h.1)])
    have hh : headN wd = (0, 0) := by unfold headN; rw [if_neg (fun h => hw (.inl h)), if_neg (fun h => hw (.inr h))]
    rw [hh] at HSH
    clear hF hw hh
    go_enter Try.func194, Try.ntmps194
    go_wp2_with (first
      | (go_at_call 195; refine (HSH.out _).mono ?_; rintro e w1 ⟨rfl, rfl⟩)
      | (go_at_call 211; refine (HZ.out _ (bl_alloc (Below.refl _ _) _)).mono ?_; rintro e w2 ⟨rfl, hb2⟩; obtain ⟨hc, hf⟩ := bcell hb2; (have HB := Lib.hid ((bl_alloc (Below.refl w.heap.size w) _).trans (hb2.mono (by simp))); clear hb2)))
    go_ret
    exact ⟨ret_int (by rw [HF.out]), HB.out⟩
set_option maxRecDepth 100000 in
set_option maxHeartbeats 800000 in
theorem uright_any {A : Option Addr} {L : List RowB} (fi sn wd : Int) (n cap : Nat) (w : World) (hL : L.length = n) (hn : n ≤ 9223372036854775807) (hs : RSrc w A L) (hm : ∀ m ∈ lens L, m ≤ 9223372036854775807) :
    Calls Try.prog 196 #[.agg #[.int .i64 fi, .int .i64 sn, .slice A n cap], .int .i64 wd] w fun e w' => e = .returned (.bool (decide (0 < umdF fi sn (lens L) wd))) ∧ Below w.heap.size w w' := by
  have HZ := Lib.hid (fun W (hb : Below w.heap.size w W) => usize_any (A := A) fi sn wd n cap W hL hn (hs.later hb) hm)
  generalize umdF fi sn (lens L) wd = F at *
  clear hs hm hL
  go_enter Try.func196, Try.ntmps196
  go_wp2_with (go_at_call 194; refine (HZ.out _ (bl_alloc (Below.refl _ _) _)).mono ?_; rintro e w2 ⟨rfl, hb2⟩)
  go_ret
  exact ⟨rfl, (bl_alloc (Below.refl w.heap.size w) _).trans (hb2.mono (by simp))⟩
end Go.Proofs.Ytbcjfdhphpckfaa
