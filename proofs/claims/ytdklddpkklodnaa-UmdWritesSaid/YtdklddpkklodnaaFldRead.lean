/-
  The fields behind a head, read.
-/
import Derived.Test.YtdklddpkklodnaaFldCut2
namespace Go.Proofs.Ytdklddpkklodnaa
open Go.RowKit


theorem insN_at {l : List Nat} {k x : Nat} (h : l[k]? = some x) : (insN l)[k]? = some (.int .i64 x) := by simp [insN, h]
set_option maxHeartbeats 800000 in
theorem max_any {A : Option Addr} {l : List Nat} (n c : Nat) (w : World) (hn : l.length = n) (h1 : 1 ≤ n) (h2 : n ≤ 1000) (hs : Src w A (insN l)) :
    Calls Try.prog 90 #[.slice A n c] w fun e w' => (∃ M : Nat, e = .returned (.int .i64 M) ∧ decide ((2047 : Int) < M) = l.any fun x => decide (2047 < x)) ∧ w = w' := by
  obtain ⟨ad, rfl, hc⟩ := hs (by rw [length_insN]; omega)
  obtain ⟨x0, hx0⟩ : ∃ x, l[0]? = some x := ⟨_, List.getElem?_eq_getElem (by omega)⟩
  have hcell0 : w.cell? ad = some (.int .i64 x0) := by have h9 := hc 0 _ (insN_at hx0); rw [addr_zero] at h9; exact h9
  have HX0 := Lib.hid hx0
  have HC := Lib.hid hc
  have HN := Lib.hid hn
  clear hs hc hn hx0
  go_enter Try.func90, Try.ntmps90
  go_wp2
  go_loopw [3, 4] (fun mv i wr => ∃ k M : Nat, 1 ≤ k ∧ k ≤ n ∧ i = .int .i64 k ∧ mv = .int .i64 M ∧ Hid (M ∈ l ∧ ∀ x ∈ l.take k, x ≤ M) ∧ w = wr) (fun _ i _ => n - (intOf i).toNat)
  case atStart => exact ⟨1, x0, by omega, h1, rfl, rfl, Lib.hid ⟨List.mem_of_getElem? HX0.out, fun x hx => by
    have e : l.take 1 = [x0] := by
      have h9 := HX0.out
      cases l with
      | nil => simp at h9
      | cons a r => simp at h9; subst h9; simp
    rw [e] at hx
    simp at hx
    omega⟩, rfl⟩
  case round =>
    obtain ⟨k, M, hk1, hk, rfl, rfl, HK, rfl⟩ := hrel
    by_cases hlt : k < n
    · obtain ⟨x, hx⟩ : ∃ x, l[k]? = some x := ⟨_, List.getElem?_eq_getElem (by have := HN.out; omega)⟩
      have hcell := HC.out k _ (insN_at hx)
      have HX := Lib.hid hx
      clear hx
      have htk : ∀ y, y ∈ l.take (k + 1) ↔ y ∈ l.take k ∨ y = x := fun y => by
        obtain ⟨h8, h9⟩ := List.getElem?_eq_some_iff.1 HX.out
        rw [List.take_succ_eq_append_getElem h8, List.mem_append, List.mem_singleton, h9]
      have HT := Lib.hid htk
      clear htk
      by_cases hgt : M < x
      · have hgt1 : (M : Int) < (x : Int) := by omega
        go_wp2
        go_roundw
        case rel => exact ⟨k + 1, x, by omega, by omega, by go_num, by rw [show max (M : Int) (x : Int) = x by omega], Lib.hid ⟨List.mem_of_getElem? HX.out, fun y hy => by
          rcases (HT.out y).1 hy with h | h
          · have := HK.out.2 y h; omega
          · omega⟩, trivial⟩
        case measure => simp [intOf]; omega
      · have hgt1 : ¬ (M : Int) < (x : Int) := by omega
        go_wp2
        go_roundw
        case rel => exact ⟨k + 1, M, by omega, by omega, by go_num, by rw [show max (M : Int) (x : Int) = M by omega], Lib.hid ⟨HK.out.1, fun y hy => by
          rcases (HT.out y).1 hy with h | h
          · exact HK.out.2 y h
          · omega⟩, trivial⟩
        case measure => simp [intOf]; omega
    · go_wp2
      go_ret
      refine ⟨⟨M, rfl, ?_⟩, rfl⟩
      have h9 := HK.out
      rw [List.take_of_length_le (by have := HN.out; omega)] at h9
      rw [Bool.eq_iff_iff, decide_eq_true_iff, List.any_eq_true]
      constructor
      · intro h
        exact ⟨M, h9.1, by rw [decide_eq_true_iff]; omega⟩
      · rintro ⟨x, hx, h⟩
        rw [decide_eq_true_iff] at h
        have := h9.2 x hx
        omega

/-- what Read of fields answers -/
def FldAns (B : Nat) (w : World) (r : Int × List (List Nat)) (e : Ending) (w' : World) : Prop :=
  ((r.1 = 0 ∧ ∃ v L, r.2 = texts L ∧ e = .returned (.tuple #[v, .int .i64 0]) ∧ OwnR B w' v L) ∨ (r.1 ≠ 0 ∧ e = .returned (.tuple #[.slice none 0 0, .int .i64 r.1]))) ∧ Below B w w'
theorem fld_of_cut {B : Nat} {w w' : World} {e : Ending} {t : Option (List (List Nat))} (h : CutAns B w t e w') : FldAns B w (ansOf t) e w' := by
  obtain ⟨h1 | h1, h2⟩ := h
  · obtain ⟨v, L, rfl, rfl, h4⟩ := h1
    exact ⟨.inl ⟨rfl, v, L, rfl, rfl, h4⟩, h2⟩
  · obtain ⟨rfl, rfl⟩ := h1
    exact ⟨.inr ⟨by decide, rfl⟩, h2⟩
theorem lread_any {A : Option Addr} {bs : List Nat} (wd n cap : Nat) (wi : Int) (w : World) (hw : wd = 11 ∨ wd = 15) (e : wi = wd) (hn : bs.length = n) (hm : n ≤ 8192) (hc : n ≤ cap) (hs : Src w A (bts bs)) (hb : ∀ b ∈ bs, b < 256) :
    Calls Try.prog 89 #[.slice A n cap, .int .i64 wi] w (RdAns w bs wd) := by
  subst e
  rcases hw with rfl | rfl
  · exact read_11 n cap w hn hm hc hs hb
  · exact read_15 n cap w hn hm hc hs hb
set_option maxRecDepth 100000 in
set_option maxHeartbeats 800000 in
theorem fread_no {A : Option Addr} {bs : List Nat} (wd n cap : Nat) (wi : Int) (w : World) (hn : bs.length = n) (hm : n ≤ 8192) (hc : n ≤ cap) (hcm : cap ≤ 9223372036854775807) (hs : Src w A (bts bs)) (hb : ∀ b ∈ bs, b < 256) :
    Calls Try.prog 56 #[.slice A n cap, .bool false, .int .i64 wi] w (FldAns w.heap.size w (fldR bs false wd)) := by
  have HC := Lib.hid (cut_any (Al := none) (ls := []) n cap 0 0 w hn (by omega) hc hcm hs hb rfl (by omega) (fun h => absurd h (by simp [insN])) (fun x hx => by cases hx))
  have HF := Lib.hid (fun e w' (h : CutAns w.heap.size w (cutF bs []) e w') => (show FldAns w.heap.size w (fldR bs false wd) e w' from fld_of_cut h))
  clear hs hb hn
  go_enter Try.func56, Try.ntmps56
  go_wp2_with (go_at_call 88; refine HC.out.mono ?_; rintro e w1 h1; have h2 := HF.out _ _ h1; obtain ⟨h3 | h3, h4⟩ := h1; (obtain ⟨v, L, hv, rfl, ho⟩ := h3; clear ho); rotate_left 1; (obtain ⟨hv, rfl⟩ := h3); rotate_left 1)
  · have HH := Lib.hid h2
    refine bodyPost_ret (v := .tuple #[v, .int .i64 0]) (by simp [results, Try.results56, go_sem]) rfl HH.out
  · have HH := Lib.hid h2
    refine bodyPost_ret (v := .tuple #[.slice none 0 0, .int .i64 8]) (by simp [results, Try.results56, go_sem]) rfl HH.out

theorem ints_src {B : Nat} {w : World} {A : Option Addr} {n c : Nat} {l : List Nat} (h : Ints B w (.slice A n c) (l.map (fun n : Nat => (n : Int)))) : n = l.length ∧ Src w A (insN l) := by
  obtain ⟨A', e, hc⟩ := h.read
  rw [List.length_map] at e
  injection e with e1 e2 e3
  subst e1
  refine ⟨e2, fun h0 => ?_⟩
  rw [length_insN] at h0
  obtain ⟨g, hA, _, _⟩ := hc 0 (l[0] : Nat) (by rw [List.getElem?_map, List.getElem?_eq_getElem h0]; rfl)
  subst hA
  refine ⟨_, rfl, fun j u hu => ?_⟩
  simp only [insN, List.getElem?_map, Option.map_map, Option.map_eq_some_iff] at hu
  obtain ⟨x, hx, rfl⟩ := hu
  obtain ⟨g', e', _, hcell⟩ := hc j (x : Nat) (by rw [List.getElem?_map, hx]; rfl)
  injection e' with e'
  injection e' with e'
  subst e'
  rw [add_zero_addr]
  exact hcell
set_option maxRecDepth 100000 in
set_option maxHeartbeats 1600000 in
theorem fread_yes {A : Option Addr} {bs : List Nat} (wd n cap : Nat) (wi : Int) (w : World) (hw : wd = 11 ∨ wd = 15) (e : wi = wd) (hn : bs.length = n) (hm : n ≤ 8192) (hc : n ≤ cap) (hcm : cap ≤ 9223372036854775807) (hs : Src w A (bts bs)) (hb : ∀ b ∈ bs, b < 256) :
    Calls Try.prog 56 #[.slice A n cap, .bool true, .int .i64 wi] w (FldAns w.heap.size w (fldR bs true wd)) := by
  have HRD := Lib.hid (lread_any wd n cap wi w hw e hn hm hc hs hb)
  by_cases h0 : (readF bs wd).2.2 = 0
  · obtain ⟨ls, k, hrf⟩ : ∃ ls k, readF bs wd = (ls, k, 0) := ⟨(readF bs wd).1, (readF bs wd).2.1, by rw [← h0]⟩
    have hwr := read_write hb hrf
    obtain ⟨q1, q2, q3, q4, q5, q6⟩ := hwr
    have q7 : 1 ≤ ls.length := by
      cases ls with
      | nil => exact absurd rfl q1
      | cons => simp
    have hF : fldR bs true wd = if ls.any (fun x => decide (2047 < x)) then (3, []) else ansOf (cutF (bs.drop k) ls) := by
      unfold fldR
      rw [hrf]
      simp
    have HRD2 := Lib.hid (show Calls Try.prog 89 #[.slice A n cap, .int .i64 wi] w fun e w' => ∃ Al, e = .returned (.tuple #[.slice Al ls.length ls.length, .int .i64 (k : Nat), .int .i64 0]) ∧ Src w' Al (insN ls) ∧ Below w.heap.size w w' from HRD.out.mono fun e w' h => by
      unfold RdAns at h
      rw [hrf] at h
      obtain ⟨h | h, hbl⟩ := h
      · obtain ⟨_, u, rfl, hu⟩ := h
        obtain ⟨Al, rfl, _⟩ := hu.read
        rw [List.length_map] at hu ⊢
        exact ⟨Al, rfl, (ints_src hu).2, hbl⟩
      · exact absurd rfl h.1)
    have hls : ∀ x ∈ ls, 1 ≤ x ∧ x < 65536 := fun x hx => ⟨(q3 x hx).1, Nat.lt_of_lt_of_le (q3 x hx).2 (by rcases hw with rfl | rfl <;> decide)⟩
    have hkn : k ≤ n := by omega
    have HMX := Lib.hid (fun W Al c (hsl : Src W Al (insN ls)) => max_any (l := ls) ls.length c W rfl q7 (by omega) hsl)
    have hdl : (bs.drop k).length = n - k := by rw [List.length_drop, hn]
    have HCT := Lib.hid (fun W Al Ab cb (hb1 : Below w.heap.size w W) (hsl : Src W Al (insN ls)) (hsb : Src w Ab (bts (bs.drop k))) (hcb : n - k ≤ cb) (hcm2 : cb ≤ 9223372036854775807) => cut_any (A := Ab) (Al := Al) (n - k) cb ls.length ls.length W hdl (by omega) hcb hcm2 (src_later hsb hb1) (fun b h => hb b (List.mem_of_mem_drop h)) rfl (by omega) hsl hls)
    have HS := Lib.hid hs
    have HF := Lib.hid hF
    have HDL := Lib.hid hdl
    have HFC := Lib.hid (fun (W : World) e w' (hw1 : Below w.heap.size w W) (h : CutAns W.heap.size W (cutF (bs.drop k) ls) e w') => (show FldAns w.heap.size w (ansOf (cutF (bs.drop k) ls)) e w' from by
      have h8 := fld_of_cut h
      obtain ⟨h9, h10⟩ := h8
      refine ⟨h9.imp (fun h => ?_) id, hw1.trans (h10.mono hw1.size)⟩
      obtain ⟨g1, v, L, g2, g3, g4⟩ := h
      exact ⟨g1, v, L, g2, g3, g4.own |> fun x => ⟨own_down x hw1.size, fun r hr => (g4.mine r hr).down hw1.size⟩⟩))
    have hn1 : 1 ≤ n := by
      have : 1 ≤ packLen (ls.length * (wd + 1)) := by
        have h9 : 1 * 1 ≤ ls.length * (wd + 1) := Nat.mul_le_mul q7 (by omega)
        unfold packLen
        omega
      omega
    have hbl : bs.length = n := hn
    have hlen : 1 ≤ ls.length ∧ ls.length ≤ 23 := ⟨q7, q2⟩
    clear hF hrf q1 q2 q3 q4 q5 q6 q7 hs hb hn hdl hls HRD h0 hw e
    obtain ⟨hlen1, hlen2⟩ := hlen
    have hk8 : k ≤ 8192 := by omega
    cases hany : ls.any fun x => decide (2047 < x)
    · rw [hany] at HMX HF
      clear hany
      have HFF := Lib.hid (show fldR bs true wd = ansOf (cutF (bs.drop k) ls) by rw [HF.out]; rfl)
      have HBL := Lib.hid hbl
      clear hbl
      obtain ⟨ad, rfl, _⟩ := HS.out (by rw [length_bts, HBL.out]; omega)
      by_cases hkc : k = cap
      · have hnk : n - k = 0 := by omega
        obtain rfl : n = k := by omega
        subst hkc
        have HS0 := Lib.hid (show Src w (some ad) (bts (bs.drop n)) from fun h0 => absurd h0 (by rw [length_bts, HDL.out]; omega))
        rw [hnk] at HCT
        clear hnk
        go_enter Try.func56, Try.ntmps56
        go_wp2_with (first
          | (go_at_call 89; refine HRD2.out.mono ?_; rintro e w1 ⟨Al, rfl, hsl, hb1⟩; (have HSL := Lib.hid hsl; have HB1 := Lib.hid hb1; clear hsl hb1))
          | (go_at_call 90; refine (HMX.out _ _ _ HSL.out).mono ?_; rintro e w2 ⟨⟨M, rfl, hM⟩, rfl⟩)
          | (go_at_call 88; refine (HCT.out w1 Al (some ad) 0 HB1.out HSL.out HS0.out (by omega) (by omega)).mono ?_; rintro e w3 h1; have h2 := HFC.out w1 _ _ HB1.out h1; obtain ⟨h3 | h3, h4⟩ := h1; (obtain ⟨v, L, hv, rfl, ho⟩ := h3; clear ho hv); rotate_left 1; (obtain ⟨hv, rfl⟩ := h3; clear hv); rotate_left 1))
        · have HH := Lib.hid h2
          refine bodyPost_ret (v := .tuple #[v, .int .i64 0]) (by simp [results, Try.results56, go_sem]) rfl ?_
          rw [HFF.out]
          exact HH.out
        · have HH := Lib.hid h2
          refine bodyPost_ret (v := .tuple #[.slice none 0 0, .int .i64 8]) (by simp [results, Try.results56, go_sem]) rfl ?_
          rw [HFF.out]
          exact HH.out
      · have hkc2 : k < cap := by omega
        have HS0 := Lib.hid (show Src w (some (ad.add k)) (bts (bs.drop k)) from by
          have h9 := src_dropc (c := 0) k (show Src w (some ad) (bts (bs.drop 0)) from HS.out)
          rw [Nat.zero_add] at h9
          exact h9)
        go_enter Try.func56, Try.ntmps56
        go_wp2_with (first
          | (go_at_call 89; refine HRD2.out.mono ?_; rintro e w1 ⟨Al, rfl, hsl, hb1⟩; (have HSL := Lib.hid hsl; have HB1 := Lib.hid hb1; clear hsl hb1))
          | (go_at_call 90; refine (HMX.out _ _ _ HSL.out).mono ?_; rintro e w2 ⟨⟨M, rfl, hM⟩, rfl⟩)
          | (go_at_call 88; refine (HCT.out w1 Al (some (ad.add k)) (cap - k) HB1.out HSL.out HS0.out (by omega) (by omega)).mono ?_; rintro e w3 h1; have h2 := HFC.out w1 _ _ HB1.out h1; obtain ⟨h3 | h3, h4⟩ := h1; (obtain ⟨v, L, hv, rfl, ho⟩ := h3; clear ho hv); rotate_left 1; (obtain ⟨hv, rfl⟩ := h3; clear hv); rotate_left 1))
        · have HH := Lib.hid h2
          refine bodyPost_ret (v := .tuple #[v, .int .i64 0]) (by simp [results, Try.results56, go_sem]) rfl ?_
          rw [HFF.out]
          exact HH.out
        · have HH := Lib.hid h2
          refine bodyPost_ret (v := .tuple #[.slice none 0 0, .int .i64 8]) (by simp [results, Try.results56, go_sem]) rfl ?_
          rw [HFF.out]
          exact HH.out
    · rw [hany] at HMX HF
      clear hany
      have HFF := Lib.hid (show fldR bs true wd = (3, []) by rw [HF.out]; rfl)
      go_enter Try.func56, Try.ntmps56
      go_wp2_with (first
        | (go_at_call 89; refine HRD2.out.mono ?_; rintro e w1 ⟨Al, rfl, hsl, hb1⟩; (have HSL := Lib.hid hsl; have HB1 := Lib.hid hb1; clear hsl hb1))
        | (go_at_call 90; refine (HMX.out _ _ _ HSL.out).mono ?_; rintro e w2 ⟨⟨M, rfl, hM⟩, rfl⟩))
      refine bodyPost_ret (v := .tuple #[.slice none 0 0, .int .i64 3]) (by simp [results, Try.results56, go_sem]) rfl ?_
      rw [HFF.out]
      exact ⟨.inr ⟨by decide, rfl⟩, HB1.out⟩
  · have HF := Lib.hid (show fldR bs true wd = ((readF bs wd).2.2, []) by unfold fldR; rw [if_pos rfl, if_neg h0])
    have HRD2 := Lib.hid (show Calls Try.prog 89 #[.slice A n cap, .int .i64 wi] w fun e w' => e = .returned (.tuple #[.slice none 0 0, .int .i64 0, .int .i64 (readF bs wd).2.2]) ∧ Below w.heap.size w w' from HRD.out.mono fun e w' h => by
      obtain ⟨h | h, hbl⟩ := h
      · exact absurd h.1 h0
      · exact ⟨h.2, hbl⟩)
    generalize (readF bs wd).2.2 = er at *
    have h1 : (er != 0) = true := by simpa using h0
    have H0 := Lib.hid h0
    clear hs hb hn HRD h0 hw e
    go_enter Try.func56, Try.ntmps56
    go_wp2_with (go_at_call 89; refine HRD2.out.mono ?_; rintro e w1 ⟨rfl, hb1⟩)
    refine bodyPost_ret (v := .tuple #[.slice none 0 0, .int .i64 er]) (by simp [results, Try.results56, go_sem]) rfl ?_
    rw [HF.out]
    exact ⟨.inr ⟨H0.out, rfl⟩, hb1⟩
end Go.Proofs.Ytdklddpkklodnaa
