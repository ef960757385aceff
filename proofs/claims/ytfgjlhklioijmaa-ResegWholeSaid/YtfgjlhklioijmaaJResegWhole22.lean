/-
  reseg: what goes may be, and fits into its grant. A head of amd: what the document says that it tells. How many bytes a packet has: the document's answer. A packet's bytes: the document's answer. A packet's tail: the document's answer. A packet's data of amd: the document's answer.
-/
import Derived.Test.YtfgjlhklioijmaaJResegWhole21
import Derived.Test.YtfgjlhklioijmaaJResegWhole15
import Derived.Test.YtfgjlhklioijmaaJResegWhole19
import Derived.Test.YtfgjlhklioijmaaJResegWhole07
import Derived.Test.YtfgjlhklioijmaaJResegWhole08
import Derived.Test.YtfgjlhklioijmaaJResegWhole09
import Derived.Test.YtfgjlhklioijmaaJResegWhole12
namespace Go.Proofs.Ytfgjlhklioijmaa
open Go.RowKit

theorem okTo_each {ls : List Nat} (h : ∀ k m, ls[k]? = some m → 1 ≤ m ∧ m ≤ 4000 ∧ (k + 1 ≠ ls.length → m ≤ 2047)) : okTo ls ls.length = true := by
  unfold okTo
  rw [List.all_eq_true]
  intro k hk
  rw [List.mem_range] at hk
  have hm : ls[k]? = some ls[k] := List.getElem?_eq_getElem hk
  obtain ⟨h1, h2, h3⟩ := h k _ hm
  rw [List.getD_eq_getElem?_getD, hm]
  unfold okAt
  simp only [Option.getD_some]
  rw [decide_eq_true h1, Bool.true_and, decide_eq_true_iff]
  split
  · exact h2
  · rename_i h4
    exact h3 h4
/-- something goes -/
def GoesF (fi sn : Int) (ls d : List Nat) (a b : Nat) (grant wd : Int) (pt lb : Bool) (f2 off2 : Int) (q : Nat) (M : List RowB) : Prop :=
  a < q ∧ q ≤ b ∧ flat M = (d.drop a).take (q - a) ∧ 0 < amdF pt lb f2 sn off2 (lens M) wd ∧ amdF pt lb f2 sn off2 (lens M) wd ≤ grant ∧ (pt = false → a = 0 ∧ q = ls.sum ∧ f2 = fi) ∧ (pt = true → lb = decide (q = ls.sum)) ∧ 1 ≤ M.length ∧ M.length ≤ 24
def GoesR (fi sn : Int) (ls d : List Nat) (a b : Nat) (grant wd : Int) (w : World) (e : Ending) (w' : World) : Prop :=
  ∃ (pt lb : Bool) (f2 off2 : Int) (g k q : Nat) (M : List RowB), e = .returned (.tuple #[.agg #[.bool false, .int .i64 f2, .int .i64 sn, .bool pt, .bool lb, .int .i64 off2, .slice (some ⟨g, 0, none⟩) k k], .int .i64 q, .int .i64 0]) ∧ M.length = k ∧ OwnR w.heap.size w' (.slice (some ⟨g, 0, none⟩) k k) M ∧ Below w.heap.size w w' ∧ GoesF fi sn ls d a b grant wd pt lb f2 off2 q M
theorem flat_slic {M : List RowB} {d P : List Nat} (h : texts M = slic d P) : flat M = d.take P.sum := by
  unfold flat
  rw [h, slic_flat]
theorem amdF_of {part last : Bool} {fi sn off wd : Int} {ls : List Nat} (hwd : wd = 10 ∨ wd = 16) (h0 : 0 ≤ fi) (h3 : fi ≤ 3) (hn : okn wd sn = true) (hp : placedA part last off wd = true) (h1 : 1 ≤ ls.length) (h24 : ls.length ≤ 24) (hok : okTo ls ls.length = true) (hb : headA part wd + sizeF ((ls.length : Int) - 1) (lwA wd) + ls.sum ≤ 4000) :
    amdF part last fi sn off ls wd = headA part wd + sizeF ((ls.length : Int) - 1) (lwA wd) + ls.sum := by
  unfold amdF
  rw [if_pos ⟨hwd, h0, h3, hn, hp⟩]
  unfold fieldsF
  rw [if_pos ⟨h1, h24, hok, hb⟩]
theorem part_goes {last : Bool} {fi sn off wd grant : Int} {ls d : List Nat} {a b N : Nat} {M : List RowB} (h0 : amdF false last fi sn off ls wd ≠ 0) (hab : a < b) (hb : b ≤ ls.sum) (hN : 0 < N) (hC : CutN ls a b (min grant 4000 - headA true wd) (lwA wd) N) (hl : lens M = pcs ls a N) (ht : texts M = slic (d.drop a) (pcs ls a N)) :
    GoesF fi sn ls d a b grant wd true (decide (a + N = ls.sum)) (fiC ls fi a (a + N)) a (a + N) M := by
  obtain ⟨hwd, hf0, hf3, hsn, _, hl1, hl24, hok, hFe⟩ := amdF_pos h0
  have hbig := amdF_big false last fi sn off ls wd
  have hp : ∀ l ∈ ls, 0 < l := by
    intro m hm
    obtain ⟨k, hk⟩ := List.getElem?_of_mem hm
    have := okTo_small hok hk
    omega
  have hcost : costP ls a (lwA wd) N ≤ min grant 4000 - headA true wd := by
    rcases hC.2.1 with h | h
    · omega
    · exact h
  have hsz := sizeF_nonneg ((ls.length : Int) - 1) (lwA wd)
  have hh := headA_nonneg false wd
  have hs := pcs_sum ls a N
  have hle := hC.1
  have hpl := pcs_len (a := a) (N := N) hp (by omega)
  have hpp := pcs_pos ls a hN
  have hok2 : okTo (pcs ls a N) (pcs ls a N).length = true := okTo_each fun k m hk => by
    obtain ⟨g1, g2⟩ := pcs_small (M := 2047) (a := a) (N := N) (fun j m hj hn => (okTo_small hok hj).2.2 hn) (by omega) hk
    have g3 := le_sum_mem (List.mem_of_getElem? hk)
    exact ⟨g1, by omega, g2⟩
  have hfc := fiC_bound ls fi a (a + N)
  unfold costP at hcost
  have hF := amdF_of (part := true) (last := decide (a + N = ls.sum)) (fi := fiC ls fi a (a + N)) (sn := sn) (off := (a : Int)) (ls := pcs ls a N) hwd hfc.1 hfc.2 hsn (by
    unfold placedA topA
    simp
    split <;> omega) (by omega) (by omega) hok2 (by rw [hs]; omega)
  have hsz2 := sizeF_nonneg (((pcs ls a N).length : Int) - 1) (lwA wd)
  have hh2 := headA_nonneg true wd
  have hml : M.length = (pcs ls a N).length := by rw [← hl, length_lens]
  refine ⟨by omega, hle, ?_, ?_, ?_, fun h => (by cases h), fun _ => rfl, by omega, by omega⟩
  · rw [flat_slic ht, hs, Nat.add_sub_cancel_left]
  · rw [hl, hF, hs]; omega
  · rw [hl, hF, hs]; omega
theorem texts_lens {M L : List RowB} (h : texts M = texts L) : lens M = lens L := by rw [lens_texts, h, ← lens_texts]
theorem rsc_goes {A : Option Addr} {L : List RowB} (poll part last : Bool) (fi sn off : Int) (n cap a b : Nat) (grant wd : Int) (w : World) (hL : L.length = n) (hs : RSrc w A L) (h0 : faultR part last fi sn off (lens L) a b grant wd = 0) :
    Calls Try.prog 107 #[.agg #[.bool poll, .int .i64 fi, .int .i64 sn, .bool part, .bool last, .int .i64 off, .slice A n cap], .int .i64 a, .int .i64 b, .int .i64 grant, .int .i64 wd] w fun e w' => (e = .returned (.tuple #[.agg #[.bool false, .int .i64 0, .int .i64 0, .bool false, .bool false, .int .i64 0, .slice none 0 0], .int .i64 0, .int .i64 16]) ∧ grant < leastR wd ∧ Below w.heap.size w w') ∨ GoesR fi sn (lens L) (flat L) a b grant wd w e w' := by
  obtain ⟨hpa, hne, hg0, hg1, _, hlt, hle⟩ := faultR_ok h0
  subst hpa
  by_cases hall : a = 0 ∧ b = (lens L).sum ∧ amdF false last fi sn off (lens L) wd ≤ grant
  · obtain ⟨rfl, rfl, hg⟩ := hall
    refine (rsc_whole poll false last fi sn off n cap (lens L).sum grant wd w hL hs h0 rfl hg).mono ?_
    rintro e w' ⟨g, M, rfl, h1, h2, h3, h4⟩
    have hnn := amdF_nonneg false last fi sn off (lens L) wd
    obtain ⟨_, _, _, _, _, hl1, hl24, _⟩ := amdF_pos hne
    rw [length_lens] at hl1 hl24
    refine .inr ⟨false, last, fi, off, g, n, (lens L).sum, M, rfl, h1, h3, h4, by omega, Nat.le_refl _, ?_, by rw [texts_lens h2]; omega, by rw [texts_lens h2]; exact hg, fun _ => ⟨rfl, rfl, rfl⟩, fun h => by (cases h), by omega, by omega⟩
    unfold flat
    rw [h2, List.drop_zero, Nat.sub_zero, ← length_flat]
    unfold flat
    rw [List.take_length]
  · refine (rsc_part poll false last fi sn off n cap a b grant wd w hL hs h0 (by
      by_cases h1 : a = 0
      · by_cases h2 : b = (lens L).sum
        · exact .inr (.inr (by have : ¬ amdF false last fi sn off (lens L) wd ≤ grant := fun h => hall ⟨h1, h2, h⟩; omega))
        · exact .inr (.inl h2)
      · exact .inl h1)).mono ?_
    rintro e w' (⟨h1, h2, h3⟩ | ⟨N, g, k, M, h1, h2, h3, h4, h5, h6, h7, h8⟩)
    · obtain ⟨hwd, _⟩ := amdF_pos hne
      have hh := headA_nonneg true wd
      refine .inl ⟨h2, ?_, h3⟩
      unfold leastR
      rw [if_neg (by rcases hwd with rfl | rfl <;> decide)]
      omega
    · exact .inr ⟨true, _, _, a, g, k, a + N, M, h3, h4, h7, h8, part_goes hne (by omega) (by omega) h1 h2 h5 h6⟩
end Go.Proofs.Ytfgjlhklioijmaa
namespace Go.Proofs.Ytfgjlhklioijmaa
open Go.RowKit

theorem rwidths_any (wd : Int) (w : World) : Calls Try.prog 130 #[.int .i64 wd] w fun e w' => e = .returned (.tuple #[.int .i64 (lwA wd), .int .i64 (owA wd)]) ∧ w = w' := by
  by_cases h5 : wd = 10
  · subst h5
    go_enter Try.func130, Try.ntmps130
    go_wp2
    go_ret2
    exact ⟨rfl, rfl⟩
  · have h1 : (wd == 10) = false := by simpa using h5
    have HH := Lib.hid (show lwA wd = 15 ∧ owA wd = 16 by unfold lwA owA; rw [if_neg h5, if_neg h5]; exact ⟨rfl, rfl⟩)
    clear h5
    go_enter Try.func130, Try.ntmps130
    go_wp2
    go_ret2
    exact ⟨by rw [HH.out.1, HH.out.2]; rfl, rfl⟩
theorem SrcB.bitc {w : World} {b off : Nat} {hd : List Nat} (h : SrcB w (some ⟨b, off, none⟩) (bls (bitsOf hd))) (k : Nat) (hk : k < 8 * hd.length) : w.cell? ⟨b, off + k, none⟩ = some (.bool (bitAt hd k)) := by
  obtain ⟨b', off', hA, hc⟩ := h (by rw [length_bls, length_bitsOf]; omega)
  injection hA with hA
  injection hA with h1 h2
  subst h1
  subst h2
  exact hc _ _ (bls_at (bitAt_get hk))
theorem cell_in {w : World} {b o : Nat} {x : Value} (h : w.cell? ⟨b, o, none⟩ = some x) : b < w.heap.size := by
  rcases Nat.lt_or_ge b w.heap.size with h1 | h1
  · exact h1
  · exfalso
    simp [World.cell?, Array.getElem?_eq_none h1] at h
theorem cells_ref10 {w : World} {g : Nat} {a b c d e f s : Value} (hr : Row w g 28 #[a, b, c, d, e, f, s]) :
    (w.cell? ⟨g, 0, none⟩ = some a ∧ w.cell? ⟨g, 1, none⟩ = some b ∧ w.cell? ⟨g, 2, none⟩ = some c ∧ w.cell? ⟨g, 3, none⟩ = some d ∧ w.cell? ⟨g, 4, none⟩ = some e ∧ w.cell? ⟨g, 5, none⟩ = some f ∧ w.cell? ⟨g, 6, none⟩ = some s) ∧
    (w.frozen? ⟨g, 0, none⟩ = false ∧ w.frozen? ⟨g, 1, none⟩ = false ∧ w.frozen? ⟨g, 2, none⟩ = false ∧ w.frozen? ⟨g, 3, none⟩ = false ∧ w.frozen? ⟨g, 4, none⟩ = false ∧ w.frozen? ⟨g, 5, none⟩ = false ∧ w.frozen? ⟨g, 6, none⟩ = false) :=
  ⟨⟨hr.read rfl, hr.read rfl, hr.read rfl, hr.read rfl, hr.read rfl, hr.read rfl, hr.read rfl⟩, hr.free _, hr.free _, hr.free _, hr.free _, hr.free _, hr.free _, hr.free _⟩
end Go.Proofs.Ytfgjlhklioijmaa
namespace Go.Proofs.Ytfgjlhklioijmaa
open Go.RowKit


theorem fieldsF_bad {ls : List Nat} {head wd : Int} (h : okTo ls ls.length = false ∨ 4000 < head + sizeF ((ls.length : Int) - 1) wd + ls.sum) : fieldsF ls head wd = 0 := by
  unfold fieldsF
  rw [if_neg (fun h2 => by
    rcases h with h | h
    · rw [h] at h2; exact absurd h2.2.2.1 (by decide)
    · omega)]
theorem fieldsF_good {ls : List Nat} {head wd : Int} (h1 : 1 ≤ ls.length) (h2 : ls.length ≤ 24) (h3 : okTo ls ls.length = true) (h4 : head + sizeF ((ls.length : Int) - 1) wd + ls.sum ≤ 4000) : fieldsF ls head wd = head + sizeF ((ls.length : Int) - 1) wd + ls.sum := by
  unfold fieldsF
  rw [if_pos ⟨h1, h2, h3, h4⟩]
set_option maxRecDepth 100000 in
set_option maxHeartbeats 3200000 in
theorem rfields_any {A : Option Addr} {L : List RowB} (n cap : Nat) (head wd : Int) (w : World) (hL : L.length = n) (hn : n ≤ 40) (hsum : (lens L).sum ≤ 9000) (h0 : 0 ≤ head) (h5 : head ≤ 5) (hs : RSrc w A L) :
    Calls Try.prog 133 #[.slice A n cap, .int .i64 head, .int .i64 wd] w fun e w' => e = .returned (.int .i64 (fieldsF (lens L) head wd)) ∧ w = w' := by
  have hll : (lens L).length = n := by rw [length_lens, hL]
  rcases Nat.eq_zero_or_pos n with hn0 | hn0
  · have HF := Lib.hid (show fieldsF (lens L) head wd = 0 by unfold fieldsF; rw [if_neg (by omega)])
    subst hn0
    clear hs hsum hL hll
    go_enter Try.func133, Try.ntmps133
    go_wp2
    go_ret
    exact ⟨by rw [HF.out]; rfl, rfl⟩
  · have hn1 : ¬ (n : Int) < 1 := by omega
    rcases Nat.lt_or_ge 24 n with h24 | h24
    · have HF := Lib.hid (show fieldsF (lens L) head wd = 0 by unfold fieldsF; rw [if_neg (by omega)])
      have h24' : (24 : Int) < n := by omega
      clear hs hsum hL hll
      go_enter Try.func133, Try.ntmps133
      go_wp2
      go_ret
      exact ⟨by rw [HF.out]; rfl, rfl⟩
    · have h24' : ¬ (24 : Int) < n := by omega
      have HS := Lib.hid hs
      have HL := Lib.hid hL
      have HLL := Lib.hid hll
      have hz := sizeF_nonneg ((n : Int) - 1) wd
      have HZ := Lib.hid (fun W => refsize_any ((n : Int) - 1) wd W)
      have HSUM := Lib.hid hsum
      have HFB := Lib.hid (fun (h : okTo (lens L) n = false ∨ 4000 < head + sizeF ((n : Int) - 1) wd + (lens L).sum) => (show fieldsF (lens L) head wd = 0 from fieldsF_bad (by rw [hll]; exact h)))
      have HFG := Lib.hid (fun (h3 : okTo (lens L) n = true) (h4 : head + sizeF ((n : Int) - 1) wd + (lens L).sum ≤ 4000) => (show fieldsF (lens L) head wd = head + sizeF ((n : Int) - 1) wd + (lens L).sum from by
        have h9 := fieldsF_good (ls := lens L) (head := head) (wd := wd) (by omega) (by omega) (by rw [hll]; exact h3) (by rw [hll]; exact h4)
        rw [hll] at h9
        exact h9))
      have hs0 : n = 1 → sizeF ((n : Int) - 1) wd = 0 := fun e => by
        subst e
        unfold sizeF
        simp
      generalize sizeF ((n : Int) - 1) wd = z at *
      obtain ⟨hz0, hz1⟩ := hz
      have HALL := Lib.hid (show sumTo (lens L) n = (lens L).sum by rw [← hll]; exact sumTo_all _)
      clear hs hL hll hsum
      have body : ∀ (q0 : Int), q0 = head + z → 0 ≤ q0 → q0 ≤ 4000 → True := fun _ _ _ _ => trivial
      clear body
      by_cases hn2 : n = 1
      · have hz2 := hs0 hn2
        have hn2' : ¬ (1 : Int) < n := by omega
        have HZ0 := Lib.hid hz2
        clear hs0 hn2 hz2 HZ
        go_enter Try.func133, Try.ntmps133
        go_wp2
        go_loopw [8, 9] (fun v iv wr => ∃ (k : Nat) (q : Int), k ≤ n ∧ iv = .int .i64 k ∧ v = .int .i64 q ∧ 0 ≤ q ∧ q ≤ 4000 ∧ Hid (q = head + z + sumTo (lens L) k ∧ okTo (lens L) k = true) ∧ w = wr) (fun _ iv _ => n - (intOf iv).toNat)
        case atStart => exact ⟨0, head, by omega, rfl, rfl, h0, by omega, Lib.hid ⟨by rw [sumTo_zero, HZ0.out]; omega, okTo_zero _⟩, rfl⟩
        case round =>
          obtain ⟨k, q, hk, rfl, rfl, hq0, hq1, HK, rfl⟩ := hrel
          by_cases hlt : k < n
          · obtain ⟨ad, rfl, hc⟩ := HS.out (by rw [HL.out]; omega)
            obtain ⟨r, hr⟩ : ∃ r, L[k]? = some r := ⟨_, List.getElem?_eq_getElem (by rw [HL.out]; exact hlt)⟩
            have hcell : w.cell? (ad.add k) = some (.slice r.A r.bs.length r.cap) := (hc k r hr).1
            have HSU := Lib.hid (sumTo_succ (lens_at hr))
            have HOK := Lib.hid (okTo_at (lens_at hr) HK.out.2)
            rw [HLL.out] at HOK
            have HLE := Lib.hid (sumTo_le (lens L) (k + 1))
            have hlm : r.bs.length ≤ 9000 := by have := HLE.out; have := HSU.out; have := HSUM.out; omega
            clear hc hr
            generalize r.bs.length = len at *
            rcases Nat.eq_zero_or_pos len with hl0 | hl0
            · have HB := Lib.hid (HFB.out (.inl (okTo_later (k := k + 1) (by rw [HOK.out]; unfold okAt; rw [decide_eq_false (by omega)]; rfl) (by omega))))
              subst hl0
              go_wp2
              go_ret
              exact ⟨by rw [HB.out]; rfl, rfl⟩
            · have hl1 : ((len : Int) == 0) = false := by simp; omega
              by_cases hlast : k + 1 < n
              · have hlast' : (k : Int) + 1 < n := by omega
                by_cases h2047 : 2047 < len
                · have h2047' : (2047 : Int) < len := by omega
                  have HB := Lib.hid (HFB.out (.inl (okTo_later (k := k + 1) (by rw [HOK.out]; unfold okAt; rw [if_neg (by omega), decide_eq_false (show ¬ len ≤ 2047 by omega)]; simp) (by omega))))
                  go_wp2
                  go_ret
                  exact ⟨by rw [HB.out]; rfl, rfl⟩
                · have h2047' : ¬ (2047 : Int) < len := by omega
                  by_cases h4 : 4000 < q + len
                  · have HB := Lib.hid (HFB.out (.inr (by have := HLE.out; have := HSU.out; have := HK.out.1; omega)))
                    go_wp2
                    go_ret
                    exact ⟨by rw [HB.out]; rfl, rfl⟩
                  · have HOK2 := Lib.hid (show okTo (lens L) (k + 1) = true by rw [HOK.out]; unfold okAt; rw [if_neg (by omega), decide_eq_true (show 1 ≤ len by omega), decide_eq_true (show len ≤ 2047 by omega)]; rfl)
                    go_wp2
                    go_roundw
                    case rel => exact ⟨k + 1, q + len, by omega, by go_num, rfl, by omega, by omega, Lib.hid ⟨by rw [HSU.out, HK.out.1]; omega, HOK2.out⟩, trivial⟩
                    case measure => simp [intOf]; omega
              · have hlast' : ¬ (k : Int) + 1 < n := by omega
                by_cases h4 : 4000 < q + len
                · have HB := Lib.hid (HFB.out (.inr (by have := HLE.out; have := HSU.out; have := HK.out.1; omega)))
                  go_wp2
                  go_ret
                  exact ⟨by rw [HB.out]; rfl, rfl⟩
                · have HOK2 := Lib.hid (show okTo (lens L) (k + 1) = true by rw [HOK.out]; unfold okAt; rw [if_pos (by omega), decide_eq_true (show 1 ≤ len by omega), decide_eq_true (show len ≤ 4000 by omega)]; rfl)
                  go_wp2
                  go_roundw
                  case rel => exact ⟨k + 1, q + len, by omega, by go_num, rfl, by omega, by omega, Lib.hid ⟨by rw [HSU.out, HK.out.1]; omega, HOK2.out⟩, trivial⟩
                  case measure => simp [intOf]; omega
          · have hkn : k = n := by omega
            have h9 := HK.out
            rw [hkn, HALL.out] at h9
            have HG := Lib.hid (HFG.out h9.2 (by omega))
            have HQ := Lib.hid h9.1
            clear hkn h9
            go_wp2
            go_ret
            exact ⟨ret_int (by rw [HG.out, HQ.out]), rfl⟩

      · have hn2' : (1 : Int) < n := by omega
        clear hs0
        go_enter Try.func133, Try.ntmps133
        go_wp2_with (go_at_call 184; refine (HZ.out _).mono ?_; rintro e w1 ⟨rfl, rfl⟩)
        go_loopw [8, 9] (fun v iv wr => ∃ (k : Nat) (q : Int), k ≤ n ∧ iv = .int .i64 k ∧ v = .int .i64 q ∧ 0 ≤ q ∧ q ≤ 4000 ∧ Hid (q = head + z + sumTo (lens L) k ∧ okTo (lens L) k = true) ∧ w = wr) (fun _ iv _ => n - (intOf iv).toNat)
        case atStart => exact ⟨0, head + z, by omega, rfl, rfl, by omega, by omega, Lib.hid ⟨by rw [sumTo_zero]; omega, okTo_zero _⟩, rfl⟩
        case round =>
          obtain ⟨k, q, hk, rfl, rfl, hq0, hq1, HK, rfl⟩ := hrel
          by_cases hlt : k < n
          · obtain ⟨ad, rfl, hc⟩ := HS.out (by rw [HL.out]; omega)
            obtain ⟨r, hr⟩ : ∃ r, L[k]? = some r := ⟨_, List.getElem?_eq_getElem (by rw [HL.out]; exact hlt)⟩
            have hcell : w.cell? (ad.add k) = some (.slice r.A r.bs.length r.cap) := (hc k r hr).1
            have HSU := Lib.hid (sumTo_succ (lens_at hr))
            have HOK := Lib.hid (okTo_at (lens_at hr) HK.out.2)
            rw [HLL.out] at HOK
            have HLE := Lib.hid (sumTo_le (lens L) (k + 1))
            have hlm : r.bs.length ≤ 9000 := by have := HLE.out; have := HSU.out; have := HSUM.out; omega
            clear hc hr
            generalize r.bs.length = len at *
            rcases Nat.eq_zero_or_pos len with hl0 | hl0
            · have HB := Lib.hid (HFB.out (.inl (okTo_later (k := k + 1) (by rw [HOK.out]; unfold okAt; rw [decide_eq_false (by omega)]; rfl) (by omega))))
              subst hl0
              go_wp2
              go_ret
              exact ⟨by rw [HB.out]; rfl, rfl⟩
            · have hl1 : ((len : Int) == 0) = false := by simp; omega
              by_cases hlast : k + 1 < n
              · have hlast' : (k : Int) + 1 < n := by omega
                by_cases h2047 : 2047 < len
                · have h2047' : (2047 : Int) < len := by omega
                  have HB := Lib.hid (HFB.out (.inl (okTo_later (k := k + 1) (by rw [HOK.out]; unfold okAt; rw [if_neg (by omega), decide_eq_false (show ¬ len ≤ 2047 by omega)]; simp) (by omega))))
                  go_wp2
                  go_ret
                  exact ⟨by rw [HB.out]; rfl, rfl⟩
                · have h2047' : ¬ (2047 : Int) < len := by omega
                  by_cases h4 : 4000 < q + len
                  · have HB := Lib.hid (HFB.out (.inr (by have := HLE.out; have := HSU.out; have := HK.out.1; omega)))
                    go_wp2
                    go_ret
                    exact ⟨by rw [HB.out]; rfl, rfl⟩
                  · have HOK2 := Lib.hid (show okTo (lens L) (k + 1) = true by rw [HOK.out]; unfold okAt; rw [if_neg (by omega), decide_eq_true (show 1 ≤ len by omega), decide_eq_true (show len ≤ 2047 by omega)]; rfl)
                    go_wp2
                    go_roundw
                    case rel => exact ⟨k + 1, q + len, by omega, by go_num, rfl, by omega, by omega, Lib.hid ⟨by rw [HSU.out, HK.out.1]; omega, HOK2.out⟩, trivial⟩
                    case measure => simp [intOf]; omega
              · have hlast' : ¬ (k : Int) + 1 < n := by omega
                by_cases h4 : 4000 < q + len
                · have HB := Lib.hid (HFB.out (.inr (by have := HLE.out; have := HSU.out; have := HK.out.1; omega)))
                  go_wp2
                  go_ret
                  exact ⟨by rw [HB.out]; rfl, rfl⟩
                · have HOK2 := Lib.hid (show okTo (lens L) (k + 1) = true by rw [HOK.out]; unfold okAt; rw [if_pos (by omega), decide_eq_true (show 1 ≤ len by omega), decide_eq_true (show len ≤ 4000 by omega)]; rfl)
                  go_wp2
                  go_roundw
                  case rel => exact ⟨k + 1, q + len, by omega, by go_num, rfl, by omega, by omega, Lib.hid ⟨by rw [HSU.out, HK.out.1]; omega, HOK2.out⟩, trivial⟩
                  case measure => simp [intOf]; omega
          · have hkn : k = n := by omega
            have h9 := HK.out
            rw [hkn, HALL.out] at h9
            have HG := Lib.hid (HFG.out h9.2 (by omega))
            have HQ := Lib.hid h9.1
            clear hkn h9
            go_wp2
            go_ret
            exact ⟨ret_int (by rw [HG.out, HQ.out]), rfl⟩

end Go.Proofs.Ytfgjlhklioijmaa
namespace Go.Proofs.Ytfgjlhklioijmaa
open Go.RowKit
theorem okn_case {P : Prop} (wd sn : Int) (h0 : okn wd sn = false → P) (h1 : okn wd sn = true → P) : P := by
  cases h : okn wd sn
  · exact h0 h
  · exact h1 h
/-- the lengths of all but the last, in a list of the call's own -/
theorem insN_take_succ {ls : List Nat} {k m : Nat} (h : ls[k]? = some m) : insN (ls.take (k + 1)) = insN (ls.take k) ++ [.int .i64 m] := by
  obtain ⟨hk, rfl⟩ := List.getElem?_eq_some_iff.1 h
  rw [List.take_succ_eq_append_getElem hk]
  simp only [insN, List.map_append, List.map_cons, List.map_nil]
theorem rlens_write {A : Option Addr} {l : List Nat} (wd n cap : Nat) (wi : Int) (w : World) (h : wd = 11 ∨ wd = 15) (e : wi = wd) (hn : l.length = n) (h0 : 1 ≤ n) (h23 : n ≤ 23) (hl : ∀ x ∈ l, 1 ≤ x ∧ x < 2048) (hs : Src w A (insN l)) :
    Calls Try.prog 236 #[.slice A n cap, .int .i64 wi] w fun e w' => ∃ (A' : Option Addr) (c' k : Nat), e = .returned (.tuple #[.slice A' k c', .int .i64 0]) ∧ k = (pack (wbl wd l)).length ∧ OwnY w.heap.size w' (.slice A' k c') (pack (wbl wd l)) ∧ Below w.heap.size w w' := by
  subst e
  have hf : ∀ q : Nat, (q = 11 ∨ q = 15) → faultF (l.map (fun n : Nat => (n : Int))) q = 0 := fun q hq => by
    unfold faultF
    rw [List.length_map, hn, if_neg (by omega), if_neg (by omega), if_pos]
    rw [List.all_eq_true]
    intro x hx
    rw [List.mem_map] at hx
    obtain ⟨y, hy, rfl⟩ := hx
    have := hl y hy
    unfold mayL
    rw [decide_eq_true (by omega), decide_eq_true (by rcases hq with rfl | rfl <;> simp <;> omega)]
    rfl
  have hm : (l.map (fun n : Nat => (n : Int))).map Int.toNat = l := by
    rw [List.map_map]
    have : l.map (Int.toNat ∘ fun n : Nat => (n : Int)) = l.map id := List.map_congr_left fun x _ => by show ((x : Int)).toNat = x; omega
    rw [this, List.map_id]
  have hsi : Src w A (ins (l.map (fun n : Nat => (n : Int)))) := hs
  have fin : ∀ q : Nat, q = wd → ∀ e w', (((faultF (l.map (fun n : Nat => (n : Int))) q = 0 ∧ ∃ x, e = Ending.returned (.tuple #[x, .int .i64 0]) ∧ w'.ownsRow w.heap.size 5 1 x (packLen (n * (q + 1))) (bts (pack (wbl q ((l.map (fun n : Nat => (n : Int))).map Int.toNat))))) ∨ (faultF (l.map (fun n : Nat => (n : Int))) q ≠ 0 ∧ e = .returned (.tuple #[.slice none 0 0, .int .i64 (faultF (l.map (fun n : Nat => (n : Int))) q)]))) ∧ Below w.heap.size w w') → ∃ (A' : Option Addr) (c' k : Nat), e = .returned (.tuple #[.slice A' k c', .int .i64 0]) ∧ k = (pack (wbl wd l)).length ∧ OwnY w.heap.size w' (.slice A' k c') (pack (wbl wd l)) ∧ Below w.heap.size w w' := by
    rintro q rfl e w' ⟨h1 | h1, hb⟩
    · obtain ⟨_, x, rfl, ho⟩ := h1
      rw [hm] at ho
      have hpl : (pack (wbl q l)).length = packLen (n * (q + 1)) := by rw [length_pack, length_wbl, hn]
      have hoy : OwnY w.heap.size w' x (pack (wbl q l)) := by unfold OwnY; rw [hpl]; exact ho
      obtain ⟨A', c', rfl, _⟩ := hoy.form
      exact ⟨A', c', _, rfl, rfl, hoy, hb⟩
    · exact absurd (hf q h) h1.1
  rcases h with rfl | rfl
  · exact (refwrite_11 n cap w (by rw [List.length_map]; exact hn) (by unfold maxLen; omega) hsi).mono fun e w' h => fin 11 rfl e w' h
  · exact (refwrite_15 n cap w (by rw [List.length_map]; exact hn) (by unfold maxLen; omega) hsi).mono fun e w' h => fin 15 rfl e w' h

theorem app_bytes2 {B : Nat} {W : World} {A0 A : Option Addr} {c0 m c n : Nat} {l y : List Nat} (hv : OwnY B W (.slice A0 n c0) l) (hn : l.length = n) (hB : B ≤ W.heap.size) (hs : Src W A (bts y)) (hm : y.length = m) (hlm : n + m ≤ 1000000000) :
    ∃ A' c' W', (Builtin.append_ #[30, 30] 30 #[.slice A0 n c0, .slice A m c]).run Try.prog W = .ok (.slice A' (n + m) c') W' ∧ OwnY B W' (.slice A' (n + m) c') (l ++ y) ∧ (l ++ y).length = n + m ∧ Below B W W' := by
  obtain ⟨A', c', W', h1, h2, h3, _, _⟩ := app_bytes m c hv hB hs hm (by omega)
  rw [hn] at h1 h2
  exact ⟨A', c', W', h1, h2, by rw [List.length_append, hn, hm], h3⟩

end Go.Proofs.Ytfgjlhklioijmaa
namespace Go.Proofs.Ytfgjlhklioijmaa
open Go.RowKit


set_option maxRecDepth 100000 in
set_option maxHeartbeats 6400000 in
theorem rtail_any {A A0 : Option Addr} {L : List RowB} {l : List Nat} (B n cap n0 c0 wd : Nat) (wi : Int) (w : World) (hwd : wd = 11 ∨ wd = 15) (e : wi = wd) (hL : L.length = n) (h1 : 1 ≤ n) (h24 : n ≤ 24) (hok : okTo (lens L) (lens L).length = true) (hsum : (lens L).sum ≤ 9000)
    (hs : ∀ W, Below B w W → RSrc W A L) (hv : OwnY B w (.slice A0 n0 c0) l) (hn0 : l.length = n0) (hn1 : n0 ≤ 10) (hB : B ≤ w.heap.size) :
    Calls Try.prog 144 #[.slice A0 n0 c0, .slice A n cap, .int .i64 wi] w fun e w' => ∃ v', e = .returned v' ∧ OwnY B w' v' (l ++ tailF (lens L) wd ++ flat L) ∧ Below B w w' := by
  have hll : (lens L).length = n := by rw [length_lens, hL]
  have HS := Lib.hid hs
  have HL := Lib.hid hL
  have HLL := Lib.hid hll
  have HV := Lib.hid hv
  have HN0 := Lib.hid hn0
  have hpos := tail_lens hok
  rw [hll] at hpos
  have HW := Lib.hid (fun W Aq cq (h : 1 ≤ n - 1) (hs : Src W Aq (insN ((lens L).take (n - 1)))) => rlens_write wd (n - 1) cq wi W hwd e (by rw [List.length_take, hll]; omega) h (by omega) hpos hs)
  have HT1 := Lib.hid (fun (h : 1 < n) => (show tailF (lens L) wd = pack (wbl wd ((lens L).take (n - 1))) by unfold tailF; rw [hll, if_pos h]))
  have HT0 := Lib.hid (fun (h : ¬ 1 < n) => (show tailF (lens L) wd = [] by unfold tailF; rw [hll, if_neg h]))
  have HT46 := Lib.hid (show (tailF (lens L) wd).length ≤ 46 by
    have h9 := length_tail wd hwd (ls := lens L) (by omega) (by omega)
    have h8 := sizeF_nonneg (((lens L).length : Int) - 1) wd
    omega)
  have HSUM := Lib.hid hsum
  clear hs hL hll hv hn0 hpos hwd e hok hsum
  go_enter Try.func144, Try.ntmps144
  go_wp2
  go_loopw [7, 8] (fun qv iv wr => ∃ (k : Nat) (Aq : Option Addr) (cq : Nat), k + 1 ≤ n ∧ iv = .int .i64 k ∧ qv = .slice Aq k cq ∧ Hid (wr.ownsRow w.heap.size 3 1 (.slice Aq k cq) k (insN ((lens L).take k))) ∧ Hid (Below w.heap.size w wr)) (fun _ iv _ => n - (intOf iv).toNat)
  case atStart => exact ⟨0, none, 0, by omega, rfl, rfl, Lib.hid (World.ownsRow_nil _ _ _ _), Lib.hid (Below.refl _ _)⟩
  case round =>
    obtain ⟨k, Aq, cq, hk, rfl, rfl, HQ, HB⟩ := hrel
    by_cases hlt : k + 1 < n
    · have hlt' : (k : Int) + 1 < n := by omega
      obtain ⟨ad, rfl, hc⟩ := HS.out wr (HB.out.mono hB) (by rw [HL.out]; omega)
      obtain ⟨r, hr⟩ : ∃ r, L[k]? = some r := ⟨_, List.getElem?_eq_getElem (by rw [HL.out]; omega)⟩
      have hcell : wr.cell? (ad.add k) = some (.slice r.A r.bs.length r.cap) := (hc k r hr).1
      obtain ⟨g3, c3, w3, hr3, ho3, hon3⟩ := int_tail HQ.out HB.out.size (r.bs.length : Nat) (by omega)
      have HQ3 := Lib.hid (show w3.ownsRow w.heap.size 3 1 (.slice (some ⟨g3, 0, none⟩) (k + 1) c3) (k + 1) (insN ((lens L).take (k + 1))) by rw [insN_take_succ (lens_at hr)]; exact ho3)
      have HB3 := Lib.hid (HB.out.trans (own_only_below HQ.out hon3 HB.out.size))
      clear hc hr ho3 hon3
      generalize r.bs.length = len at *
      go_wp2_with (at_builtin; refine wpList_run rfl (.tmp 19) (.tmp 25) 96 rfl (.slice Aq k cq) (.slice (some ⟨wr.heap.size, 0, none⟩) 1 1) (by rfl) (by rfl) hr3 ?_)
      go_roundw
      case rel => exact ⟨k + 1, _, _, by omega, by go_num, rfl, HQ3, HB3⟩
      case measure => simp [intOf]; omega
    · have hlt' : ¬ (k : Int) + 1 < n := by omega
      have hkn : k = n - 1 := by omega
      by_cases hn1x : 1 < n
      · have hk0 : (0 : Int) < k := by omega
        obtain ⟨Aw, cw, hAw, hcw⟩ : ∃ (Aw : Option Addr) (cw : Nat), Aw = Aq ∧ cw = cq := ⟨_, _, rfl, rfl⟩
        have hsq : Src wr Aq (insN ((lens L).take (n - 1))) := by
          have h9 := HQ.out
          rw [hkn] at h9
          intro h0
          obtain ⟨g, cap', hv, _, _⟩ := h9.form (by omega)
          injection hv with hA _ _
          subst hA
          exact ⟨_, rfl, h9.cells (g := g) rfl⟩
        have HW1 := Lib.hid (HW.out wr Aq cq (by omega) hsq)
        rw [← hkn] at HW1
        have HT := Lib.hid (HT1.out hn1x)
        rw [← hkn] at HT
        clear hsq hAw hcw Aw cw hkn hlt hn1x HW HT1 HT0
        go_wp2_with (first
          | (go_at_call 236; refine HW1.out.mono ?_; rintro e w4 ⟨A4, c4, k4, rfl, hk4, ho4, hb4⟩
             obtain ⟨A5, c5, w5, hr5, ho5, hq5, hb5⟩ := app_bytes2 (m := k4) (c := c4) ((HV.out.later HB.out).later hb4) HN0.out (Nat.le_trans hB (Nat.le_trans HB.out.size hb4.size)) ho4.src hk4.symm (by have := HT46.out; rw [HT.out] at this; omega)
             have HO5 := Lib.hid (show OwnY B w5 (.slice A5 (n0 + k4) c5) (l ++ tailF (lens L) wd) by rw [HT.out]; exact ho5)
             have HQ5 := Lib.hid (show (l ++ tailF (lens L) wd).length = n0 + k4 by rw [HT.out]; exact hq5)
             have HB5 := Lib.hid (((HB.out.mono hB).trans (hb4.mono (Nat.le_trans hB HB.out.size))).trans hb5)
             have hk46 : k4 ≤ 46 := by have := HT46.out; rw [HT.out] at this; omega
             clear ho4 hb4 ho5 hq5 hb5 hk4)
          | (at_builtin; refine wpList_run rfl (.tmp 36) (.tmp 37) 30 rfl (.slice A0 n0 c0) (.slice A4 k4 c4) (by rfl) (by rfl) hr5 ?_))
        go_loopw [0, 11] (fun ov iv wr => ∃ (j : Nat) (Ao : Option Addr) (co q : Nat), j ≤ n ∧ iv = .int .i64 j ∧ ov = .slice Ao q co ∧ q ≤ 10000 ∧ Hid (OwnY B wr (.slice Ao q co) (l ++ tailF (lens L) wd ++ flatTo L j)) ∧ Hid ((l ++ tailF (lens L) wd ++ flatTo L j).length = q) ∧ Hid (Below B w wr)) (fun _ iv _ => n - (intOf iv).toNat)
        case atStart => exact ⟨0, _, _, n0 + k4, by omega, rfl, rfl, by omega, Lib.hid (by rw [flatTo_zero, List.append_nil]; exact HO5.out), Lib.hid (by rw [flatTo_zero, List.append_nil]; exact HQ5.out), HB5⟩
        case round =>
          obtain ⟨j, Ao, co, q, hj, rfl, rfl, hq, HO, HQQ, HBJ⟩ := hrel
          by_cases hjl : j < n
          · obtain ⟨ad, rfl, hc⟩ := HS.out _ HBJ.out (by rw [HL.out]; omega)
            obtain ⟨r, hr⟩ : ∃ r, L[j]? = some r := ⟨_, List.getElem?_eq_getElem (by rw [HL.out]; omega)⟩
            have hcell := (hc j r hr).1
            have hsu := sumTo_succ (lens_at hr)
            have hle := sumTo_le (lens L) (j + 1)
            have hlq := HQQ.out
            rw [List.length_append, List.length_append, length_flatTo, HN0.out] at hlq
            obtain ⟨A6, c6, w6, hr6, ho6, hq6, hb6⟩ := app_bytes2 (c := r.cap) HO.out HQQ.out (Nat.le_trans hB HBJ.out.size) (hc j r hr).2.1 rfl (by have := HSUM.out; omega)
            have HO6 := Lib.hid (show OwnY B w6 (.slice A6 (q + r.bs.length) c6) (l ++ tailF (lens L) wd ++ flatTo L (j + 1)) by rw [flatTo_succ hr, ← List.append_assoc]; exact ho6)
            have HQ6 := Lib.hid (show (l ++ tailF (lens L) wd ++ flatTo L (j + 1)).length = q + r.bs.length by rw [flatTo_succ hr, ← List.append_assoc]; exact hq6)
            have HB6 := Lib.hid (HBJ.out.trans hb6)
            have hq10 : q + r.bs.length ≤ 10000 := by have := HSUM.out; have := HT46.out; omega
            clear hc hr hsu hle ho6 hq6 hb6 hlq
            unfold RowB.v at hcell
            generalize r.bs.length = len at *
            go_wp2_with (at_builtin; refine wpList_run rfl (.tmp 45) (.tmp 49) 30 rfl (.slice Ao q co) (.slice r.A len r.cap) (by rfl) (by rfl) hr6 ?_)
            go_roundw
            case rel => exact ⟨j + 1, _, _, q + len, by omega, by go_num, rfl, hq10, HO6, HQ6, HB6⟩
            case measure => simp [intOf]; omega
          · have hjn : j = n := by omega
            rw [hjn, flatTo_all HL.out] at HO
            have HOO := Lib.hid HO.out
            clear hjn
            go_wp2
            go_ret
            exact ⟨_, rfl, HOO.out, HBJ.out⟩
      · have hk0 : ¬ (0 : Int) < k := by omega
        have HT := Lib.hid (HT0.out hn1x)
        have HO5 := Lib.hid (show OwnY B wr (.slice A0 n0 c0) (l ++ tailF (lens L) wd) by rw [HT.out, List.append_nil]; exact HV.out.later HB.out)
        have HQ5 := Lib.hid (show (l ++ tailF (lens L) wd).length = n0 by rw [HT.out, List.append_nil]; exact HN0.out)
        have HB5 := Lib.hid (HB.out.mono hB)
        clear hkn hlt hn1x HW HT1 HT0
        go_wp2
        go_loopw [0, 11] (fun ov iv wr => ∃ (j : Nat) (Ao : Option Addr) (co q : Nat), j ≤ n ∧ iv = .int .i64 j ∧ ov = .slice Ao q co ∧ q ≤ 10000 ∧ Hid (OwnY B wr (.slice Ao q co) (l ++ tailF (lens L) wd ++ flatTo L j)) ∧ Hid ((l ++ tailF (lens L) wd ++ flatTo L j).length = q) ∧ Hid (Below B w wr)) (fun _ iv _ => n - (intOf iv).toNat)
        case atStart => exact ⟨0, _, _, n0, by omega, rfl, rfl, by omega, Lib.hid (by rw [flatTo_zero, List.append_nil]; exact HO5.out), Lib.hid (by rw [flatTo_zero, List.append_nil]; exact HQ5.out), HB5⟩
        case round =>
          obtain ⟨j, Ao, co, q, hj, rfl, rfl, hq, HO, HQQ, HBJ⟩ := hrel
          by_cases hjl : j < n
          · obtain ⟨ad, rfl, hc⟩ := HS.out _ HBJ.out (by rw [HL.out]; omega)
            obtain ⟨r, hr⟩ : ∃ r, L[j]? = some r := ⟨_, List.getElem?_eq_getElem (by rw [HL.out]; omega)⟩
            have hcell := (hc j r hr).1
            have hsu := sumTo_succ (lens_at hr)
            have hle := sumTo_le (lens L) (j + 1)
            have hlq := HQQ.out
            rw [List.length_append, List.length_append, length_flatTo, HN0.out] at hlq
            obtain ⟨A6, c6, w6, hr6, ho6, hq6, hb6⟩ := app_bytes2 (c := r.cap) HO.out HQQ.out (Nat.le_trans hB HBJ.out.size) (hc j r hr).2.1 rfl (by have := HSUM.out; omega)
            have HO6 := Lib.hid (show OwnY B w6 (.slice A6 (q + r.bs.length) c6) (l ++ tailF (lens L) wd ++ flatTo L (j + 1)) by rw [flatTo_succ hr, ← List.append_assoc]; exact ho6)
            have HQ6 := Lib.hid (show (l ++ tailF (lens L) wd ++ flatTo L (j + 1)).length = q + r.bs.length by rw [flatTo_succ hr, ← List.append_assoc]; exact hq6)
            have HB6 := Lib.hid (HBJ.out.trans hb6)
            have hq10 : q + r.bs.length ≤ 10000 := by have := HSUM.out; have := HT46.out; omega
            clear hc hr hsu hle ho6 hq6 hb6 hlq
            unfold RowB.v at hcell
            generalize r.bs.length = len at *
            go_wp2_with (at_builtin; refine wpList_run rfl (.tmp 45) (.tmp 49) 30 rfl (.slice Ao q co) (.slice r.A len r.cap) (by rfl) (by rfl) hr6 ?_)
            go_roundw
            case rel => exact ⟨j + 1, _, _, q + len, by omega, by go_num, rfl, hq10, HO6, HQ6, HB6⟩
            case measure => simp [intOf]; omega
          · have hjn : j = n := by omega
            rw [hjn, flatTo_all HL.out] at HO
            have HOO := Lib.hid HO.out
            clear hjn
            go_wp2
            go_ret
            exact ⟨_, rfl, HOO.out, HBJ.out⟩
end Go.Proofs.Ytfgjlhklioijmaa
namespace Go.Proofs.Ytfgjlhklioijmaa
open Go.RowKit

set_option maxRecDepth 100000 in
set_option maxHeartbeats 1600000 in
theorem radata_any {A : Option Addr} {L : List RowB} (poll part last : Bool) (fi sn off : Int) (n cap : Nat) (w : World) (hL : L.length = n) (hn : n ≤ 40) (hs : RSrc w A L) (hm : (lens L).sum ≤ 9000) :
    Calls Try.prog 32 #[.agg #[.bool poll, .int .i64 fi, .int .i64 sn, .bool part, .bool last, .int .i64 off, .slice A n cap]] w fun e w' => ∃ v', e = .returned v' ∧ OwnY w.heap.size w' v' (flat L) ∧ Below w.heap.size w w' := by
  have HS := Lib.hid (fun W (hb : Below w.heap.size w W) => hs.later hb)
  have HL := Lib.hid hL
  have HSUM := Lib.hid hm
  have ROW0 := Lib.hid (Row.made w 28 #[.bool poll, .int .i64 fi, .int .i64 sn, .bool part, .bool last, .int .i64 off, .slice A n cap])
  have HB0 := Lib.hid (bl_alloc (Below.refl w.heap.size w) (.cells #[.bool poll, .int .i64 fi, .int .i64 sn, .bool part, .bool last, .int .i64 off, .slice A n cap] 28))
  have hz0 : (w.alloc (.cells #[.bool poll, .int .i64 fi, .int .i64 sn, .bool part, .bool last, .int .i64 off, .slice A n cap] 28)).heap.size = w.heap.size + 1 := by simp
  have HNIL := Lib.hid (show OwnY (w.heap.size + 1) (w.alloc (.cells #[.bool poll, .int .i64 fi, .int .i64 sn, .bool part, .bool last, .int .i64 off, .slice A n cap] 28)) (.slice none 0 0) [] from World.ownsRow_nil _ _ _ _)
  have HZ0 := Lib.hid hz0
  clear hs hm hL hz0
  go_enter Try.func32, Try.ntmps32
  go_wp2
  go_loopw [3, 4] (fun ov iv wr => ∃ (j : Nat) (Ao : Option Addr) (co q : Nat), j ≤ n ∧ iv = .int .i64 j ∧ ov = .slice Ao q co ∧ q ≤ 9000 ∧ Hid (OwnY (w.heap.size + 1) wr (.slice Ao q co) (flatTo L j)) ∧ Hid ((flatTo L j).length = q) ∧ Hid (Below (w.heap.size + 1) (w.alloc (.cells #[.bool poll, .int .i64 fi, .int .i64 sn, .bool part, .bool last, .int .i64 off, .slice A n cap] 28)) wr)) (fun _ iv _ => n - (intOf iv).toNat)
  case atStart => exact ⟨0, none, 0, 0, by omega, rfl, rfl, by omega, Lib.hid (by rw [flatTo_zero]; exact HNIL.out), Lib.hid (by rw [flatTo_zero]; rfl), Lib.hid (Below.refl _ _)⟩
  case round =>
    obtain ⟨j, Ao, co, q, hj, rfl, rfl, hq, HO, HQQ, HBJ⟩ := hrel
    have HBW := Lib.hid (HB0.out.trans (HBJ.out.mono (Nat.le_succ _)))
    have cb : wr.cell? ⟨w.heap.size, 6, none⟩ = some (.slice A n cap) := (ROW0.out.under HBJ.out (Nat.lt_succ_self _)).read rfl
    by_cases hjl : j < n
    · obtain ⟨ad, rfl, hc⟩ := HS.out _ HBW.out (by rw [HL.out]; omega)
      obtain ⟨r, hr⟩ : ∃ r, L[j]? = some r := ⟨_, List.getElem?_eq_getElem (by rw [HL.out]; omega)⟩
      have hcell := (hc j r hr).1
      have hsu := sumTo_succ (lens_at hr)
      have hle := sumTo_le (lens L) (j + 1)
      have hlq := HQQ.out
      rw [length_flatTo] at hlq
      obtain ⟨A6, c6, w6, hr6, ho6, hq6, hb6⟩ := app_bytes2 (c := r.cap) HO.out HQQ.out (by have := HBJ.out.size; rw [HZ0.out] at this; exact this) (hc j r hr).2.1 rfl (by have := HSUM.out; omega)
      have HO6 := Lib.hid (show OwnY (w.heap.size + 1) w6 (.slice A6 (q + r.bs.length) c6) (flatTo L (j + 1)) by rw [flatTo_succ hr]; exact ho6)
      have HQ6 := Lib.hid (show (flatTo L (j + 1)).length = q + r.bs.length by rw [flatTo_succ hr]; exact hq6)
      have HB6 := Lib.hid (HBJ.out.trans hb6)
      have hq10 : q + r.bs.length ≤ 9000 := by have := HSUM.out; omega
      clear hc hr hsu hle ho6 hq6 hb6 hlq
      unfold RowB.v at hcell
      generalize r.bs.length = len at *
      go_wp2_with (at_builtin; refine wpList_run rfl (.tmp 12) (.tmp 17) 30 rfl (.slice Ao q co) (.slice r.A len r.cap) (by rfl) (by rfl) hr6 ?_)
      go_roundw
      case rel => exact ⟨j + 1, _, _, q + len, by omega, by go_num, rfl, hq10, HO6, HQ6, HB6⟩
      case measure => simp [intOf]; omega
    · have hjn : j = n := by omega
      rw [hjn, flatTo_all HL.out] at HO
      have HOO := Lib.hid HO.out
      clear hjn
      go_wp2
      go_ret
      exact ⟨_, rfl, HOO.out.down (Nat.le_succ _), HBW.out⟩
end Go.Proofs.Ytfgjlhklioijmaa
