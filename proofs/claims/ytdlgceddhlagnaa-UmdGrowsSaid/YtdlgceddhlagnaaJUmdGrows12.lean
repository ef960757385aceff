/-
  How many bytes a packet has: the document's answer. A packet's bytes: the document's answer. UmdGrows: the last field grows by a byte, in whatever order memory is made.
-/
import Derived.Test.YtdlgceddhlagnaaJUmdGrows07
import Derived.Test.YtdlgceddhlagnaaJUmdGrows08
import Derived.Test.YtdlgceddhlagnaaJUmdGrows06
import Derived.Test.YtdlgceddhlagnaaJUmdGrows11
namespace Go.Proofs.Ytdlgceddhlagnaa
open Go.RowKit


theorem fieldsF_bad {ls : List Nat} {head wd : Int} (h : okTo ls ls.length = false ∨ 4000 < head + sizeF ((ls.length : Int) - 1) wd + ls.sum) : fieldsF ls head wd = 0 := by
  unfold fieldsF
  rw [if_neg (fun h2 => by
    rcases h with h | h
    · rw [h] at h2; exact absurd h2.2.2.1 (by decide)
    · omega)]
theorem fieldsF_good {ls : List Nat} {head wd : Int} (h1 : 1 ≤ ls.length) (h2 : ls.length ≤ 24) (h3 : okTo ls ls.length = true) (h4 : head + sizeF ((ls.length : Int) - 1) wd + ls.sum ≤ 4000) : fieldsF ls head wd = head + sizeF ((ls.length : Int) - 1) wd + ls.sum := by
  unfold fieldsF
  rw [if_pos ⟨h1, h2, h3, h4⟩]
set_option maxRecDepth 100000 in
set_option maxHeartbeats 3200000 in
theorem rfields_any {A : Option Addr} {L : List RowB} (n cap : Nat) (head wd : Int) (w : World) (hL : L.length = n) (hn : n ≤ 40) (hsum : (lens L).sum ≤ 9000) (h0 : 0 ≤ head) (h5 : head ≤ 5) (hs : RSrc w A L) :
    Calls Try.prog 57 #[.slice A n cap, .int .i64 head, .int .i64 wd] w fun e w' => e = .returned (.int .i64 (fieldsF (lens L) head wd)) ∧ w = w' := by
  have hll : (lens L).length = n := by rw [length_lens, hL]
  rcases Nat.eq_zero_or_pos n with hn0 | hn0
  · have HF := Lib.hid (show fieldsF (lens L) head wd = 0 by unfold fieldsF; rw [if_neg (by omega)])
    subst hn0
    clear hs hsum hL hll
    go_enter Try.func57, Try.ntmps57
    go_wp2
    go_ret
    exact ⟨by rw [HF.out]; rfl, rfl⟩
  · have hn1 : ¬ (n : Int) < 1 := by omega
    rcases Nat.lt_or_ge 24 n with h24 | h24
    · have HF := Lib.hid (show fieldsF (lens L) head wd = 0 by unfold fieldsF; rw [if_neg (by omega)])
      have h24' : (24 : Int) < n := by omega
      clear hs hsum hL hll
      go_enter Try.func57, Try.ntmps57
      go_wp2
      go_ret
      exact ⟨by rw [HF.out]; rfl, rfl⟩
    · have h24' : ¬ (24 : Int) < n := by omega
      have HS := Lib.hid hs
      have HL := Lib.hid hL
      have HLL := Lib.hid hll
      have hz := sizeF_nonneg ((n : Int) - 1) wd
      have HZ := Lib.hid (fun W => refsize_any ((n : Int) - 1) wd W)
      have HSUM := Lib.hid hsum
      have HFB := Lib.hid (fun (h : okTo (lens L) n = false ∨ 4000 < head + sizeF ((n : Int) - 1) wd + (lens L).sum) => (show fieldsF (lens L) head wd = 0 from fieldsF_bad (by rw [hll]; exact h)))
      have HFG := Lib.hid (fun (h3 : okTo (lens L) n = true) (h4 : head + sizeF ((n : Int) - 1) wd + (lens L).sum ≤ 4000) => (show fieldsF (lens L) head wd = head + sizeF ((n : Int) - 1) wd + (lens L).sum from by
        have h9 := fieldsF_good (ls := lens L) (head := head) (wd := wd) (by omega) (by omega) (by rw [hll]; exact h3) (by rw [hll]; exact h4)
        rw [hll] at h9
        exact h9))
      have hs0 : n = 1 → sizeF ((n : Int) - 1) wd = 0 := fun e => by
        subst e
        unfold sizeF
        simp
      generalize sizeF ((n : Int) - 1) wd = z at *
      obtain ⟨hz0, hz1⟩ := hz
      have HALL := Lib.hid (show sumTo (lens L) n = (lens L).sum by rw [← hll]; exact sumTo_all _)
      clear hs hL hll hsum
      have body : ∀ (q0 : Int), q0 = head + z → 0 ≤ q0 → q0 ≤ 4000 → True := fun _ _ _ _ => trivial
      clear body
      by_cases hn2 : n = 1
      · have hz2 := hs0 hn2
        have hn2' : ¬ (1 : Int) < n := by omega
        have HZ0 := Lib.hid hz2
        clear hs0 hn2 hz2 HZ
        go_enter Try.func57, Try.ntmps57
        go_wp2
        go_loopw [8, 9] (fun v iv wr => ∃ (k : Nat) (q : Int), k ≤ n ∧ iv = .int .i64 k ∧ v = .int .i64 q ∧ 0 ≤ q ∧ q ≤ 4000 ∧ Hid (q = head + z + sumTo (lens L) k ∧ okTo (lens L) k = true) ∧ w = wr) (fun _ iv _ => n - (intOf iv).toNat)
        case atStart => exact ⟨0, head, by omega, rfl, rfl, h0, by omega, Lib.hid ⟨by rw [sumTo_zero, HZ0.out]; omega, okTo_zero _⟩, rfl⟩
        case round =>
          obtain ⟨k, q, hk, rfl, rfl, hq0, hq1, HK, rfl⟩ := hrel
          by_cases hlt : k < n
          · obtain ⟨ad, rfl, hc⟩ := HS.out (by rw [HL.out]; omega)
            obtain ⟨r, hr⟩ : ∃ r, L[k]? = some r := ⟨_, List.getElem?_eq_getElem (by rw [HL.out]; exact hlt)⟩
            have hcell : w.cell? (ad.add k) = some (.slice r.A r.bs.length r.cap) := (hc k r hr).1
            have HSU := Lib.hid (sumTo_succ (lens_at hr))
            have HOK := Lib.hid (okTo_at (lens_at hr) HK.out.2)
            rw [HLL.out] at HOK
            have HLE := Lib.hid (sumTo_le (lens L) (k + 1))
            have hlm : r.bs.length ≤ 9000 := by have := HLE.out; have := HSU.out; have := HSUM.out; omega
            clear hc hr
            generalize r.bs.length = len at *
            rcases Nat.eq_zero_or_pos len with hl0 | hl0
            · have HB := Lib.hid (HFB.out (.inl (okTo_later (k := k + 1) (by rw [HOK.out]; unfold okAt; rw [decide_eq_false (by omega)]; rfl) (by omega))))
              subst hl0
              go_wp2
              go_ret
              exact ⟨by rw [HB.out]; rfl, rfl⟩
            · have hl1 : ((len : Int) == 0) = false := by simp; omega
              by_cases hlast : k + 1 < n
              · have hlast' : (k : Int) + 1 < n := by omega
                by_cases h2047 : 2047 < len
                · have h2047' : (2047 : Int) < len := by omega
                  have HB := Lib.hid (HFB.out (.inl (okTo_later (k := k + 1) (by rw [HOK.out]; unfold okAt; rw [if_neg (by omega), decide_eq_false (show ¬ len ≤ 2047 by omega)]; simp) (by omega))))
                  go_wp2
                  go_ret
                  exact ⟨by rw [HB.out]; rfl, rfl⟩
                · have h2047' : ¬ (2047 : Int) < len := by omega
                  by_cases h4 : 4000 < q + len
                  · have HB := Lib.hid (HFB.out (.inr (by have := HLE.out; have := HSU.out; have := HK.out.1; omega)))
                    go_wp2
                    go_ret
                    exact ⟨by rw [HB.out]; rfl, rfl⟩
                  · have HOK2 := Lib.hid (show okTo (lens L) (k + 1) = true by rw [HOK.out]; unfold okAt; rw [if_neg (by omega), decide_eq_true (show 1 ≤ len by omega), decide_eq_true (show len ≤ 2047 by omega)]; rfl)
                    go_wp2
                    go_roundw
                    case rel => exact ⟨k + 1, q + len, by omega, by go_num, rfl, by omega, by omega, Lib.hid ⟨by rw [HSU.out, HK.out.1]; omega, HOK2.out⟩, trivial⟩
                    case measure => simp [intOf]; omega
              · have hlast' : ¬ (k : Int) + 1 < n := by omega
                by_cases h4 : 4000 < q + len
                · have HB := Lib.hid (HFB.out (.inr (by have := HLE.out; have := HSU.out; have := HK.out.1; omega)))
                  go_wp2
                  go_ret
                  exact ⟨by rw [HB.out]; rfl, rfl⟩
                · have HOK2 := Lib.hid (show okTo (lens L) (k + 1) = true by rw [HOK.out]; unfold okAt; rw [if_pos (by omega), decide_eq_true (show 1 ≤ len by omega), decide_eq_true (show len ≤ 4000 by omega)]; rfl)
                  go_wp2
                  go_roundw
                  case rel => exact ⟨k + 1, q + len, by omega, by go_num, rfl, by omega, by omega, Lib.hid ⟨by rw [HSU.out, HK.out.1]; omega, HOK2.out⟩, trivial⟩
                  case measure => simp [intOf]; omega
          · have hkn : k = n := by omega
            have h9 := HK.out
            rw [hkn, HALL.out] at h9
            have HG := Lib.hid (HFG.out h9.2 (by omega))
            have HQ := Lib.hid h9.1
            clear hkn h9
            go_wp2
            go_ret
            exact ⟨ret_int (by rw [HG.out, HQ.out]), rfl⟩

      · have hn2' : (1 : Int) < n := by omega
        clear hs0
        go_enter Try.func57, Try.ntmps57
        go_wp2_with (go_at_call 113; refine (HZ.out _).mono ?_; rintro e w1 ⟨rfl, rfl⟩)
        go_loopw [8, 9] (fun v iv wr => ∃ (k : Nat) (q : Int), k ≤ n ∧ iv = .int .i64 k ∧ v = .int .i64 q ∧ 0 ≤ q ∧ q ≤ 4000 ∧ Hid (q = head + z + sumTo (lens L) k ∧ okTo (lens L) k = true) ∧ w = wr) (fun _ iv _ => n - (intOf iv).toNat)
        case atStart => exact ⟨0, head + z, by omega, rfl, rfl, by omega, by omega, Lib.hid ⟨by rw [sumTo_zero]; omega, okTo_zero _⟩, rfl⟩
        case round =>
          obtain ⟨k, q, hk, rfl, rfl, hq0, hq1, HK, rfl⟩ := hrel
          by_cases hlt : k < n
          · obtain ⟨ad, rfl, hc⟩ := HS.out (by rw [HL.out]; omega)
            obtain ⟨r, hr⟩ : ∃ r, L[k]? = some r := ⟨_, List.getElem?_eq_getElem (by rw [HL.out]; exact hlt)⟩
            have hcell : w.cell? (ad.add k) = some (.slice r.A r.bs.length r.cap) := (hc k r hr).1
            have HSU := Lib.hid (sumTo_succ (lens_at hr))
            have HOK := Lib.hid (okTo_at (lens_at hr) HK.out.2)
            rw [HLL.out] at HOK
            have HLE := Lib.hid (sumTo_le (lens L) (k + 1))
            have hlm : r.bs.length ≤ 9000 := by have := HLE.out; have := HSU.out; have := HSUM.out; omega
            clear hc hr
            generalize r.bs.length = len at *
            rcases Nat.eq_zero_or_pos len with hl0 | hl0
            · have HB := Lib.hid (HFB.out (.inl (okTo_later (k := k + 1) (by rw [HOK.out]; unfold okAt; rw [decide_eq_false (by omega)]; rfl) (by omega))))
              subst hl0
              go_wp2
              go_ret
              exact ⟨by rw [HB.out]; rfl, rfl⟩
            · have hl1 : ((len : Int) == 0) = false := by simp; omega
              by_cases hlast : k + 1 < n
              · have hlast' : (k : Int) + 1 < n := by omega
                by_cases h2047 : 2047 < len
                · have h2047' : (2047 : Int) < len := by omega
                  have HB := Lib.hid (HFB.out (.inl (okTo_later (k := k + 1) (by rw [HOK.out]; unfold okAt; rw [if_neg (by omega), decide_eq_false (show ¬ len ≤ 2047 by omega)]; simp) (by omega))))
                  go_wp2
                  go_ret
                  exact ⟨by rw [HB.out]; rfl, rfl⟩
                · have h2047' : ¬ (2047 : Int) < len := by omega
                  by_cases h4 : 4000 < q + len
                  · have HB := Lib.hid (HFB.out (.inr (by have := HLE.out; have := HSU.out; have := HK.out.1; omega)))
                    go_wp2
                    go_ret
                    exact ⟨by rw [HB.out]; rfl, rfl⟩
                  · have HOK2 := Lib.hid (show okTo (lens L) (k + 1) = true by rw [HOK.out]; unfold okAt; rw [if_neg (by omega), decide_eq_true (show 1 ≤ len by omega), decide_eq_true (show len ≤ 2047 by omega)]; rfl)
                    go_wp2
                    go_roundw
                    case rel => exact ⟨k + 1, q + len, by omega, by go_num, rfl, by omega, by omega, Lib.hid ⟨by rw [HSU.out, HK.out.1]; omega, HOK2.out⟩, trivial⟩
                    case measure => simp [intOf]; omega
              · have hlast' : ¬ (k : Int) + 1 < n := by omega
                by_cases h4 : 4000 < q + len
                · have HB := Lib.hid (HFB.out (.inr (by have := HLE.out; have := HSU.out; have := HK.out.1; omega)))
                  go_wp2
                  go_ret
                  exact ⟨by rw [HB.out]; rfl, rfl⟩
                · have HOK2 := Lib.hid (show okTo (lens L) (k + 1) = true by rw [HOK.out]; unfold okAt; rw [if_pos (by omega), decide_eq_true (show 1 ≤ len by omega), decide_eq_true (show len ≤ 4000 by omega)]; rfl)
                  go_wp2
                  go_roundw
                  case rel => exact ⟨k + 1, q + len, by omega, by go_num, rfl, by omega, by omega, Lib.hid ⟨by rw [HSU.out, HK.out.1]; omega, HOK2.out⟩, trivial⟩
                  case measure => simp [intOf]; omega
          · have hkn : k = n := by omega
            have h9 := HK.out
            rw [hkn, HALL.out] at h9
            have HG := Lib.hid (HFG.out h9.2 (by omega))
            have HQ := Lib.hid h9.1
            clear hkn h9
            go_wp2
            go_ret
            exact ⟨ret_int (by rw [HG.out, HQ.out]), rfl⟩

end Go.Proofs.Ytdlgceddhlagnaa
namespace Go.Proofs.Ytdlgceddhlagnaa
open Go.RowKit
theorem okn_case {P : Prop} (wd sn : Int) (h0 : okn wd sn = false → P) (h1 : okn wd sn = true → P) : P := by
  cases h : okn wd sn
  · exact h0 h
  · exact h1 h
/-- the lengths of all but the last, in a list of the call's own -/
theorem insN_take_succ {ls : List Nat} {k m : Nat} (h : ls[k]? = some m) : insN (ls.take (k + 1)) = insN (ls.take k) ++ [.int .i64 m] := by
  obtain ⟨hk, rfl⟩ := List.getElem?_eq_some_iff.1 h
  rw [List.take_succ_eq_append_getElem hk]
  simp only [insN, List.map_append, List.map_cons, List.map_nil]
theorem rlens_write {A : Option Addr} {l : List Nat} (wd n cap : Nat) (wi : Int) (w : World) (h : wd = 11 ∨ wd = 15) (e : wi = wd) (hn : l.length = n) (h0 : 1 ≤ n) (h23 : n ≤ 23) (hl : ∀ x ∈ l, 1 ≤ x ∧ x < 2048) (hs : Src w A (insN l)) :
    Calls Try.prog 124 #[.slice A n cap, .int .i64 wi] w fun e w' => ∃ (A' : Option Addr) (c' k : Nat), e = .returned (.tuple #[.slice A' k c', .int .i64 0]) ∧ k = (pack (wbl wd l)).length ∧ OwnY w.heap.size w' (.slice A' k c') (pack (wbl wd l)) ∧ Below w.heap.size w w' := by
  subst e
  have hf : ∀ q : Nat, (q = 11 ∨ q = 15) → faultF (l.map (fun n : Nat => (n : Int))) q = 0 := fun q hq => by
    unfold faultF
    rw [List.length_map, hn, if_neg (by omega), if_neg (by omega), if_pos]
    rw [List.all_eq_true]
    intro x hx
    rw [List.mem_map] at hx
    obtain ⟨y, hy, rfl⟩ := hx
    have := hl y hy
    unfold mayL
    rw [decide_eq_true (by omega), decide_eq_true (by rcases hq with rfl | rfl <;> simp <;> omega)]
    rfl
  have hm : (l.map (fun n : Nat => (n : Int))).map Int.toNat = l := by
    rw [List.map_map]
    have : l.map (Int.toNat ∘ fun n : Nat => (n : Int)) = l.map id := List.map_congr_left fun x _ => by show ((x : Int)).toNat = x; omega
    rw [this, List.map_id]
  have hsi : Src w A (ins (l.map (fun n : Nat => (n : Int)))) := hs
  have fin : ∀ q : Nat, q = wd → ∀ e w', (((faultF (l.map (fun n : Nat => (n : Int))) q = 0 ∧ ∃ x, e = Ending.returned (.tuple #[x, .int .i64 0]) ∧ w'.ownsRow w.heap.size 5 1 x (packLen (n * (q + 1))) (bts (pack (wbl q ((l.map (fun n : Nat => (n : Int))).map Int.toNat))))) ∨ (faultF (l.map (fun n : Nat => (n : Int))) q ≠ 0 ∧ e = .returned (.tuple #[.slice none 0 0, .int .i64 (faultF (l.map (fun n : Nat => (n : Int))) q)]))) ∧ Below w.heap.size w w') → ∃ (A' : Option Addr) (c' k : Nat), e = .returned (.tuple #[.slice A' k c', .int .i64 0]) ∧ k = (pack (wbl wd l)).length ∧ OwnY w.heap.size w' (.slice A' k c') (pack (wbl wd l)) ∧ Below w.heap.size w w' := by
    rintro q rfl e w' ⟨h1 | h1, hb⟩
    · obtain ⟨_, x, rfl, ho⟩ := h1
      rw [hm] at ho
      have hpl : (pack (wbl q l)).length = packLen (n * (q + 1)) := by rw [length_pack, length_wbl, hn]
      have hoy : OwnY w.heap.size w' x (pack (wbl q l)) := by unfold OwnY; rw [hpl]; exact ho
      obtain ⟨A', c', rfl, _⟩ := hoy.form
      exact ⟨A', c', _, rfl, rfl, hoy, hb⟩
    · exact absurd (hf q h) h1.1
  rcases h with rfl | rfl
  · exact (refwrite_11 n cap w (by rw [List.length_map]; exact hn) (by unfold maxLen; omega) hsi).mono fun e w' h => fin 11 rfl e w' h
  · exact (refwrite_15 n cap w (by rw [List.length_map]; exact hn) (by unfold maxLen; omega) hsi).mono fun e w' h => fin 15 rfl e w' h

theorem app_bytes2 {B : Nat} {W : World} {A0 A : Option Addr} {c0 m c n : Nat} {l y : List Nat} (hv : OwnY B W (.slice A0 n c0) l) (hn : l.length = n) (hB : B ≤ W.heap.size) (hs : Src W A (bts y)) (hm : y.length = m) (hlm : n + m ≤ 1000000000) :
    ∃ A' c' W', (Builtin.append_ #[28, 28] 28 #[.slice A0 n c0, .slice A m c]).run Try.prog W = .ok (.slice A' (n + m) c') W' ∧ OwnY B W' (.slice A' (n + m) c') (l ++ y) ∧ (l ++ y).length = n + m ∧ Below B W W' := by
  obtain ⟨A', c', W', h1, h2, h3, _, _⟩ := app_bytes m c hv hB hs hm (by omega)
  rw [hn] at h1 h2
  exact ⟨A', c', W', h1, h2, by rw [List.length_append, hn, hm], h3⟩

end Go.Proofs.Ytdlgceddhlagnaa
namespace Go.Proofs.Ytdlgceddhlagnaa
open Go.RowKit

theorem app_e0 {B : Nat} {V : World} {e : Nat} (hB : B ≤ e) (h : Row V e 5 #[]) : OwnY B V (.slice (some ⟨e, 0, none⟩) 0 0) [] :=
  ⟨by simp [bts], .inr ⟨e, 0, #[], rfl, hB, h, Nat.le_refl _, by simp [maxLen], rfl, by simp [bts]⟩⟩
def Run2 (W : World) (V : World) (E C : Nat) (A : Option Addr) (m cap : Nat) (bs : List Nat) (b : Nat) : Prop :=
  ∃ A1 c1 w1, (Builtin.append_ #[28, 28] 28 #[.slice (some ⟨E, 0, none⟩) 0 0, .slice A m cap]).run Try.prog V = .ok (.slice A1 m c1) w1 ∧
    ∃ A2 c2 w2, (Builtin.append_ #[28, 28] 28 #[.slice A1 m c1, .slice (some ⟨C, 0, none⟩) 1 1]).run Try.prog w1 = .ok (.slice A2 (m + 1) c2) w2 ∧ OwnY W.heap.size w2 (.slice A2 (m + 1) c2) (bs ++ [b]) ∧ m + 1 ≤ c2 ∧ c2 ≤ 9223372036854775807 ∧ Below W.heap.size W w2 ∧ Below W.heap.size W w1
theorem run2_of {W V : World} {E C : Nat} {A : Option Addr} {m cap : Nat} {bs : List Nat} {b : Nat} (hWV : Below W.heap.size W V) (hE : W.heap.size ≤ E) (hEr : Row V E 5 #[]) (hC : Row V C 5 #[.int .u8 b]) (hCE : C ≠ E) (hs : Src W A (bts bs)) (hm : bs.length = m) (hm9 : m ≤ 9000) : Run2 W V E C A m cap bs b := by
  obtain ⟨A1, c1, w1, h1, h2, h3, h4, h5⟩ := app_bytes (l := []) m cap (app_e0 hE hEr) hWV.size (src_later hs hWV) hm (by simp; omega)
  simp only [List.length_nil, Nat.zero_add, List.nil_append] at h1 h2 h5
  have hC1 : Row w1 C 5 #[.int .u8 b] := hC.only h4 (fun h => hCE (by simp [Value.ownBlock] at h; exact h.symm))
  have hsz1 : W.heap.size ≤ w1.heap.size := Nat.le_trans hWV.size h4.size
  obtain ⟨A2, c2, w2, k1, k2, _, k3⟩ := app_bytes2 (c := 1) h2 hm hsz1 (show Src w1 (some ⟨C, 0, none⟩) (bts [b]) from row_src (xs := bts [b]) hC1) rfl (by simp <;> omega)
  obtain ⟨A2', c2', e, q1, q2⟩ := k2.form
  injection e with e1 e2 e3
  subst e1 e3
  unfold maxLen at q2
  have hl : (bs ++ [b]).length = m + 1 := by simp [hm]
  rw [hl] at q1
  exact ⟨A1, c1, w1, h1, A2, c2, w2, k1, k2, q1, by omega, (hWV.trans h3).trans k3, hWV.trans h3⟩
/-- the order: the empty one, the append, the byte, the append -/
def Run2' (W : World) (E : Nat) (A : Option Addr) (m cap : Nat) (bs : List Nat) (b : Nat) : Prop :=
  ∃ A1 c1 w1, (Builtin.append_ #[28, 28] 28 #[.slice (some ⟨E, 0, none⟩) 0 0, .slice A m cap]).run Try.prog (W.alloc (.cells #[] 5)) = .ok (.slice A1 m c1) w1 ∧
    ∃ A2 c2 w2, (Builtin.append_ #[28, 28] 28 #[.slice A1 m c1, .slice (some ⟨w1.heap.size, 0, none⟩) 1 1]).run Try.prog (w1.alloc (.cells #[.int .u8 b] 5)) = .ok (.slice A2 (m + 1) c2) w2 ∧ OwnY W.heap.size w2 (.slice A2 (m + 1) c2) (bs ++ [b]) ∧ m + 1 ≤ c2 ∧ c2 ≤ 9223372036854775807 ∧ Below W.heap.size W w2 ∧ Below W.heap.size W w1
theorem run2_of' {W : World} {A : Option Addr} {m cap : Nat} {bs : List Nat} {b : Nat} (hs : Src W A (bts bs)) (hm : bs.length = m) (hm9 : m ≤ 9000) : Run2' W W.heap.size A m cap bs b := by
  have hWV := bl_alloc (Below.refl W.heap.size W) (.cells #[] 5)
  obtain ⟨A1, c1, w1, h1, h2, h3, h4, h5⟩ := app_bytes (l := []) m cap (app_e0 (Nat.le_refl _) (Row.made W 5 #[])) hWV.size (src_later hs hWV) hm (by simp; omega)
  simp only [List.length_nil, Nat.zero_add, List.nil_append] at h1 h2 h5
  have hsz1 : W.heap.size ≤ w1.heap.size := Nat.le_trans hWV.size h4.size
  have hal := bl_alloc (Below.refl w1.heap.size w1) (.cells #[.int .u8 b] 5)
  obtain ⟨A2, c2, w2, k1, k2, _, k3⟩ := app_bytes2 (c := 1) (show OwnY W.heap.size (w1.alloc (.cells #[.int .u8 b] 5)) (.slice A1 m c1) bs from h2.later hal) hm (Nat.le_trans hsz1 hal.size) (show Src (w1.alloc (.cells #[.int .u8 b] 5)) (some ⟨w1.heap.size, 0, none⟩) (bts [b]) from row_src (xs := bts [b]) (Row.made w1 5 _)) rfl (by simp <;> omega)
  obtain ⟨A2', c2', e, q1, q2⟩ := k2.form
  injection e with e1 e2 e3
  subst e1 e3
  unfold maxLen at q2
  have hl : (bs ++ [b]).length = m + 1 := by simp [hm]
  rw [hl] at q1
  exact ⟨A1, c1, w1, h1, A2, c2, w2, k1, k2, q1, by omega, ((hWV.trans h3).trans (hal.mono hsz1)).trans k3, hWV.trans h3⟩
theorem lens_set {L : List RowB} {k : Nat} {r r' : RowB} (hk : L.length = k + 1) (hr : L[k]? = some r) (hl : r'.bs.length = r.bs.length + 1) : lens (L.set k r') = grown (lens L) := by
  have e1 : (lens L).length - 1 = k := by rw [length_lens, hk]; rfl
  have e2 : (lens L).getD k 0 = r.bs.length := by rw [List.getD_eq_getElem?_getD, lens_at hr]; rfl
  unfold grown
  rw [e1, e2, ← hl]
  simp [lens, List.map_set]
theorem rows_set {w : World} {B g n c k : Nat} {L : List RowB} {r' : RowB} (h : w.ownsRow B 28 1 (.slice (some ⟨g, 0, none⟩) n c) n (L.map RowB.v)) (hok : ∀ r ∈ L, r.ok (w.setCell ⟨g, k, none⟩ r'.v)) (hr' : r'.ok (w.setCell ⟨g, k, none⟩ r'.v)) :
    RSrc (w.setCell ⟨g, k, none⟩ r'.v) (some ⟨g, 0, none⟩) (L.set k r') := by
  have h1 := (h.stored k r'.v).1
  intro h0
  refine ⟨_, rfl, fun j r hr => ⟨?_, ?_⟩⟩
  · exact h1.cells (g := g) rfl j _ (by rw [← List.map_set, List.getElem?_map, hr]; rfl)
  · rcases List.mem_or_eq_of_mem_set (List.mem_of_getElem? hr) with h9 | h9
    · exact hok r h9
    · rw [h9]; exact hr'
theorem placed_box {v w3 : World} {P q B g n c : Nat} {a b d x0 x1 x2 : Value} {cs : Array Value} {xs : List Value} (hZ : Row v P 24 #[x0, x1, x2]) (hQ : Row v q 24 cs) (hq : q ≠ P) (hO : v.ownsRow B 28 1 (.slice (some ⟨g, 0, none⟩) n c) n xs) (hb : Below B w3 v) (hBP : B ≤ P) :
    Row (((v.setCell ⟨P, 0, none⟩ a).setCell ⟨P, 1, none⟩ b).setCell ⟨P, 2, none⟩ d) P 24 #[a, b, d] ∧ Row (((v.setCell ⟨P, 0, none⟩ a).setCell ⟨P, 1, none⟩ b).setCell ⟨P, 2, none⟩ d) q 24 cs ∧
    (((v.setCell ⟨P, 0, none⟩ a).setCell ⟨P, 1, none⟩ b).setCell ⟨P, 2, none⟩ d).ownsRow B 28 1 (.slice (some ⟨g, 0, none⟩) n c) n xs ∧ Below B w3 (((v.setCell ⟨P, 0, none⟩ a).setCell ⟨P, 1, none⟩ b).setCell ⟨P, 2, none⟩ d) := by
  have hg : g ≠ P := by
    rcases hO.2 with ⟨h, _⟩ | ⟨g', cap, cs', h1, h2, h3, _⟩
    · exact absurd h (by simp)
    · injection h1 with h1 h4 h5
      injection h1 with h1
      injection h1 with h1
      subst h1
      exact Row.apart (show Row v g 28 cs' from h3) hZ (by decide)
  have o : ∀ w' : World, w'.ownsRow B 28 1 (.slice (some ⟨g, 0, none⟩) n c) n xs → ∀ i u, (w'.setCell ⟨P, i, none⟩ u).ownsRow B 28 1 (.slice (some ⟨g, 0, none⟩) n c) n xs := fun w' h i u => ownsRow_setCell_other h (by simp [Value.ownBlock]; exact hg) u
  exact ⟨((hZ.written 0 a).written 1 b).written 2 d, ((hQ.elsewhere hq a).elsewhere hq b).elsewhere hq d, o _ (o _ (o _ hO 0 a) 1 b) 2 d, ((hb.setCell hBP a).setCell hBP b).setCell hBP d⟩
def GotP (w : World) (ad : Addr) (L : List RowB) (fi sn : Int) (n cap P g c : Nat) (V : World) : Prop :=
  w.heap.size < P ∧ g ≠ P ∧ w.heap.size < g ∧ Row V P 24 #[.int .i64 fi, .int .i64 sn, .slice (some ⟨g, 0, none⟩) n c] ∧ Row V w.heap.size 24 #[.int .i64 fi, .int .i64 sn, .slice (some ad) n cap] ∧
    V.ownsRow (w.heap.size + 1) 28 1 (.slice (some ⟨g, 0, none⟩) n c) n (L.map RowB.v) ∧ Below w.heap.size w V
theorem own_g {v : World} {B g n c : Nat} {xs : List Value} (hO : v.ownsRow B 28 1 (.slice (some ⟨g, 0, none⟩) n c) n xs) : ∃ cs, Row v g 28 cs ∧ B ≤ g := by
  rcases hO.2 with ⟨h, _⟩ | ⟨g', cap, cs', h1, h2, h3, _⟩
  · exact absurd h (by simp)
  · injection h1 with h1 h4 h5
    injection h1 with h1
    injection h1 with h1
    subst h1
    exact ⟨cs', h3, h2⟩
theorem gotA {w w3 v : World} {ad : Addr} {L : List RowB} {fi sn : Int} {n cap g c : Nat} (hlt : w.heap.size < w3.heap.size) (hw3 : Below w.heap.size w w3) (hQ : Row v w.heap.size 24 #[.int .i64 fi, .int .i64 sn, .slice (some ad) n cap]) (hO : v.ownsRow w3.heap.size 28 1 (.slice (some ⟨g, 0, none⟩) n c) n (L.map RowB.v)) (hb : Below w3.heap.size w3 v) :
    GotP w ad L fi sn n cap v.heap.size g c (v.alloc (.cells #[.int .i64 fi, .int .i64 sn, .slice (some ⟨g, 0, none⟩) n c] 24)) := by
  obtain ⟨cs, h1, h2⟩ := own_g hO
  have h3 := hb.size
  have h4 := h1.inside
  exact ⟨by omega, by omega, by omega, Row.made _ _ _, hQ.more _, own_later2 (own_down hO (by omega)) (bl_alloc (Below.refl _ _) _), bl_step hw3 (bl_alloc hb _)⟩
theorem gotB {w w3 v : World} {ad : Addr} {L : List RowB} {fi sn : Int} {x0 x1 x2 : Value} {n cap P g c : Nat} (hlt : w.heap.size < w3.heap.size) (hw3 : Below w.heap.size w w3) (hP : w3.heap.size ≤ P) (hZ : Row v P 24 #[x0, x1, x2]) (hQ : Row v w.heap.size 24 #[.int .i64 fi, .int .i64 sn, .slice (some ad) n cap]) (hO : v.ownsRow w3.heap.size 28 1 (.slice (some ⟨g, 0, none⟩) n c) n (L.map RowB.v)) (hb : Below w3.heap.size w3 v) :
    GotP w ad L fi sn n cap P g c (((v.setCell ⟨P, 0, none⟩ (.int .i64 fi)).setCell ⟨P, 1, none⟩ (.int .i64 sn)).setCell ⟨P, 2, none⟩ (.slice (some ⟨g, 0, none⟩) n c)) := by
  obtain ⟨cs, h1, h2⟩ := own_g hO
  have h3 := h1.apart hZ (by decide)
  obtain ⟨k1, k2, k3, k4⟩ := placed_box (a := .int .i64 fi) (b := .int .i64 sn) (d := .slice (some ⟨g, 0, none⟩) n c) hZ hQ (by omega) hO hb hP
  exact ⟨by omega, h3, by omega, k1, k2, own_down k3 (by omega), bl_step hw3 k4⟩
def Kp6 (w : World) (ad : Addr) (n cap P g c k : Nat) (u : Value) (V : World) : Prop :=
  (V.cell? ⟨w.heap.size, 2, none⟩ = some (.slice (some ad) n cap) ∧ V.cell? ⟨P, 2, none⟩ = some (.slice (some ⟨g, 0, none⟩) n c) ∧ V.cell? (ad.add k) = some u) ∧ V.cell? ⟨g, k, none⟩ = some u ∧ V.frozen? ⟨g, k, none⟩ = false
theorem kp6 {w V V' : World} {ad : Addr} {L : List RowB} {fi sn : Int} {n cap P g c k : Nat} {r : RowB} (h : GotP w ad L fi sn n cap P g c V) (hs : RSrc w (some ad) L) (hr : L[k]? = some r) (hb : Below V.heap.size V V') : Kp6 w ad n cap P g c k r.v V' := by
  obtain ⟨_, _, _, h1, h2, h3, h4⟩ := h
  obtain ⟨cs, q1, q2⟩ := own_g h3
  have hk := (List.getElem?_eq_some_iff.1 hr).1
  have hn := h3.1
  rw [List.length_map, Nat.mul_one] at hn
  obtain ⟨ad', hx, hc⟩ := (hs.later (h4.trans (hb.mono h4.size))) (by omega)
  injection hx with hx
  subst hx
  exact ⟨⟨(h2.later hb).read rfl, (h1.later hb).read rfl, (hc k r hr).1⟩, ((own_later2 h3 hb).cellAt k (by omega)).trans (by rw [List.getElem?_map, hr]; rfl), (q1.later hb).free k⟩
theorem six {w V : World} {ad : Addr} {L : List RowB} {fi sn : Int} {n cap P g c k b m cp : Nat} {A : Option Addr} {bs : List Nat} (h : GotP w ad L fi sn n cap P g c V) (hs : RSrc w (some ad) L) (hr : L[k]? = some ⟨A, cp, bs⟩) (hm : bs.length = m) (hm9 : m ≤ 9000) :
    Run2 V ((V.drew.alloc (.cells #[] 5)).alloc (.cells #[.int .u8 b] 5)) V.heap.size (V.heap.size + 1) A m cp bs b ∧ Run2 V ((V.drew.alloc (.cells #[.int .u8 b] 5)).alloc (.cells #[] 5)) (V.heap.size + 1) V.heap.size A m cp bs b ∧ Run2' V.drew V.heap.size A m cp bs b := by
  obtain ⟨_, _, _, _, _, _, h4⟩ := h
  have hk := (List.getElem?_eq_some_iff.1 hr).1
  obtain ⟨ad', hx, hc⟩ := (hs.later h4) (by omega)
  have hS : Src V A (bts bs) := (hc k _ hr).2.1
  have hD : Below V.heap.size V V.drew := bl_drew (Below.refl _ _)
  have e1 : (V.drew.alloc (.cells #[] 5)).heap.size = V.heap.size + 1 := by simp
  have e2 : (V.drew.alloc (.cells #[.int .u8 b] 5)).heap.size = V.heap.size + 1 := by simp
  refine ⟨run2_of (bl_alloc (bl_alloc hD _) _) (Nat.le_refl _) ((Row.made V.drew _ _).more _) ?_ (by omega) hS hm hm9, run2_of (bl_alloc (bl_alloc hD _) _) (Nat.le_succ _) ?_ ((Row.made V.drew _ _).more _) (by omega) hS hm hm9, run2_of' (W := V.drew) hS hm hm9⟩
  · have h := Row.made (V.drew.alloc (.cells #[] 5)) 5 #[.int .u8 b]
    rwa [e1] at h
  · have h := Row.made (V.drew.alloc (.cells #[.int .u8 b] 5)) 5 #[]
    rwa [e2] at h
def GotQ (w : World) (L' : List RowB) (fi sn : Int) (n P g c : Nat) (V : World) : Prop :=
  Row V P 24 #[.int .i64 fi, .int .i64 sn, .slice (some ⟨g, 0, none⟩) n c] ∧ RSrc V (some ⟨g, 0, none⟩) L' ∧ Below w.heap.size w V
theorem after6 {w V V' : World} {ad : Addr} {L : List RowB} {fi sn : Int} {n cap P g c k b m c2 cp : Nat} {A A2 : Option Addr} {bs : List Nat} (h : GotP w ad L fi sn n cap P g c V) (hs : RSrc w (some ad) L) (hr : L[k]? = some ⟨A, cp, bs⟩) (hm : bs.length = m) (hb : b < 256)
    (ho : OwnY V.heap.size V' (.slice A2 (m + 1) c2) (bs ++ [b])) (h1 : m + 1 ≤ c2) (h2 : c2 ≤ 9223372036854775807) (hB : Below V.heap.size V V') :
    GotQ w (L.set k ⟨A2, c2, bs ++ [b]⟩) fi sn n P g c (V'.setCell ⟨g, k, none⟩ (.slice A2 (m + 1) c2)) := by
  obtain ⟨h0, hg, hg1, h3, h4, h5, h6⟩ := h
  obtain ⟨cs, q1, q2⟩ := own_g h5
  have hk := (List.getElem?_eq_some_iff.1 hr).1
  have hl : (bs ++ [b]).length = m + 1 := by simp [hm]
  have hbv : Below w.heap.size w (V'.setCell ⟨g, k, none⟩ (.slice A2 (m + 1) c2)) := (h6.trans (hB.mono h6.size)).setCell (by show w.heap.size ≤ g; omega) _
  have ev : (RowB.mk A2 c2 (bs ++ [b])).v = .slice A2 (m + 1) c2 := by unfold RowB.v; rw [hl]
  obtain ⟨ad', hx, hc⟩ := hs (by omega)
  have ho' : OwnY V.heap.size (V'.setCell ⟨g, k, none⟩ (.slice A2 (m + 1) c2)) (.slice A2 (m + 1) c2) (bs ++ [b]) := ownsRow_setCell_below ho q1.inside _
  refine ⟨(h3.later hB).elsewhere (fun h => hg h.symm) _, ?_, hbv⟩
  have key := rows_set (w := V') (k := k) (r' := ⟨A2, c2, bs ++ [b]⟩) (own_later2 h5 hB) (by
    rw [ev]
    intro r hr'
    obtain ⟨j, hj⟩ := List.getElem?_of_mem hr'
    exact (hc j r hj).2.later hbv) (by
    rw [ev]
    refine ⟨ho'.src, by rw [hl]; exact h1, h2, ?_⟩
    intro x hx
    rw [List.mem_append, List.mem_singleton] at hx
    rcases hx with hx | rfl
    · exact (hc k _ hr).2.2.2.2 x hx
    · exact hb)
  rw [ev] at key
  exact key
theorem le_sum_at {l : List Nat} {k x : Nat} (h : l[k]? = some x) : x ≤ l.sum := by
  induction l generalizing k with
  | nil => simp at h
  | cons y t ih =>
    rw [List.sum_cons]
    cases k with
    | zero =>
      simp only [List.getElem?_cons_zero, Option.some.injEq] at h
      omega
    | succ k =>
      rw [List.getElem?_cons_succ] at h
      have := ih h
      omega
theorem kp_after {w V V' : World} {ad : Addr} {L : List RowB} {fi sn : Int} {n cap P g c k : Nat} {r : RowB} (x : Value) (h : GotP w ad L fi sn n cap P g c V) (hs : RSrc w (some ad) L) (hr : L[k]? = some r) (hb : Below V.heap.size V V') :
    (V'.setCell ⟨g, k, none⟩ x).cell? ⟨w.heap.size, 2, none⟩ = some (.slice (some ad) n cap) ∧ (V'.setCell ⟨g, k, none⟩ x).cell? ⟨P, 2, none⟩ = some (.slice (some ⟨g, 0, none⟩) n c) ∧ (V'.setCell ⟨g, k, none⟩ x).cell? (ad.add k) = some r.v := by
  obtain ⟨_, hg, hg2, h1, h2, h3, h4⟩ := h
  have hk := (List.getElem?_eq_some_iff.1 hr).1
  have hbv : Below w.heap.size w (V'.setCell ⟨g, k, none⟩ x) := (h4.trans (hb.mono h4.size)).setCell (by show w.heap.size ≤ g; omega) _
  obtain ⟨ad', hx, hc⟩ := (hs.later hbv) (by omega)
  injection hx with hx
  subst hx
  exact ⟨((h2.later hb).elsewhere (by show w.heap.size ≠ g; omega) x).read rfl, ((h1.later hb).elsewhere (fun h => hg h.symm) x).read rfl, (hc k r hr).1⟩
theorem rsrc_lens {w : World} {A : Option Addr} {L : List RowB} (h : RSrc w A L) : ∀ m ∈ lens L, m ≤ 9223372036854775807 := by
  intro m hm
  rw [lens, List.mem_map] at hm
  obtain ⟨r, hr, rfl⟩ := hm
  obtain ⟨j, hj⟩ := List.getElem?_of_mem hr
  obtain ⟨ad, _, hc⟩ := h (by have := (List.getElem?_eq_some_iff.1 hj).1; omega)
  have := (hc j r hj).2.2
  omega
theorem size7 {w Y : World} {L : List RowB} {fi sn : Int} {P g c k c2 b : Nat} {r : RowB} {A2 : Option Addr} (hL : L.length = k + 1) (hk : k + 1 ≤ 9223372036854775807) (hr : L[k]? = some r) (h : GotQ w (L.set k ⟨A2, c2, r.bs ++ [b]⟩) fi sn (k + 1) P g c Y) :
    Calls Try.prog 16 #[.agg #[.int .i64 fi, .int .i64 sn, .slice (some ⟨g, 0, none⟩) (k + 1) c], .int .i64 10] Y fun e w' => e = .returned (.int .i64 (umdF fi sn (grown (lens L)) 10)) ∧ Below Y.heap.size Y w' := by
  obtain ⟨h1, h2, h3⟩ := h
  have key := usize_any fi sn 10 (k + 1) c Y (by rw [List.length_set, hL]) hk h2 (rsrc_lens h2)
  rw [lens_set hL hr (by simp)] at key
  exact key
theorem grows_case {n m k : Int} (h : growsB n m k = true) (hn : 0 ≤ n) :
    ((n == 0) = true ∧ (m == 0) = true) ∨ ((n == 0) = true ∧ (m == 0) = false ∧ (k == m + 1) = true) ∨ ((n == 0) = true ∧ (m == 0) = false ∧ (k == m + 1) = false ∧ (m == 4000) = true ∧ (k == 0) = true) ∨
    ((n == 0) = false ∧ (n == 4000) = true ∧ (m == 0) = true) ∨ ((n == 0) = false ∧ (n == 4000) = false ∧ (m == n + 1) = true ∧ (m == 0) = false ∧ (k == m + 1) = true) ∨
    ((n == 0) = false ∧ (n == 4000) = true ∧ (m == 0) = false ∧ (m == n + 1) = true ∧ (k == m + 1) = true) ∨ ((n == 0) = false ∧ (n == 4000) = false ∧ (m == n + 1) = true ∧ (m == 0) = false ∧ (k == m + 1) = false ∧ (m == 4000) = true ∧ (k == 0) = true) := by
  have x1 : (n == 0) = false → (m == n + 1) = true → (m == 0) = false := by simp; omega
  have x2 : (n == 4000) = true → (m == n + 1) = true → (m == 4000) = false := by simp; omega
  have x3 : (n == 4000) = true → (n == 0) = false := by simp; omega
  unfold growsB at h
  revert x1 x2 x3 h
  generalize (n == 0) = a
  generalize (n == 4000) = b
  generalize (m == n + 1) = c
  generalize (m == 0) = d
  generalize (k == m + 1) = e
  generalize (m == 4000) = f
  generalize (k == 0) = g
  cases a <;> cases b <;> cases c <;> cases d <;> cases e <;> cases f <;> cases g <;> simp
end Go.Proofs.Ytdlgceddhlagnaa
