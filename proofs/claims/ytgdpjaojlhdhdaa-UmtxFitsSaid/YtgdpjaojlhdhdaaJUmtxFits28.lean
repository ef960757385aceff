/-
  What umd answers to fixed calls. Are fields too much for a statement?. Fields go there and back: plain lists. A packet of umd goes there and back: plain lists. Whether two packets of umd are equal, as the code and the document say. Whether two packets of umd are equal, as the code and the document say. UmdBack: packets go there and back: what its calls answer. umtx: what is built is read again; what no config lets be.
-/
import Derived.Test.YtgdpjaojlhdhdaaJUmtxFits19
import Derived.Test.YtgdpjaojlhdhdaaJUmtxFits27
import Derived.Test.YtgdpjaojlhdhdaaJUmtxFits11
import Derived.Test.YtgdpjaojlhdhdaaJUmtxFits18
import Derived.Test.YtgdpjaojlhdhdaaJUmtxFits16
import Derived.Test.YtgdpjaojlhdhdaaJUmtxFits13
import Derived.StillTailTactics
import Derived.Test.YtgdpjaojlhdhdaaJUmtxFits26
namespace Go.Proofs.Ytgdpjaojlhdhdaa
open Go.RowKit


theorem row1 (w : World) (o : Obj) (t : TypeId) (cs : Array Value) : Row ((w.alloc o).alloc (.cells cs t)) (w.heap.size + 1) t cs := by
  have h := Row.made (w.alloc o) t cs
  have e : (w.alloc o).heap.size = w.heap.size + 1 := by simp
  rw [e] at h
  exact h
theorem row2 (w : World) (o o' : Obj) (t : TypeId) (cs : Array Value) : Row (((w.alloc o).alloc o').alloc (.cells cs t)) (w.heap.size + 1 + 1) t cs := by
  have h := Row.made ((w.alloc o).alloc o') t cs
  have e : ((w.alloc o).alloc o').heap.size = w.heap.size + 1 + 1 := by simp
  rw [e] at h
  exact h
theorem ok_of_row {w : World} {g : Nat} {l : List Nat} (h : Row w g 5 (bts l).toArray) (hb : ∀ b ∈ l, b < 256) (hl : l.length ≤ 9223372036854775807) : RowB.ok w ⟨some ⟨g, 0, none⟩, l.length, l⟩ := ⟨row_src h, Nat.le_refl _, hl, hb⟩
theorem rsrc_of {w : World} {g : Nat} {L : List RowB} (h : Row w g 30 (L.map RowB.v).toArray) (hok : ∀ r ∈ L, r.ok w) : RSrc w (some ⟨g, 0, none⟩) L := fun _ => ⟨_, rfl, fun k r hr => ⟨by
  rw [add_zero_addr]
  exact h.read (by rw [List.getElem?_toArray, List.getElem?_map, hr]; rfl), hok r (List.mem_of_getElem? hr)⟩⟩
theorem al1 {W : World} {g1 g2 : Nat} (h1 : Row W g1 5 #[.int .u8 65]) (h2 : Row W g2 30 #[.slice (some ⟨g1, 0, none⟩) 1 1]) :
    Calls Try.prog 158 #[.agg #[.int .i64 0, .int .i64 3, .slice (some ⟨g2, 0, none⟩) 1 1], .int .i64 5] W fun e w' => ∃ v', e = .returned (.tuple #[v', .int .i64 0]) ∧ OwnY W.heap.size w' v' [3, 65] ∧ Below W.heap.size W w' := by
  have hs : RSrc W (some ⟨g2, 0, none⟩) [⟨some ⟨g1, 0, none⟩, 1, [65]⟩] := rsrc_of h2 (fun r hr => by
    rw [List.mem_singleton] at hr
    subst hr
    exact ok_of_row (l := [65]) h1 (by decide) (by decide))
  have h := uwrite_ok 0 3 5 1 1 W rfl (by omega) (by omega) hs (by show ∀ m ∈ [1], m ≤ 9223372036854775807; decide) (by show umdF 0 3 [1] 5 ≠ 0; decide +kernel)
  rw [show umdBytes 0 3 [⟨some ⟨g1, 0, none⟩, 1, [65]⟩] 5 = [3, 65] from by
    have e : tailF (lens [⟨some ⟨g1, 0, none⟩, 1, [65]⟩]) 11 = [] := by
      show tailF [1] 11 = _
      decide +kernel
    unfold umdBytes
    rw [e, show pack (headB 0 3 (decide (1 < [(⟨some ⟨g1, 0, none⟩, 1, [65]⟩ : RowB)].length)) 5) = [3] from by
      show pack (headB 0 3 false 5) = _
      decide +kernel]
    rfl] at h
  exact h
theorem al2 {W : World} {g1 g2 g3 : Nat} (h1 : Row W g1 5 #[.int .u8 1, .int .u8 2]) (h2 : Row W g2 5 #[.int .u8 3]) (h3 : Row W g3 30 #[.slice (some ⟨g1, 0, none⟩) 2 2, .slice (some ⟨g2, 0, none⟩) 1 1]) :
    Calls Try.prog 158 #[.agg #[.int .i64 3, .int .i64 700, .slice (some ⟨g3, 0, none⟩) 2 2], .int .i64 10] W fun e w' => ∃ v', e = .returned (.tuple #[v', .int .i64 0]) ∧ OwnY W.heap.size w' v' [30, 188, 0, 32, 1, 2, 3] ∧ Below W.heap.size W w' := by
  have hs : RSrc W (some ⟨g3, 0, none⟩) [⟨some ⟨g1, 0, none⟩, 2, [1, 2]⟩, ⟨some ⟨g2, 0, none⟩, 1, [3]⟩] := rsrc_of h3 (fun r hr => by
    rw [List.mem_cons, List.mem_singleton] at hr
    rcases hr with rfl | rfl
    · exact ok_of_row (l := [1, 2]) h1 (by decide) (by decide)
    · exact ok_of_row (l := [3]) h2 (by decide) (by decide))
  have h := uwrite_ok 3 700 10 2 2 W rfl (by omega) (by omega) hs (by show ∀ m ∈ [2, 1], m ≤ 9223372036854775807; decide) (by show umdF 3 700 [2, 1] 10 ≠ 0; decide +kernel)
  rw [show umdBytes 3 700 [⟨some ⟨g1, 0, none⟩, 2, [1, 2]⟩, ⟨some ⟨g2, 0, none⟩, 1, [3]⟩] 10 = [30, 188, 0, 32, 1, 2, 3] from by
    have e : tailF (lens [⟨some ⟨g1, 0, none⟩, 2, [1, 2]⟩, ⟨some ⟨g2, 0, none⟩, 1, [3]⟩]) 11 = [0, 32] := by
      show tailF [2, 1] 11 = _
      decide +kernel
    unfold umdBytes
    rw [e, show pack (headB 3 700 (decide (1 < [(⟨some ⟨g1, 0, none⟩, 2, [1, 2]⟩ : RowB), ⟨some ⟨g2, 0, none⟩, 1, [3]⟩].length)) 10) = [30, 188] from by
      show pack (headB 3 700 true 10) = _
      decide +kernel]
    rfl] at h
  exact h
theorem al3 {W : World} {A : Option Addr} {c : Nat} (h : OwnY W.heap.size W (.slice A 7 c) [30, 188, 0, 32, 1, 2, 3] ∨ ∃ B, OwnY B W (.slice A 7 c) [30, 188, 0, 32, 1, 2, 3]) :
    Calls Try.prog 25 #[.slice A 7 c, .int .i64 10] W fun e w' => ∃ A' c', e = .returned (.tuple #[.agg #[.int .i64 3, .int .i64 700, .slice A' 2 c'], .int .i64 0]) ∧ Below W.heap.size W w' := by
  obtain ⟨B, hB⟩ : ∃ B, OwnY B W (.slice A 7 c) [30, 188, 0, 32, 1, 2, 3] := by
    rcases h with h | h
    · exact ⟨_, h⟩
    · exact h
  obtain ⟨A2, c2, e, h1, h2⟩ := hB.form
  injection e with e1 e2 e3
  subst e1 e3
  unfold maxLen at h2
  have hx : umdRd [30, 188, 0, 32, 1, 2, 3] 10 = (0, 3, 700, [[1, 2], [3]]) := by decide +kernel
  refine (uread_10 (bs := [30, 188, 0, 32, 1, 2, 3]) 7 c W rfl (by omega) h1 (by omega) hB.src (by decide)).mono ?_
  rintro e w' ⟨h3 | h3, h4⟩
  · rw [hx] at h3
    obtain ⟨_, v, L, h5, rfl, ho⟩ := h3
    have hL : L.length = 2 := by have := congrArg List.length h5; rw [length_texts] at this; exact this.symm
    obtain ⟨Av, cv, rfl, _⟩ := ho.form
    rw [hL]
    exact ⟨Av, cv, rfl, h4⟩
  · rw [hx] at h3
    exact absurd rfl h3.1
theorem al4 {W : World} {g : Nat} (h : Row W g 5 #[.int .u8 3]) :
    Calls Try.prog 25 #[.slice (some ⟨g, 0, none⟩) 1 1, .int .i64 5] W fun e w' => e = .returned (.tuple #[.agg #[.int .i64 0, .int .i64 0, .slice none 0 0], .int .i64 8]) ∧ Below W.heap.size W w' := by
  have hx : umdRd [3] 5 = (8, 0, 0, []) := by decide +kernel
  refine (uread_5 (bs := [3]) 1 1 W rfl (by omega) (by omega) (by omega) (row_src (xs := bts [3]) h) (by decide)).mono ?_
  rintro e w' ⟨h3 | h3, h4⟩
  · rw [hx] at h3
    exact absurd h3.1 (by decide)
  · rw [hx] at h3
    exact ⟨h3.2, h4⟩
theorem al5 {W : World} {g1 g2 : Nat} (h1 : Row W g1 5 #[.int .u8 1]) (h2 : Row W g2 30 #[.slice (some ⟨g1, 0, none⟩) 1 1]) :
    Calls Try.prog 158 #[.agg #[.int .i64 0, .int .i64 32, .slice (some ⟨g2, 0, none⟩) 1 1], .int .i64 5] W fun e w' => e = .returned (.tuple #[.slice none 0 0, .int .i64 3]) ∧ Below W.heap.size W w' := by
  have hs : RSrc W (some ⟨g2, 0, none⟩) [⟨some ⟨g1, 0, none⟩, 1, [1]⟩] := rsrc_of h2 (fun r hr => by
    rw [List.mem_singleton] at hr
    subst hr
    exact ok_of_row (l := [1]) h1 (by decide) (by decide))
  have h := uwrite_bad 0 32 5 1 1 W rfl (by omega) hs (by show ∀ m ∈ [1], m ≤ 9223372036854775807; decide) (by show umdF 0 32 [1] 5 = 0; decide +kernel)
  exact h

end Go.Proofs.Ytgdpjaojlhdhdaa
namespace Go.Proofs.Ytgdpjaojlhdhdaa
open Go.RowKit


/-- what it answers: at least a bound, where it says no -/
def GreatAns (n q : Nat) (w : World) (e : Ending) (w' : World) : Prop := (∃ b, e = .returned (.bool b) ∧ (b = false → n ≤ 40 ∧ q ≤ 9000)) ∧ w = w'
set_option maxRecDepth 100000 in
set_option maxHeartbeats 1600000 in
theorem great_any {A : Option Addr} {L : List RowB} (n cap : Nat) (w : World) (hL : L.length = n) (hn : n ≤ 9223372036854775807) (hs : RSrc w A L) (hm : ∀ m ∈ lens L, m ≤ 9223372036854775807) :
    Calls Try.prog 38 #[.slice A n cap] w (GreatAns n (lens L).sum w) := by
  have HS := Lib.hid hs
  have HL := Lib.hid hL
  have HM := Lib.hid hm
  clear hs hL hm
  go_enter Try.func38, Try.ntmps38
  go_wp2
  go_loopw [3, 4] (fun s i wr => ∃ k q : Nat, k ≤ n ∧ q ≤ 4200 * 41 ∧ i = .int .i64 k ∧ s = .int .i64 q ∧ Hid (q = sumTo (lens L) k ∧ q ≤ 4200 * k ∧ (0 < k → n ≤ 40)) ∧ w = wr) (fun _ i _ => n - (intOf i).toNat)
  case atStart => exact ⟨0, 0, by omega, by omega, rfl, rfl, Lib.hid ⟨by rw [sumTo_zero], by omega, by omega⟩, rfl⟩
  case round =>
    obtain ⟨k, q, hk, hq, rfl, rfl, HK, rfl⟩ := hrel
    by_cases hlt : k < n
    · obtain ⟨ad, rfl, hc⟩ := HS.out (by rw [HL.out]; omega)
      obtain ⟨r, hr⟩ : ∃ r, L[k]? = some r := ⟨_, List.getElem?_eq_getElem (by rw [HL.out]; exact hlt)⟩
      have hcell : w.cell? (ad.add k) = some (.slice r.A r.bs.length r.cap) := (hc k r hr).1
      have HSU := Lib.hid (sumTo_succ (lens_at hr))
      have hlm := HM.out _ (List.mem_of_getElem? (lens_at hr))
      clear hc hr
      generalize r.bs.length = len at *
      by_cases h40 : 40 < n
      · have h40' : (40 : Int) < n := by omega
        go_wp2
        go_ret
        exact ⟨⟨true, rfl, fun h => by cases h⟩, rfl⟩
      · have h40' : ¬ (40 : Int) < n := by omega
        by_cases h42 : 4200 < len
        · have h42' : (4200 : Int) < len := by omega
          go_wp2
          go_ret
          exact ⟨⟨true, rfl, fun h => by cases h⟩, rfl⟩
        · have h42' : ¬ (4200 : Int) < len := by omega
          have hb : q ≤ 4200 * k := HK.out.2.1
          go_wp2
          go_roundw
          case rel => exact ⟨k + 1, q + len, by omega, by omega, by go_num, by go_num, Lib.hid ⟨by rw [HSU.out, HK.out.1], by omega, fun _ => by omega⟩, trivial⟩
          case measure => simp [intOf]; omega
    · have hkn : k = n := by omega
      go_wp2
      go_ret
      refine ⟨⟨_, rfl, fun h => ?_⟩, rfl⟩
      have h2 : ¬ (9000 : Int) < q := by simpa using h
      have h9 := HK.out.1
      rw [hkn, show n = (lens L).length by rw [length_lens, HL.out], sumTo_all] at h9
      refine ⟨?_, by omega⟩
      rcases Nat.eq_zero_or_pos k with h0 | h0
      · omega
      · exact HK.out.2.2 h0
end Go.Proofs.Ytgdpjaojlhdhdaa
namespace Go.Proofs.Ytgdpjaojlhdhdaa


theorem lens_texts_2 (L : List RowB) : lens L = (texts L).map List.length := by simp [lens, texts]
theorem ok_last {ls : List Nat} (h : okTo ls ls.length = true) (h0 : 0 < ls.length) : ∃ x, ls.getLast? = some x ∧ 1 ≤ x := by
  have h1 : ls[ls.length - 1]? = some ls[ls.length - 1] := List.getElem?_eq_getElem (by omega)
  refine ⟨ls[ls.length - 1], by rw [List.getLast?_eq_getElem?]; exact h1, (okTo_small h h1).1⟩
theorem two_pow_wd {wd : Nat} (h : wd = 11 ∨ wd = 15) : 2048 ≤ 2 ^ wd := by rcases h with rfl | rfl <;> decide
/-- what was written is read -/
theorem fld_back {t : List (List Nat)} {wd : Nat} (hw : wd = 11 ∨ wd = 15) (h1 : 1 ≤ t.length) (h24 : t.length ≤ 24) (hok : okTo (t.map List.length) (t.map List.length).length = true) :
    fldR (tailF (t.map List.length) wd ++ t.flatten) (decide (1 < t.length)) wd = (0, t) := by
  have hl : (t.map List.length).length = t.length := by simp
  have hc : cutF t.flatten ((t.map List.length).take (t.length - 1)) = some t := by
    refine cutF_back t (fun e => by rw [e] at h1; simp at h1) (fun x hx e => ?_)
    obtain ⟨y, hy, hy1⟩ := ok_last hok (by omega)
    rw [List.getLast?_map, hx, e] at hy
    simp at hy
    omega
  by_cases h2 : 1 < t.length
  · have hpos := tail_lens hok
    rw [hl] at hpos
    have htl : ((t.map List.length).take (t.length - 1)).length = t.length - 1 := by rw [List.length_take, hl]; omega
    have hrb := read_back (w := wd) (z := t.flatten) (l := (t.map List.length).take (t.length - 1)) (fun e => by rw [e] at htl; simp at htl; omega) (by omega) (fun x hx => ⟨(hpos x hx).1, Nat.lt_of_lt_of_le (hpos x hx).2 (two_pow_wd hw)⟩)
    have hpl : (pack (wbl wd ((t.map List.length).take (t.length - 1)))).length = packLen (((t.map List.length).take (t.length - 1)).length * (wd + 1)) := by rw [length_pack, length_wbl]
    have hany : ((t.map List.length).take (t.length - 1)).any (fun x => decide (2047 < x)) = false := by
      rw [← Bool.not_eq_true, List.any_eq_true]
      rintro ⟨x, hx, h⟩
      rw [decide_eq_true_iff] at h
      have := hpos x hx
      omega
    unfold tailF fldR
    rw [hl, if_pos h2, decide_eq_true h2, hrb]
    simp only [if_true, hany, Bool.false_eq_true, if_false]
    rw [← hpl, List.drop_left, hc]
    rfl
  · have e1 : t.length - 1 = 0 := by omega
    rw [e1, List.take_zero] at hc
    unfold tailF fldR
    rw [hl, if_neg h2, decide_eq_false h2, List.nil_append]
    simp only [Bool.false_eq_true, if_false]
    rw [hc]
    rfl
theorem ansOf_zero {o : Option (List (List Nat))} {t : List (List Nat)} (h : ansOf o = (0, t)) : o = some t := by
  cases o with
  | none => simp [ansOf] at h
  | some x => simp [ansOf] at h; rw [h]
theorem okTo_of {ls : List Nat} (h : ∀ k m, ls[k]? = some m → 1 ≤ m ∧ m ≤ 4000 ∧ (k + 1 ≠ ls.length → m ≤ 2047)) : okTo ls ls.length = true := by
  unfold okTo
  rw [List.all_eq_true]
  intro j hj
  rw [List.mem_range] at hj
  have h1 := h j ls[j] (List.getElem?_eq_getElem hj)
  rw [List.getD_eq_getElem?_getD, List.getElem?_eq_getElem hj, Option.getD_some]
  unfold okAt
  by_cases e : j + 1 = ls.length
  · rw [if_pos e, decide_eq_true h1.1, decide_eq_true h1.2.1]
    rfl
  · rw [if_neg e, decide_eq_true h1.1, decide_eq_true (h1.2.2 e)]
    rfl
theorem sum_lens (t : List (List Nat)) : (t.map List.length).sum = t.flatten.length := by
  rw [List.length_flatten]
/-- what is read may be, and has, written, the bytes that it was read from -/
theorem fld_write {bs : List Nat} {more : Bool} {wd : Nat} {t : List (List Nat)} (_hw : wd = 11 ∨ wd = 15) (hb : ∀ b ∈ bs, b < 256) (h4 : bs.length ≤ 4000) (h : fldR bs more wd = (0, t)) :
    1 ≤ t.length ∧ t.length ≤ 24 ∧ more = decide (1 < t.length) ∧ tailF (t.map List.length) wd ++ t.flatten = bs ∧ okTo (t.map List.length) (t.map List.length).length = true := by
  have hl : (t.map List.length).length = t.length := by simp
  have fin : ∀ ls z, cutF z ls = some t → z.length ≤ 4000 → (∀ x ∈ ls, 1 ≤ x ∧ x ≤ 2047) → okTo (t.map List.length) (t.map List.length).length = true := by
    intro ls z hc hz hls
    obtain ⟨c1, c2, c3, x, c4, c5⟩ := cutF_ok hc
    refine okTo_of (fun k m hm => ?_)
    have hmz : m ≤ 4000 := by
      have e1 := sumTo_succ hm
      have e2 := sumTo_le (t.map List.length) (k + 1)
      rw [sum_lens, c1] at e2
      omega
    rw [hl]
    have hk : k < t.length := by have := (List.getElem?_eq_some_iff.1 hm).1; rw [hl] at this; exact this
    by_cases e : k < ls.length
    · have h9 : ((t.map List.length).take ls.length)[k]? = some m := by rw [List.getElem?_take, if_pos e]; exact hm
      rw [c3] at h9
      have := hls m (List.mem_of_getElem? h9)
      exact ⟨this.1, hmz, fun _ => this.2⟩
    · have e2 : k = t.length - 1 := by omega
      subst e2
      rw [List.getLast?_eq_getElem?] at c4
      rw [List.getElem?_map, c4] at hm
      simp at hm
      refine ⟨?_, hmz, fun h => by omega⟩
      cases x with
      | nil => exact absurd rfl c5
      | cons a r => simp at hm; omega
  unfold fldR at h
  cases more
  · simp only [Bool.false_eq_true, if_false] at h
    have hc := ansOf_zero h
    obtain ⟨c1, c2, c3, x, c4, c5⟩ := cutF_ok hc
    simp only [List.length_nil, Nat.zero_add] at c2
    refine ⟨by omega, by omega, by rw [c2]; rfl, ?_, fin [] bs hc h4 (fun x hx => by cases hx)⟩
    unfold tailF
    rw [hl, if_neg (by omega), List.nil_append, c1]
  · simp only [if_true] at h
    by_cases h0 : (readF bs wd).2.2 = 0
    · obtain ⟨ls, k, hrf⟩ : ∃ ls k, readF bs wd = (ls, k, 0) := ⟨(readF bs wd).1, (readF bs wd).2.1, by rw [← h0]⟩
      rw [hrf] at h
      simp only [if_true] at h
      cases hany : ls.any fun x => decide (2047 < x)
      · rw [hany] at h
        simp only [Bool.false_eq_true, if_false] at h
        have hc := ansOf_zero h
        obtain ⟨c1, c2, c3, x, c4, c5⟩ := cutF_ok hc
        obtain ⟨q1, q2, q3, q4, q5, q6⟩ := read_write hb hrf
        have q7 : 1 ≤ ls.length := by
          cases ls with
          | nil => exact absurd rfl q1
          | cons => simp
        have hls : ∀ x ∈ ls, 1 ≤ x ∧ x ≤ 2047 := fun x hx => by
          refine ⟨(q3 x hx).1, ?_⟩
          rcases Nat.lt_or_ge 2047 x with h9 | h9
          · have : ls.any (fun x => decide (2047 < x)) = true := List.any_eq_true.2 ⟨x, hx, decide_eq_true h9⟩
            rw [hany] at this
            cases this
          · exact h9
        refine ⟨by omega, by omega, by rw [c2, decide_eq_true (by omega)], ?_, fin ls _ hc (by rw [List.length_drop]; omega) hls⟩
        unfold tailF
        rw [hl, if_pos (by omega), show t.length - 1 = ls.length by omega, c3, q6, c1, List.take_append_drop]
      · rw [hany] at h
        simp at h
    · rw [if_neg h0] at h
      simp only [Prod.mk.injEq] at h
      exact absurd h.1 h0
end Go.Proofs.Ytgdpjaojlhdhdaa
namespace Go.Proofs.Ytgdpjaojlhdhdaa
open Go.RowKit


theorem bits_pack {b : List Bool} {h : Nat} (hl : b.length = 8 * h) : bitsOf (pack b) = b ∧ (pack b).length = h := by
  have e : packLen b.length = h := by rw [hl]; unfold packLen; omega
  refine ⟨?_, by rw [length_pack, e]⟩
  rw [bitsOf_pack, e, hl, Nat.sub_self]
  simp
theorem pack_bits {hd : List Nat} (hb : ∀ x ∈ hd, x < 256) : pack (bitsOf hd) = hd := by
  obtain ⟨h1, _⟩ := bits_pack (length_bitsOf hd)
  exact bitsOf_inj (fun x hx => pack_small _ x hx) hb h1
theorem seg_mid {a b c : List Bool} {hd : List Nat} {i n : Nat} (h : bitsOf hd = a ++ (b ++ c)) (ha : a.length = i) (hb : b.length = n) : seg hd i n = b := by
  unfold seg
  rw [h, ← ha, List.drop_left, ← hb, List.take_left]
theorem bit_mid {a c : List Bool} {b : Bool} {hd : List Nat} {i : Nat} (h : bitsOf hd = a ++ (b :: c)) (ha : a.length = i) : bitAt hd i = b := by
  unfold bitAt
  rw [h, List.getD_eq_getElem?_getD, List.getElem?_append_right (by omega), ha, Nat.sub_self]
  rfl
theorem unval_one (b : Bool) : unval b.toNat 1 = [b] := by cases b <;> rfl
/-- a head written is read -/
theorem head_back {fi sn nz wd h : Nat} {more : Bool} (hl : nz + 3 + wd = 8 * h) (hf : fi < 4) (hs : sn < 2 ^ wd) :
    val (seg (pack (((unval 0 nz ++ unval fi 2) ++ unval more.toNat 1) ++ unval sn wd)) 0 nz) = 0 ∧ val (seg (pack (((unval 0 nz ++ unval fi 2) ++ unval more.toNat 1) ++ unval sn wd)) nz 2) = fi ∧
    bitAt (pack (((unval 0 nz ++ unval fi 2) ++ unval more.toNat 1) ++ unval sn wd)) (nz + 2) = more ∧ val (seg (pack (((unval 0 nz ++ unval fi 2) ++ unval more.toNat 1) ++ unval sn wd)) (nz + 2 + 1) wd) = sn ∧
    (pack (((unval 0 nz ++ unval fi 2) ++ unval more.toNat 1) ++ unval sn wd)).length = h := by
  have hlen : (((unval 0 nz ++ unval fi 2) ++ unval more.toNat 1) ++ unval sn wd).length = 8 * h := by
    rw [List.length_append, List.length_append, List.length_append, length_unval, length_unval, length_unval, length_unval]
    omega
  obtain ⟨h1, h2⟩ := bits_pack hlen
  rw [unval_one] at *
  refine ⟨?_, ?_, ?_, ?_, h2⟩
  · rw [seg_mid (i := 0) (n := nz) (a := []) (b := unval 0 nz) (c := unval fi 2 ++ ([more] ++ unval sn wd)) (by rw [h1]; simp) rfl (length_unval _ _), val_unval, Nat.zero_mod]
  · rw [seg_mid (a := unval 0 nz) (b := unval fi 2) (c := [more] ++ unval sn wd) (by rw [h1]; simp) (length_unval _ _) (length_unval _ _), val_unval]
    omega
  · exact bit_mid (a := unval 0 nz ++ unval fi 2) (c := unval sn wd) (by rw [h1]; simp) (by rw [List.length_append, length_unval, length_unval])
  · rw [seg_mid (a := (unval 0 nz ++ unval fi 2) ++ [more]) (b := unval sn wd) (c := []) (by rw [h1]; simp) (by rw [List.length_append, List.length_append, length_unval, length_unval]; rfl) (length_unval _ _), val_unval]
    exact Nat.mod_eq_of_lt hs
/-- a head read is what was written -/
theorem head_write {hd : List Nat} {nz wd h : Nat} (hl : nz + 3 + wd = 8 * h) (hh : hd.length = h) (hb : ∀ x ∈ hd, x < 256) (h0 : val (seg hd 0 nz) = 0) :
    pack (((unval 0 nz ++ unval (val (seg hd nz 2)) 2) ++ unval (bitAt hd (nz + 2)).toNat 1) ++ unval (val (seg hd (nz + 2 + 1) wd)) wd) = hd := by
  have hlb : (bitsOf hd).length = 8 * h := by rw [length_bitsOf, hh]
  have u0 : unval 0 nz = seg hd 0 nz := by
    have := unval_val (seg hd 0 nz)
    rw [length_seg (by omega), h0] at this
    exact this
  have u1 : unval (val (seg hd nz 2)) 2 = seg hd nz 2 := by
    have := unval_val (seg hd nz 2)
    rwa [length_seg (by omega)] at this
  have u3 : unval (val (seg hd (nz + 2 + 1) wd)) wd = seg hd (nz + 2 + 1) wd := by
    have := unval_val (seg hd (nz + 2 + 1) wd)
    rwa [length_seg (by omega)] at this
  rw [u0, u1, u3, unval_one]
  have e : ((seg hd 0 nz ++ seg hd nz 2) ++ [bitAt hd (nz + 2)]) ++ seg hd (nz + 2 + 1) wd = bitsOf hd := by
    have s2 : seg hd (nz + 2) 1 = [bitAt hd (nz + 2)] := by
      have := seg_succ (bs := hd) (i := nz + 2) (m := 0) (by omega)
      rw [seg_zero] at this
      simpa using this
    rw [← s2]
    unfold seg
    have d := List.take_append_drop nz (bitsOf hd)
    have d2 := List.take_append_drop 2 ((bitsOf hd).drop nz)
    have d3 := List.take_append_drop 1 ((bitsOf hd).drop (nz + 2))
    rw [List.drop_drop] at d2 d3
    have d4 : ((bitsOf hd).drop (nz + 2 + 1)).take wd = (bitsOf hd).drop (nz + 2 + 1) := List.take_of_length_le (by rw [List.length_drop, hlb]; omega)
    rw [List.drop_zero, d4, List.append_assoc, List.append_assoc, d3, d2, d]
  rw [e]
  exact pack_bits hb

theorem umd_len {fi sn : Nat} {L : List RowB} {wd : Nat} (h : umdF fi sn (lens L) wd ≠ 0) : ((umdBytes fi sn L wd).length : Int) = umdF fi sn (lens L) wd := by
  obtain ⟨hw, _, _, _, h1, h2, _, h3⟩ := umdF_pos h
  have hl : ((tailF (lens L) 11).length : Int) = sizeF (((lens L).length : Int) - 1) 11 := length_tail 11 (.inl rfl) h1 h2
  unfold umdBytes
  rw [List.length_append, List.length_append, length_flat, length_pack, length_headB, h3]
  have e : ((packLen ((if wd = 10 then 3 else 0) + 3 + wd) : Nat) : Int) = (wd : Int) / 5 := by
    have : wd = 5 ∨ wd = 10 := by omega
    rcases this with rfl | rfl <;> rfl
  omega
theorem flat_texts (L : List RowB) : flat L = (texts L).flatten := rfl
theorem umd_back {fi sn : Nat} {L : List RowB} {wd : Nat} (h : umdF fi sn (lens L) wd ≠ 0) : umdRd (umdBytes fi sn L wd) wd = (0, fi, sn, texts L) := by
  have hlen := umd_len h
  have hbig := umdF_big fi sn (lens L) wd
  obtain ⟨hw, _, hf, hs, h1, h2, hok, _⟩ := umdF_pos h
  have hwd : wd = 5 ∨ wd = 10 := by omega
  have hsz := (of_decide_eq_true hs).2
  have hs2 : sn < 2 ^ wd := by
    rcases hwd with rfl | rfl
    · have e : sz ((5 : Nat) : Int) = 32 := by decide
      rw [e] at hsz; omega
    · have e : sz ((10 : Nat) : Int) = 1024 := by decide
      rw [e] at hsz; omega
  have hhb := head_back (fi := fi) (sn := sn) (nz := if wd = 10 then 3 else 0) (wd := wd) (h := wd / 5) (more := decide (1 < L.length)) (by rcases hwd with rfl | rfl <;> rfl) (by omega) hs2
  obtain ⟨b1, b2, b3, b4, b5⟩ := hhb
  have hU : umdBytes fi sn L wd = pack (headB fi sn (decide (1 < L.length)) wd) ++ (tailF (lens L) 11 ++ flat L) := by unfold umdBytes; rw [List.append_assoc]
  have b5' : (pack (headB fi sn (decide (1 < L.length)) wd)).length = wd / 5 := b5
  have htk : (umdBytes fi sn L wd).take (wd / 5) = pack (headB fi sn (decide (1 < L.length)) wd) := by rw [hU, ← b5', List.take_left]
  have hdr : (umdBytes fi sn L wd).drop (wd / 5) = tailF (lens L) 11 ++ flat L := by rw [hU, ← b5', List.drop_left]
  have hfb := fld_back (t := texts L) (wd := 11) (.inl rfl) (by rw [length_texts, ← length_lens]; exact h1) (by rw [length_texts, ← length_lens]; exact h2) (by rw [← lens_texts]; exact hok)
  rw [← lens_texts, ← flat_texts, length_texts] at hfb
  unfold umdRd
  rw [if_pos hwd, if_neg (by omega), if_neg (by
    have : ((wd / 5 : Nat) : Int) ≤ (umdBytes fi sn L wd).length := by
      rw [hU, List.length_append, b5']
      omega
    omega), htk, hdr]
  unfold headB
  rw [if_neg (fun h => h b1), b3, hfb, b2, b4]
  rfl
theorem umd_write {bs : List Nat} {wd fi sn : Nat} {L : List RowB} (hb : ∀ b ∈ bs, b < 256) (h : umdRd bs wd = (0, fi, sn, texts L)) : umdF fi sn (lens L) wd ≠ 0 ∧ umdBytes fi sn L wd = bs := by
  unfold umdRd at h
  by_cases hwd : wd = 5 ∨ wd = 10
  · rw [if_pos hwd] at h
    by_cases h4 : 4000 < bs.length
    · rw [if_pos h4] at h; simp at h
    · rw [if_neg h4] at h
      by_cases hs : bs.length < wd / 5
      · rw [if_pos hs] at h; simp at h
      · rw [if_neg hs] at h
        generalize hnz : (if wd = 10 then 3 else 0) = nz at *
        have hlw : nz + 3 + wd = 8 * (wd / 5) := by rcases hwd with rfl | rfl <;> simp at hnz <;> omega
        by_cases h0 : val (seg (bs.take (wd / 5)) 0 nz) = 0
        · rw [if_neg (fun h => h h0)] at h
          by_cases hf : (fldR (bs.drop (wd / 5)) (bitAt (bs.take (wd / 5)) (nz + 2)) 11).1 = 0
          · rw [if_pos hf] at h
            simp only [Prod.mk.injEq, true_and] at h
            obtain ⟨e1, e2, e3⟩ := h
            have hfr : fldR (bs.drop (wd / 5)) (bitAt (bs.take (wd / 5)) (nz + 2)) 11 = (0, texts L) := by rw [← hf, ← e3]
            have hth : (bs.take (wd / 5)).length = wd / 5 := by rw [List.length_take]; omega
            have hw := head_write hlw hth (fun x hx => hb x (List.mem_of_mem_take hx)) h0
            obtain ⟨q1, q2, q3, q4, q5⟩ := fld_write (.inl rfl) (fun x hx => hb x (List.mem_of_mem_drop hx)) (by rw [List.length_drop]; omega) hfr
            rw [← lens_texts] at q4 q5
            rw [length_texts] at q1 q2 q3
            have hby : umdBytes fi sn L wd = bs := by
              unfold umdBytes headB
              rw [hnz, ← q3, ← e1, ← e2, hw, List.append_assoc, flat_texts, q4, List.take_append_drop]
            refine ⟨?_, hby⟩
            have hv1 := val_lt (seg (bs.take (wd / 5)) nz 2)
            have hv2 := val_lt (seg (bs.take (wd / 5)) (nz + 2 + 1) wd)
            rw [length_seg (by omega)] at hv1 hv2
            rw [e1] at hv1
            rw [e2] at hv2
            have hokn : okn (wd : Int) (sn : Int) = true := by
              refine decide_eq_true ⟨by omega, ?_⟩
              rcases hwd with rfl | rfl
              · have e : sz ((5 : Nat) : Int) = 32 := by decide
                rw [e]; omega
              · have e : sz ((10 : Nat) : Int) = 1024 := by decide
                rw [e]; omega
            have hlt : ((tailF (lens L) 11).length : Int) = sizeF (((lens L).length : Int) - 1) 11 := length_tail (ls := lens L) 11 (.inl rfl) (by rw [length_lens]; exact q1) (by rw [length_lens]; exact q2)
            have hll := congrArg List.length hby
            unfold umdBytes at hll
            rw [List.length_append, List.length_append, length_flat, length_pack, length_headB] at hll
            have e : ((packLen ((if wd = 10 then 3 else 0) + 3 + wd) : Nat) : Int) = (wd : Int) / 5 := by rcases hwd with rfl | rfl <;> rfl
            have hd1 : 1 ≤ (wd : Int) / 5 := by rcases hwd with rfl | rfl <;> decide
            unfold umdF
            rw [if_pos ⟨by rcases hwd with rfl | rfl <;> simp, by omega, by omega, hokn⟩]
            unfold fieldsF
            have hn := sizeF_nonneg (((lens L).length : Int) - 1) 11
            rw [if_pos ⟨by rw [length_lens]; exact q1, by rw [length_lens]; exact q2, q5, by omega⟩]
            omega
          · rw [if_neg hf] at h
            simp only [Prod.mk.injEq] at h
            exact absurd h.1 hf
        · rw [if_pos h0] at h; simp at h
  · rw [if_neg hwd] at h; simp at h
end Go.Proofs.Ytgdpjaojlhdhdaa
namespace Go.Proofs.Ytgdpjaojlhdhdaa
open Go.RowKit
def SameAns (b : Bool) (w : World) (e : Ending) (w' : World) : Prop := e = .returned (.bool b) ∧ Below w.heap.size w w'
set_option maxRecDepth 100000 in
set_option maxHeartbeats 1600000 in
theorem samef_any {A B : Option Addr} {L M : List RowB} (n m cap capb : Nat) (w : World) (hL : L.length = n) (hM : M.length = m) (hn : n ≤ 9223372036854775807) (hs : RSrc w A L) (hs' : RSrc w B M) :
    Calls Try.prog 79 #[.slice A n cap, .slice B m capb] w (SameAns (decide (texts L = texts M)) w) := by
  by_cases h : n = m
  · subst h
    have HS := Lib.hid hs
    have HS2 := Lib.hid hs'
    have HL := Lib.hid hL
    have HM := Lib.hid hM
    have hnn : ((n : Int) != (n : Int)) = false := by simp
    clear hs hs' hL hM
    go_enter Try.func79, Try.ntmps79
    go_wp2
    go_loopw [5] (fun i wr => ∃ k : Nat, k ≤ n ∧ i = .int .i64 k ∧ Hid (sameTo (texts L) (texts M) k) ∧ Hid (Below w.heap.size w wr)) (fun i _ => n - (intOf i).toNat)
    case atStart => exact ⟨0, by omega, rfl, Lib.hid (fun j hj => by omega), Lib.hid (Below.refl _ _)⟩
    case round =>
      obtain ⟨k, hk, rfl, HK, HB⟩ := hrel
      by_cases hlt : k < n
      · obtain ⟨ad, rfl, hc⟩ := HS.out (by rw [HL.out]; omega)
        obtain ⟨bd, rfl, hc'⟩ := HS2.out (by rw [HM.out]; omega)
        obtain ⟨r, hr⟩ : ∃ r, L[k]? = some r := ⟨_, List.getElem?_eq_getElem (by rw [HL.out]; exact hlt)⟩
        obtain ⟨r', hr'⟩ : ∃ r, M[k]? = some r := ⟨_, List.getElem?_eq_getElem (by rw [HM.out]; exact hlt)⟩
        have hbd : Below w.heap.size w wr.drew := bl_drew HB.out
        have c1 : wr.drew.cell? (ad.add k) = some (.slice r.A r.bs.length r.cap) := cell_below hbd (hc k r hr).1
        have c2 : wr.drew.cell? (bd.add k) = some (.slice r'.A r'.bs.length r'.cap) := cell_below hbd (hc' k r' hr').1
        have ho := (hc k r hr).2.later hbd
        have ho' := (hc' k r' hr').2.later hbd
        have d1 := conv_src r.bs.length r.cap rfl ho.1 ho.2.2.2
        have d2 := conv_src r'.bs.length r'.cap rfl ho'.1 ho'.2.2.2
        have hq := strOf_beq ho.2.2.2 ho'.2.2.2
        have hstep : r.bs = r'.bs → sameTo (texts L) (texts M) (k + 1) := fun he j hj => by
          rcases Nat.lt_or_ge j k with h2 | h2
          · exact HK.out j h2
          · obtain rfl : j = k := by omega
            rw [texts_at hr, texts_at hr', he]
        have hdiff : r.bs ≠ r'.bs → texts L ≠ texts M := fun hd he => hd (by
          have h3 := texts_at hr
          rw [he, texts_at hr'] at h3
          injection h3 with h3
          exact h3.symm)
        have HST := Lib.hid hstep
        have HDF := Lib.hid hdiff
        have HBD := Lib.hid hbd
        clear hc hc' hr hr' ho ho' hstep hdiff hbd
        by_cases he : r.bs = r'.bs
        · have HE := Lib.hid he
          rw [decide_eq_true he] at hq
          have hq2 : ((strOf r.bs).toList != (strOf r'.bs).toList) = false := by rw [bne, hq]; rfl
          clear he
          generalize r.bs.length = n1 at *
          generalize r'.bs.length = n2 at *
          generalize strOf r.bs = s1 at *
          generalize strOf r'.bs = s2 at *
          go_wp2_with fail
          refine wp_region_still_lit (by kernel_rfl) (by kernel_rfl) ?_
          change wpStill _ _ wr.drew (fun b => _) _ _
          generalize wr.drew = w9 at c1 c2 d1 d2 ⊢
          repeat still_step
          refine wpStill_nil ?_
          go_wp2_with fail
          go_roundw
          case rel => exact ⟨k + 1, by omega, by go_num, Lib.hid (HST.out HE.out), HBD⟩
          case measure => simp [intOf]; omega
        · have HE := Lib.hid he
          rw [decide_eq_false he] at hq
          have hq2 : ((strOf r.bs).toList != (strOf r'.bs).toList) = true := by rw [bne, hq]; rfl
          clear he
          generalize r.bs.length = n1 at *
          generalize r'.bs.length = n2 at *
          generalize strOf r.bs = s1 at *
          generalize strOf r'.bs = s2 at *
          go_wp2_with fail
          refine wp_region_still_lit (by kernel_rfl) (by kernel_rfl) ?_
          change wpStill _ _ wr.drew (fun b => _) _ _
          generalize wr.drew = w9 at c1 c2 d1 d2 ⊢
          repeat still_step
          refine wpStill_nil ?_
          go_wp2_with fail
          go_ret
          exact ⟨by rw [decide_eq_false (HDF.out HE.out)]; rfl, HBD.out⟩
      · have hkn : k = n := by omega
        have HA := Lib.hid (show texts L = texts M from sameTo_all (by rw [length_texts, length_texts, HL.out, HM.out]) (by rw [length_texts, HL.out, ← hkn]; exact HK.out))
        clear hkn
        go_wp2
        go_ret
        exact ⟨by rw [decide_eq_true HA.out]; rfl, HB.out⟩
  · have HF := Lib.hid (show decide (texts L = texts M) = false from decide_eq_false fun h1 => h (by have := congrArg List.length h1; rw [length_texts, length_texts] at this; omega))
    have hnm : ((n : Int) != (m : Int)) = true := by simp; omega
    clear hL hM hs hs' h
    go_enter Try.func79, Try.ntmps79
    go_wp2
    go_ret
    exact ⟨by rw [HF.out]; rfl, Below.refl _ _⟩

end Go.Proofs.Ytgdpjaojlhdhdaa
namespace Go.Proofs.Ytgdpjaojlhdhdaa
open Go.RowKit
theorem Try.info206s : (Try.prog.info? 206).map (·.size) = some 3 := by kernel_rfl
/-- FI, the number and the fields equal -/
def eqP (fi sn fi' sn' : Int) (t t' : List (List Nat)) : Bool := (fi == fi') && (sn == sn') && decide (t = t')
end Go.Proofs.Ytgdpjaojlhdhdaa
namespace Go.Proofs.Ytgdpjaojlhdhdaa
open Go.RowKit


/-- what Write answers, whatever the packet is -/
def WrAns (fi sn wd : Int) (L : List RowB) (w : World) (e : Ending) (w' : World) : Prop :=
  ((umdF fi sn (lens L) wd ≠ 0 ∧ ∃ (a b d : Nat) (v : Value), fi = a ∧ sn = b ∧ wd = d ∧ e = .returned (.tuple #[v, .int .i64 0]) ∧ OwnY w.heap.size w' v (umdBytes a b L d)) ∨
   (umdF fi sn (lens L) wd = 0 ∧ ∃ er : Int, er ≠ 0 ∧ e = .returned (.tuple #[.slice none 0 0, .int .i64 er]))) ∧ Below w.heap.size w w'
theorem uwrite_any {A : Option Addr} {L : List RowB} (fi sn wd : Int) (n cap : Nat) (w : World) (hL : L.length = n) (hcap : n ≤ cap) (hcm : cap ≤ 9223372036854775807) (hs : RSrc w A L) (hm : ∀ m ∈ lens L, m ≤ 9223372036854775807) :
    Calls Try.prog 158 #[.agg #[.int .i64 fi, .int .i64 sn, .slice A n cap], .int .i64 wd] w (WrAns fi sn wd L w) := by
  by_cases h : umdF fi sn (lens L) wd = 0
  · refine (uwrite_bad fi sn wd n cap w hL (by omega) hs hm h).mono ?_
    rintro e w' ⟨rfl, hb⟩
    exact ⟨.inr ⟨h, _, by split <;> decide, rfl⟩, hb⟩
  · obtain ⟨hw, h0, hf, hs2, _, _, _, _⟩ := umdF_pos h
    have h1 := (of_decide_eq_true hs2).1
    obtain ⟨a, rfl⟩ : ∃ a : Nat, fi = a := ⟨fi.toNat, by omega⟩
    obtain ⟨b, rfl⟩ : ∃ a : Nat, sn = a := ⟨sn.toNat, by omega⟩
    obtain ⟨d, rfl⟩ : ∃ a : Nat, wd = a := ⟨wd.toNat, by omega⟩
    refine (uwrite_ok a b d n cap w hL hcap hcm hs hm h).mono ?_
    rintro e w' ⟨v, rfl, ho, hb⟩
    exact ⟨.inl ⟨h, a, b, d, v, rfl, rfl, rfl, rfl, ho⟩, hb⟩
/-- what Read answers, whatever the bytes are -/
def RdAny (bs : List Nat) (wd : Int) (w : World) (e : Ending) (w' : World) : Prop :=
  ((∃ (d fi sn : Nat) (L : List RowB) (A : Option Addr) (c : Nat), wd = d ∧ umdRd bs d = (0, fi, sn, texts L) ∧ e = .returned (.tuple #[.agg #[.int .i64 fi, .int .i64 sn, .slice A L.length c], .int .i64 0]) ∧ OwnR w.heap.size w' (.slice A L.length c) L ∧ L.length ≤ c ∧ c ≤ 9223372036854775807) ∨
   ((∀ d : Nat, wd = d → (umdRd bs d).1 ≠ 0) ∧ ∃ er : Int, er ≠ 0 ∧ e = .returned (.tuple #[.agg #[.int .i64 0, .int .i64 0, .slice none 0 0], .int .i64 er]))) ∧ Below w.heap.size w w'
theorem uread_any {A : Option Addr} {bs : List Nat} (wd : Int) (n cap : Nat) (w : World) (hn : bs.length = n) (hm : n ≤ 8192) (hc : n ≤ cap) (hcm : cap ≤ 9223372036854775807) (hs : Src w A (bts bs)) (hb : ∀ b ∈ bs, b < 256) :
    Calls Try.prog 25 #[.slice A n cap, .int .i64 wd] w (RdAny bs wd w) := by
  have key : ∀ d : Nat, wd = d → ∀ e w', UrdAns w.heap.size w (umdRd bs d) e w' → RdAny bs wd w e w' := by
    rintro d rfl e w' ⟨h | h, hbl⟩
    · obtain ⟨h0, v, L, h1, rfl, ho⟩ := h
      obtain ⟨Av, cv, rfl, g1, g2⟩ := ho.form
      refine ⟨.inl ⟨d, (umdRd bs d).2.1, (umdRd bs d).2.2.1, L, Av, cv, rfl, ?_, rfl, ho, g1, g2⟩, hbl⟩
      rw [← h0, ← h1]
    · obtain ⟨h0, rfl⟩ := h
      exact ⟨.inr ⟨fun d' hd => by
        obtain rfl : d = d' := by omega
        exact h0, _, h0, rfl⟩, hbl⟩
  by_cases h5 : wd = 5
  · subst h5
    exact (uread_5 n cap w hn hm hc hcm hs hb).mono fun e w' h => key 5 rfl e w' h
  · by_cases h10 : wd = 10
    · subst h10
      exact (uread_10 n cap w hn hm hc hcm hs hb).mono fun e w' h => key 10 rfl e w' h
    · refine (uread_kind (bs := bs) n cap wd w h5 h10).mono ?_
      rintro e w' ⟨rfl, hbl⟩
      refine ⟨.inr ⟨fun d hd => ?_, 9, by decide, rfl⟩, hbl⟩
      unfold umdRd
      rw [if_neg (by omega)]
      decide
theorem eqP_self (fi sn : Int) (t : List (List Nat)) : eqP fi sn fi sn t t = true := by simp [eqP]
end Go.Proofs.Ytgdpjaojlhdhdaa
namespace Go.Proofs.Ytgdpjaojlhdhdaa
open Go.RowKit

theorem ub_small {L : List RowB} (h : ∀ t ∈ texts L, ∀ b ∈ t, b < 256) (fi sn wd : Nat) : ∀ b ∈ umdBytes fi sn L wd, b < 256 := by
  intro b hb
  unfold umdBytes at hb
  rw [List.mem_append, List.mem_append] at hb
  rcases hb with (hb | hb) | hb
  · exact pack_small _ b hb
  · exact tail_small _ _ b hb
  · unfold flat at hb
    rw [List.mem_flatten] at hb
    obtain ⟨l, hl, hb⟩ := hb
    exact h l hl b hb
theorem fieldsT_small {ts : List Txt} {k : Nat} {n : Int} (h : ∀ t ∈ ts, ∀ b ∈ t.bs, b < 256) : ∀ t ∈ fieldsT (ts.map Txt.bs) k n, ∀ b ∈ t, b < 256 := by
  intro t ht b hb
  unfold fieldsT at ht
  rw [List.mem_append] at ht
  rcases ht with ht | ht
  · obtain ⟨y, hy, rfl⟩ := List.mem_map.1 (List.mem_of_mem_take ht)
    exact h y hy b hb
  · split at ht
    · cases ht
    · rw [List.mem_singleton] at ht
      subst ht
      have hb2 := List.mem_of_mem_take hb
      rw [List.getD_eq_getElem?_getD] at hb2
      cases hk : (ts.map Txt.bs)[k]? with
      | none => rw [hk] at hb2; cases hb2
      | some y =>
        rw [hk] at hb2
        obtain ⟨z, hz, rfl⟩ := List.mem_map.1 (List.mem_of_getElem? hk)
        exact h z hz b hb2
set_option maxRecDepth 100000 in
/-- what is built is read -/
theorem built_read {B f sn wd m cp : Nat} {A : Option Addr} {L : List RowB} {w : World} (ho : OwnY B w (.slice A m cp) (umdBytes f sn L wd)) (hm : (umdBytes f sn L wd).length = m) (hw : umdF f sn (lens L) wd ≠ 0) (hb : ∀ t ∈ texts L, ∀ b ∈ t, b < 256) :
    Calls Try.prog 25 #[.slice A m cp, .int .i64 wd] w fun e w' => ∃ (M : List RowB) (A : Option Addr) (c : Nat), e = .returned (.tuple #[.agg #[.int .i64 f, .int .i64 sn, .slice A M.length c], .int .i64 0]) ∧ texts M = texts L ∧ OwnR w.heap.size w' (.slice A M.length c) M ∧ Below w.heap.size w w' := by
  obtain ⟨A', c', e, g1, g2⟩ := ho.form
  injection e with e1 e2 e3
  subst e1 e3
  unfold maxLen at g2
  have hlen := umd_len hw
  have hbig := umdF_big f sn (lens L) wd
  refine (uread_any wd m cp w hm (by omega) (by omega) (by omega) ho.src (ub_small hb f sn wd)).mono ?_
  rintro e w' ⟨⟨d, fi, s2, M, A2, c2, h1, h2, rfl, h3, _, _⟩ | ⟨h1, _⟩, hbl⟩
  · obtain rfl : d = wd := by omega
    rw [umd_back hw] at h2
    injection h2 with _ h2
    injection h2 with h4 h2
    injection h2 with h5 h6
    subst h4 h5
    exact ⟨M, A2, c2, rfl, h6.symm, h3, hbl⟩
  · exact absurd (by rw [umd_back hw]) (h1 wd rfl)
theorem us_no (c : Cf) (W : World) (h : checkF c ≠ 0 ∨ c.mode ≠ 1) : Calls Try.prog 20 #[.agg c.a] W fun e w' => ∃ er : Int, e = .returned (.tuple #[.pointer none, .int .i64 er]) ∧ er ≠ 0 ∧ Below W.heap.size W w' := by
  obtain ⟨mode, bits, win, reo, prx, pro, ppd, pby, mrx, qb⟩ := c
  by_cases h1 : checkF ⟨mode, bits, win, reo, prx, pro, ppd, pby, mrx, qb⟩ = 0
  · refine (unew_kind mode bits win reo prx pro ppd pby mrx qb W h1 (by rcases h with h | h; exact absurd h1 h; exact h)).mono ?_
    rintro e w' ⟨rfl, hb⟩
    exact ⟨9, rfl, by decide, hb⟩
  · refine (unew_bad mode bits win reo prx pro ppd pby mrx qb W h1).mono ?_
    rintro e w' ⟨rfl, hb⟩
    exact ⟨_, rfl, h1, hb⟩
end Go.Proofs.Ytgdpjaojlhdhdaa
