/-
  seqnum: the number that lies so far behind another. umtx: something is built wherever something waits and there is room; it is a packet. umtx: nothing is built. umtx: all let go, and begun anew. A list of the call's own of one-cell elements: one more (append); how it looks. The document's queue: in memory; its first text, its numbers, its bytes.
-/
import Derived.Test.YtjonkpdjhjobfaaJUmtxLives02
import Derived.Test.YtjonkpdjhjobfaaJUmtxLives13
import Derived.Test.YtjonkpdjhjobfaaJUmtxLives10
import Derived.Test.YtjonkpdjhjobfaaJUmtxLives07
import Derived.Test.YtjonkpdjhjobfaaJUmtxLives08
import Derived.Test.YtjonkpdjhjobfaaJUmtxLives09
import Derived.Test.YtjonkpdjhjobfaaJUmtxLives01
namespace Go.Proofs.Ytjonkpdjhjobfaa
open Go.RowKit

def flt (b : Int) (xs : List Int) : Int := if rt b then (if xs.all (okn b) then 0 else 1) else 3

theorem all_take_step {xs : List Int} {p : Int → Bool} {k : Nat} (hk : k < xs.length) (h : (xs.take k).all p = true) (hx : p xs[k] = true) : (xs.take (k + 1)).all p = true := by
  rw [List.take_succ_eq_append_getElem hk, List.all_append, h]; simp [hx]
theorem all_take_out {xs : List Int} {p : Int → Bool} {k : Nat} (hk : k < xs.length) (hx : p xs[k] = false) : xs.all p = false := by
  rw [List.all_eq_false]; exact ⟨xs[k], List.getElem_mem _, by simp [hx]⟩

set_option maxHeartbeats 400000 in
theorem fault_any (b : Int) (xs : List Int) (g : Nat) (w : World) (hx : ∀ i, (h : i < xs.length) → w.cell? ⟨g, i, none⟩ = some (.int .i64 xs[i])) (hg : g < w.heap.size) (hl : xs.length ≤ 3) :
    Calls Try.prog 163 #[.agg #[.int .i64 b], .slice (some ⟨g, 0, none⟩) xs.length xs.length] w fun e w' => e = .returned (.int .i64 (flt b xs)) ∧ Below w.heap.size w w' := by
  have HX := Lib.hid hx
  clear hx
  cases hr : rt b
  · have hf : flt b xs = 3 := by unfold flt; rw [hr]; rfl
    have HF := Lib.hid hf
    have H := Lib.hid hr
    clear hr hf
    go_enter Try.func163, Try.ntmps163
    go_wp2_with (go_at_call 205; refine (sqright_any _ _).mono ?_; rintro e w1 ⟨rfl, hb⟩; rw [H.out])
    go_ret
    exact ⟨ret_int HF.out.symm, ((Below.refl _ _).alloc (Nat.le_refl _) _).trans (hb.mono (by simp))⟩
  · have hf : flt b xs = if xs.all (okn b) then 0 else 1 := by unfold flt; rw [hr]; rfl
    have HF := Lib.hid hf
    have H := Lib.hid hr
    clear hr hf
    go_enter Try.func163, Try.ntmps163
    go_wp2_with (go_at_call 205; refine (sqright_any _ _).mono ?_; rintro e w1 ⟨rfl, hb⟩; rw [H.out])
    go_loopw [12] (fun i wr => ∃ k : Nat, k ≤ xs.length ∧ i = .int .i64 k ∧ Hid ((xs.take k).all (okn b) = true) ∧ Below (w.alloc (.cells #[.int .i64 b] 148)).heap.size (w.alloc (.cells #[.int .i64 b] 148)) wr) (fun i _ => xs.length - (intOf i).toNat)
    case atStart => exact ⟨0, by omega, rfl, Lib.hid (by simp), hb⟩
    case round =>
      obtain ⟨k, hk, rfl, hall, hbr⟩ := hrel
      have hfin : Below w.heap.size w wr := ((Below.refl _ _).alloc (Nat.le_refl _) _).trans (hbr.mono (by simp))
      have hbox : wr.cell? ⟨w.heap.size, 0, none⟩ = some (.int .i64 b) := (hbr.cell (p := ⟨w.heap.size, 0, none⟩) (by simp)).trans (by simp)
      by_cases hlt : k < xs.length
      · have hcell : wr.cell? ⟨g, k, none⟩ = some (.int .i64 xs[k]) := ((hbr.cell (p := ⟨g, k, none⟩) (by simp; omega)).trans (World.cell?_alloc_lt w _ _ hg)).trans (HX.out k hlt)
        have HB := Lib.hid hbr
        clear hb hbr
        cases ho : okn b xs[k]
        · have hA := Lib.hid (all_take_out hlt ho)
          have HO := Lib.hid ho
          clear ho
          go_wp2_with (go_at_call 180; refine (sqis_any _ _ _).mono ?_; rintro e w1 ⟨rfl, hb1⟩; rw [HO.out])
          go_ret
          exact ⟨ret_int (by rw [HF.out, hA.out]; rfl), hfin.trans (hb1.mono hfin.size)⟩
        · have hA := Lib.hid (all_take_step hlt hall.out ho)
          have HO := Lib.hid ho
          clear ho
          go_wp2_with (go_at_call 180; refine (sqis_any _ _ _).mono ?_; rintro e w1 ⟨rfl, hb1⟩; rw [HO.out])
          go_roundw
          case rel => exact ⟨k + 1, by omega, by go_num, hA, HB.out.trans (hb1.mono HB.out.size)⟩
          case measure => simp [intOf]; omega
      · clear hb
        go_wp2
        go_ret
        exact ⟨ret_int (by rw [HF.out, ← List.take_of_length_le (i := k) (l := xs) (by omega), hall.out]; rfl), hfin⟩

theorem okn_true_2 {b n : Int} (h : okn b n = true) : 0 ≤ n ∧ n < sz b := of_decide_eq_true h
theorem flt_ok {b : Int} {xs : List Int} (hr : rt b = true) (h : xs.all (okn b) = true) : flt b xs = 0 := by
  unfold flt; rw [hr, h]; rfl
theorem flt_ne {b : Int} {xs : List Int} (h : (rt b && xs.all (okn b)) = false) : flt b xs = 1 ∨ flt b xs = 3 := by
  unfold flt
  cases hr : rt b
  · right; rfl
  · left
    rw [hr, Bool.true_and] at h
    rw [h]; rfl
theorem all1 {p : Int → Bool} (a : Int) : [a].all p = p a := by simp

theorem cells1 {w : World} {a : Int} (i : Nat) (hi : i < [a].length) : (w.alloc (.cells #[.int .i64 a] 3)).cell? ⟨w.heap.size, i, none⟩ = some (.int .i64 [a][i]) := by
  match i, hi with
  | 0, _ => simp
theorem fault1 (b a : Int) (w : World) (g : Nat) (hg : w.heap.size = g) : Calls Try.prog 163 #[.agg #[.int .i64 b], .slice (some ⟨g, 0, none⟩) 1 1] (w.alloc (.cells #[.int .i64 a] 3)) fun e w' => e = .returned (.int .i64 (flt b [a])) ∧ Below (w.alloc (.cells #[.int .i64 a] 3)).heap.size (w.alloc (.cells #[.int .i64 a] 3)) w' := by
  subst hg
  exact fault_any b [a] w.heap.size _ cells1 (by simp) (by simp)
def GoE (b n c : Int) : Int := if rt b && [n].all (okn b) then (if c < -65536 ∨ 65536 < c then 1 else 0) else flt b [n]
def GoV (b n c : Int) : Int := if rt b && [n].all (okn b) then (if c < -65536 ∨ 65536 < c then 0 else (n + c) % sz b) else 0

theorem sz_dvd {b : Int} (hr : rt b = true) (x : Int) : (x + 65536) % sz b = x % sz b := by
  obtain h | h | h | h | h | h | h | h | h | h | h | h | h | h | h | h := sz_cases hr <;> rw [h] <;> omega

set_option maxHeartbeats 800000 in
theorem Go_any (b n c : Int) (w : World) :
    Calls Try.prog 87 #[.agg #[.int .i64 b], .int .i64 n, .int .i64 c] w fun e w' => e = .returned (.tuple #[.int .i64 (GoV b n c), .int .i64 (GoE b n c)]) ∧ Below w.heap.size w w' := by
  cases hq : rt b && [n].all (okn b)
  · have hv : GoV b n c = 0 := by unfold GoV; rw [hq]; rfl
    have he : GoE b n c = flt b [n] := by unfold GoE; rw [hq]; rfl
    have hn' : (flt b [n] != 0) = true := by have := flt_ne hq; simp; omega
    have HV := Lib.hid hv
    have HE := Lib.hid he
    clear hv hq he
    rw [HV.out, HE.out]
    go_enter Try.func87, Try.ntmps87
    go_wp2
    go_step3
    go_wp2_with (go_at_call 163; refine (fault1 b n _ _ ?_).mono ?_; simp; rintro e w1 ⟨rfl, hb1⟩)
    rw [Exit.noGoto_ret]
    go_ret2
    exact ⟨rfl, by repeat (first | exact Below.refl _ _ | refine bl_alloc ?_ _ | refine bl_drew ?_ | refine bl_step ?_ (by assumption))⟩
  · have hv : GoV b n c = if c < -65536 ∨ 65536 < c then 0 else (n + c) % sz b := by unfold GoV; rw [hq]; rfl
    have hge : GoE b n c = if c < -65536 ∨ 65536 < c then 1 else 0 := by unfold GoE; rw [hq]; rfl
    rw [all1, Bool.and_eq_true] at hq
    obtain ⟨hr, h1⟩ := hq
    have he : flt b [n] = 0 := flt_ok hr (by rw [all1, h1])
    have hs := sz_cases hr
    have hz : 2 ≤ sz b ∧ sz b ≤ 65536 := by omega
    obtain ⟨hz1, hz2⟩ := hz
    obtain ⟨ha1, ha2⟩ := okn_true_2 h1
    have HV := Lib.hid hv
    have HG := Lib.hid hge
    have HE := Lib.hid he
    have HR := Lib.hid hr
    clear hv he hr h1 hge hs
    rw [HV.out, HG.out]
    by_cases c1 : c < -65536
    · rw [if_pos (Or.inl c1), if_pos (Or.inl c1)]
      go_enter Try.func87, Try.ntmps87
      go_wp2
      go_step3
      go_wp2_with (go_at_call 163; refine (fault1 b n _ _ ?_).mono ?_; simp; rintro e w1 ⟨rfl, hb1⟩; obtain ⟨hc1, hf1⟩ := bcell hb1; rw [HE.out])
      rw [Exit.noGoto_ret]
      go_ret2
      exact ⟨rfl, by repeat (first | exact Below.refl _ _ | refine bl_alloc ?_ _ | refine bl_drew ?_ | refine bl_step ?_ (by assumption))⟩
    · by_cases c2 : 65536 < c
      · rw [if_pos (Or.inr c2), if_pos (Or.inr c2)]
        go_enter Try.func87, Try.ntmps87
        go_wp2
        go_step3
        go_wp2_with (go_at_call 163; refine (fault1 b n _ _ ?_).mono ?_; simp; rintro e w1 ⟨rfl, hb1⟩; obtain ⟨hc1, hf1⟩ := bcell hb1; rw [HE.out])
        rw [Exit.noGoto_ret]
        go_ret2
        exact ⟨rfl, by repeat (first | exact Below.refl _ _ | refine bl_alloc ?_ _ | refine bl_drew ?_ | refine bl_step ?_ (by assumption))⟩
      · rw [if_neg (by omega), if_neg (by omega)]
        by_cases c3 : c < 0
        · go_enter Try.func87, Try.ntmps87
          go_wp2
          refine wp_scope_jumps 0 (fun a' w' => Fr [some (.agg #[.int .i64 b]), some (.int .i64 n), some (.int .i64 c), some (.pointer (some ⟨w.heap.size, 0, none⟩)), none, none, none, none, none, none, none, none, none, none, none, none, none, none, none, none, none, none, none, none, none, none, none, none, none, none, none, none, none, none, none, none, none, none, none] a' ∧ Below (w.alloc (.cells #[.int .i64 b] 148)).heap.size (w.alloc (.cells #[.int .i64 b] 148)) w') (fun _ _ => 0) rfl ?_ ?_
          · go_wp2_with (first
              | (go_at_call 163; refine (fault1 b n _ _ ?_).mono ?_; simp; rintro e w1 ⟨rfl, hb1⟩; obtain ⟨hc1, hf1⟩ := bcell hb1; rw [HE.out])
              | (go_at_call 164; refine (sqsize_any _ _).mono ?_; rintro e w2 ⟨rfl, hb2⟩))
            go_step3
            refine ⟨rfl, ?_, ?_⟩
            · simp only [Fr, Holes]
              repeat apply Exists.intro
              rfl
            · exact ((Below.refl _ _).alloc (by simp) _).trans (hb1.mono (by simp))
          · rintro a' w' ⟨hfr, hbr⟩
            simp only [Fr, Holes] at hfr
            repeat (obtain ⟨_, hfr⟩ := hfr)
            have hbox : w'.cell? ⟨w.heap.size, 0, none⟩ = some (.int .i64 b) := (hbr.cell (p := ⟨w.heap.size, 0, none⟩) (by simp)).trans (by simp)
            have HB := Lib.hid hbr
            clear hbr
            go_wp2_with (go_at_call 164; refine (sqsize_any _ _).mono ?_; rintro e w2 ⟨rfl, hb2⟩)
            simp only [Exit.jump]
            go_ret2
            exact ⟨ret_ints (sz_dvd HR.out _) rfl, bl_step (((Below.refl _ _).alloc (Nat.le_refl _) _).trans (HB.out.mono (by simp))) hb2⟩
        · go_enter Try.func87, Try.ntmps87
          go_wp2
          go_step3
          go_wp2_with (first
            | (go_at_call 163; refine (fault1 b n _ _ ?_).mono ?_; simp; rintro e w1 ⟨rfl, hb1⟩; obtain ⟨hc1, hf1⟩ := bcell hb1; rw [HE.out])
            | (go_at_call 164; refine (sqsize_any _ _).mono ?_; rintro e w2 ⟨rfl, hb2⟩))
          rw [Exit.noGoto_ret]
          go_ret2
          exact ⟨rfl, by repeat (first | exact Below.refl _ _ | refine bl_alloc ?_ _ | refine bl_drew ?_ | refine bl_step ?_ (by assumption))⟩
theorem go_val {b n c : Int} (hr : rt b = true) (h1 : okn b n = true) (h2 : -65536 ≤ c) (h3 : c ≤ 65536) : GoE b n c = 0 ∧ GoV b n c = (n + c) % sz b := by
  have hq : (rt b && [n].all (okn b)) = true := by rw [all1, hr, h1]; rfl
  unfold GoE GoV
  rw [hq]
  simp only [if_true]
  rw [if_neg (by omega), if_neg (by omega)]
  exact ⟨rfl, rfl⟩
end Go.Proofs.Ytjonkpdjhjobfaa
namespace Go.Proofs.Ytjonkpdjhjobfaa
open Go.RowKit

theorem built_of {k : Nat} {n : Int} {P Q : Prop} (h : 0 < k ∨ 0 < n) (hz : (k = 0 ∧ n ≤ 0 ∧ P) ∨ Q) : Q := by
  rcases hz with ⟨h1, h2, _⟩ | h3
  · omega
  · exact h3
theorem built_some {ls : List Nat} {k : Nat} {n room : Int} (h1 : 1 ≤ room) (h : Bld room 11 ls k n) (h0 : 0 < ls.length) (hp : ∀ l ∈ ls, 0 < l) : 0 < k ∨ 0 < n := by
  rcases Nat.eq_zero_or_pos k with hk | hk
  · right
    subst hk
    have hn := h.next
    have hz : sizeF (([] : List Nat).length : Nat) 11 = 0 := by decide +kernel
    have hl := hp _ (List.mem_of_getElem? (getD_at h0))
    unfold nextF at hn
    rw [List.take_zero, hz, if_neg (by decide)] at hn
    simp only [List.sum_nil] at hn
    omega
  · exact .inl hk
theorem mem_fieldsL {ls : List Nat} {k : Nat} {n room : Int} (h : Bld room 11 ls k n) (hp : ∀ l ∈ ls, 0 < l) (hm : ∀ l ∈ ls, l ≤ 1000) : ∀ l ∈ fieldsL ls k n, 1 ≤ l ∧ l ≤ 1000 := by
  intro l hl
  unfold fieldsL at hl
  rw [List.mem_append] at hl
  rcases hl with hl | hl
  · have h1 := List.mem_of_mem_take hl
    exact ⟨hp l h1, hm l h1⟩
  · split at hl
    · cases hl
    · rename_i hn
      rw [List.mem_singleton] at hl
      rcases h.less with h2 | ⟨h2, h3, h4⟩
      · omega
      · have h5 := hm _ (List.mem_of_getElem? (getD_at h2))
        subst hl
        omega
theorem okTo_small16 {ls : List Nat} (h : ∀ l ∈ ls, 1 ≤ l ∧ l ≤ 1000) : okTo ls ls.length = true := by
  unfold okTo
  rw [List.all_eq_true]
  intro j hj
  rw [List.mem_range] at hj
  have h1 := h _ (List.mem_of_getElem? (getD_at hj))
  unfold okAt
  rw [Bool.and_eq_true, decide_eq_true_iff, decide_eq_true_iff]
  refine ⟨h1.1, ?_⟩
  split <;> omega
theorem len_fieldsL {ls : List Nat} {k : Nat} {n room : Int} (h : Bld room 11 ls k n) (hkn : 0 < k ∨ 0 < n) : 1 ≤ (fieldsL ls k n).length := by
  have := h.le
  unfold fieldsL
  rw [List.length_append, List.length_take]
  split
  · rcases hkn with h1 | h1
    · simp; omega
    · omega
  · simp
theorem umd_built {ls : List Nat} {k : Nat} {n room bits fi sn : Int} (hb : bits = 5 ∨ bits = 10) (h0 : 0 ≤ room) (hr : room + bits / 5 ≤ 4000) (h : Bld room 11 ls k n) (hp : ∀ l ∈ ls, 0 < l) (hm : ∀ l ∈ ls, l ≤ 1000) (hkn : 0 < k ∨ 0 < n) (hf0 : 0 ≤ fi) (hf1 : fi ≤ 3) (hs : okn bits sn = true) :
    umdF fi sn (fieldsL ls k n) bits ≠ 0 ∧ umdF fi sn (fieldsL ls k n) bits ≤ room + bits / 5 := by
  have hx : (0 : Int) < sizeF 1 11 := by decide +kernel
  obtain ⟨h1, _, h3⟩ := h.fits hp h0 hx
  have h4 := len_fieldsL h hkn
  have h5 := okTo_small16 (mem_fieldsL h hp hm)
  have h6 := sizeF_nonneg (((fieldsL ls k n).length : Int) - 1) 11
  unfold bytesC at h1
  rw [if_neg (by omega), if_pos hx] at h1
  have h7 : 1 ≤ bits / 5 := by rcases hb with rfl | rfl <;> decide
  unfold umdF fieldsF
  rw [if_pos ⟨hb, hf0, hf1, hs⟩, if_pos ⟨h4, h3, h5, by omega⟩]
  omega
theorem faultU_zero {g n b : Int} (h : faultU g n b = 0) : 0 ≤ g ∧ g ≤ 4096 ∧ n ≠ 0 ∧ b / 5 < g := by
  unfold faultU at h
  repeat' split at h
  all_goals omega
end Go.Proofs.Ytjonkpdjhjobfaa
namespace Go.Proofs.Ytjonkpdjhjobfaa
open Go.RowKit

section
variable {B x q last : Nat} {c : Cf} {room nx : Int} {ts : List Txt} {w : World}
set_option maxRecDepth 100000 in
set_option maxHeartbeats 1600000 in
theorem ubuild_bad (g : Int) (hE : Row w x 34 (SCells c (.pointer (some ⟨q, 0, none⟩)) nx)) (h : QRep B w q room last ts) (hr : 0 < room) (hb : c.bits = 5 ∨ c.bits = 10) (hbb : bytesF ts ≤ 1000000000) (hf : faultU g (bytesF ts : Nat) c.bits ≠ 0) :
    Calls Try.prog 13 #[.pointer (some ⟨x, 0, none⟩), .int .i64 g] w fun e w' => e = .returned (.tuple #[.slice none 0 0, .slice none 0 0, .int .i64 (faultU g (bytesF ts : Nat) c.bits)]) ∧ Below w.heap.size w w' := by
  have HQ := Lib.hid (usource_any hE)
  have HP := Lib.hid (fun W (hW : Below w.heap.size w W) => ufault_any g hb (h.later hW) hr hbb)
  generalize faultU g (bytesF ts : Nat) c.bits = er at *
  have hne : (er != 0) = true := by simpa using hf
  obtain ⟨mode, bits, win, reo, prx, pro, ppd, pby, mrx, qb⟩ := c
  unfold MCells at *
  simp only at HQ HP
  clear hE h hf hb
  go_enter Try.func13, Try.ntmps13
  go_wp2_with (first
    | (go_at_call 81; (with_reducible refine HQ.out.mono ?_); rintro e w1 ⟨rfl, hb1⟩; (have HB1 := Lib.hid hb1; have HROW := Lib.hid (Row.made w1 32 #[.int .i64 mode, .int .i64 bits, .int .i64 win, .int .i64 reo, .int .i64 prx, .int .i64 pro, .int .i64 ppd, .int .i64 pby, .int .i64 mrx, .int .i64 qb, .pointer (some ⟨q, 0, none⟩)]); obtain ⟨c0, c1, c2, c3, c4, c5, c6, c7, c8, c9, c10⟩ := mcell_reads HROW.out; clear hb1))
    | (go_at_call 83; (with_reducible refine (HP.out _ (bl_alloc HB1.out _)).mono ?_); rintro e w2 ⟨rfl, hb2⟩; (have HB2 := Lib.hid (bl_step (bl_alloc HB1.out _) hb2); clear hb2)))
  go_ret3
  exact ⟨rfl, HB2.out⟩
end
end Go.Proofs.Ytjonkpdjhjobfaa
namespace Go.Proofs.Ytjonkpdjhjobfaa
open Go.RowKit

section
variable {B p q x last : Nat} {room nx : Int} {c : Cf} {ts : List Txt} {w : World}
theorem qclear_end (h : QRep B w p room last ts) : QRep B (w.setCell ⟨p, 2, none⟩ (.slice none 0 0)) p room last [] ∧ QOnly B w (w.setCell ⟨p, 2, none⟩ (.slice none 0 0)) := by
  obtain ⟨hp, hB, sv, hrow, hown, hl⟩ := h
  have hq : QOnly B w (w.setCell ⟨p, 2, none⟩ (.slice none 0 0)) := (Only.refl _ _).set (p := ⟨p, 2, none⟩) (.inl (QT.self hp hrow)) _
  refine ⟨⟨hp, by have := hq.size; omega, _, hrow.written 2 _, ?_, fun t ht => by cases ht⟩, hq⟩
  exact OwnX.nil
set_option maxRecDepth 100000 in
set_option maxHeartbeats 1600000 in
theorem qclear_any (h : QRep B w p room last ts) (hr : 0 < room) (hn : ts.length ≤ 900) :
    Calls Try.prog 90 #[.pointer (some ⟨p, 0, none⟩)] w fun e w' => ∃ g, e = .returned (.slice (some ⟨g, 0, none⟩) ts.length ts.length) ∧ w.heap.size ≤ g ∧ Row w' g 35 (idv ts).toArray ∧ QRep B w' p room last [] ∧ QOnly B w w' := by
  have HI := Lib.hid (ids_any h hr (by omega))
  have HQ := Lib.hid h
  obtain ⟨hp, hB, sv, hrow, hown, hl⟩ := h
  have HR := Lib.hid hrow
  have f2 := hrow.free 2
  have c2 := hrow.read (i := 2) (x := sv) rfl
  clear hrow hown hl
  go_enter Try.func90, Try.ntmps90
  go_wp2_with (first
    | (go_at_call 147; (with_reducible refine (none_not HR.out hr).mono ?_); rintro e _ ⟨rfl, rfl⟩)
    | (go_at_call 167; (with_reducible refine HI.out.mono ?_); rintro e w1 ⟨g, rfl, hg, hrw, hb1⟩; (have HG := Lib.hid hg; have HRW := Lib.hid hrw; have HB1 := Lib.hid hb1; have HQ1 := Lib.hid (HQ.out.later hb1); have HR1 := Lib.hid (HR.out.later hb1); have f3 := HR1.out.free 2; have c3 := HR1.out.read (i := 2) (x := sv) rfl; clear hg hrw hb1 f2 c2)))
  have HE := Lib.hid (qclear_end HQ1.out)
  go_ret
  exact ⟨g, rfl, HG.out, HE.out.2.row HRW.out (by decide) (by decide), HE.out.1, (QOnly.of_below HB1.out).trans HE.out.2⟩
theorem row_type {W : World} {k : Nat} {t t' : TypeId} {cs cs' : Array Value} (h : Row W k t cs) (h' : Row W k t' cs') : t = t' := by
  unfold Row at h h'
  rw [h] at h'
  have e := Option.some.inj h'
  cases e
  rfl
theorem QRep.sender {W : World} {cs : Array Value} (h : QRep B W q room last ts) (hE : Row W x 34 cs) (i : Nat) (v : Value) : QRep B (W.setCell ⟨x, i, none⟩ v) q room last ts :=
  h.apart (S := fun k => k = x) ((Only.refl (fun k => k = x) W).set (p := ⟨x, i, none⟩) (.inl rfl) v) (fun k hk t cs' hr => by
    subst hk
    have e := row_type hE hr
    subst e
    decide)
set_option maxRecDepth 100000 in
set_option maxHeartbeats 1600000 in
theorem ureset_any (hE : Row w x 34 (SCells c (.pointer (some ⟨q, 0, none⟩)) nx)) (h : QRep B w q room last ts) (hr : 0 < room) (hn : ts.length ≤ 900) :
    Calls Try.prog 17 #[.pointer (some ⟨x, 0, none⟩)] w fun e w' => ∃ g, e = .returned (.slice (some ⟨g, 0, none⟩) ts.length ts.length) ∧ w.heap.size ≤ g ∧ Row w' g 35 (idv ts).toArray ∧ QRep B w' q room last [] ∧ Row w' x 34 (SCells c (.pointer (some ⟨q, 0, none⟩)) 0) ∧ QOnly B (w.setCell ⟨x, 11, none⟩ (.int .i64 0)) w' := by
  have HC := Lib.hid (qclear_any (h.sender hE 11 (.int .i64 0)) hr hn)
  have HR := Lib.hid (hE.written 11 (.int .i64 0))
  have f2 := hE.free 11
  have c2 := hE.read (i := 11) (x := .int .i64 nx) rfl
  have c3 := HR.out.read (i := 10) (x := .pointer (some ⟨q, 0, none⟩)) rfl
  clear hE h
  go_enter Try.func17, Try.ntmps17
  go_wp2_with (go_at_call 90; (with_reducible refine HC.out.mono ?_); rintro e w1 ⟨g, rfl, hg, hrw, hq, ho⟩; (have HG := Lib.hid hg; have HRW := Lib.hid hrw; have HQ1 := Lib.hid hq; have HO := Lib.hid ho; clear hg hrw hq ho))
  go_ret
  exact ⟨g, rfl, by have := HG.out; simpa using this, HRW.out, HQ1.out, HO.out.row HR.out (by decide) (by decide), HO.out⟩
end
end Go.Proofs.Ytjonkpdjhjobfaa
namespace Go.Proofs.Ytjonkpdjhjobfaa
open Go.RowKit

theorem wpList_is {P : Program} {ops : Array Oper} {rest : List Oper} {o : Oper} {a : Act} {w : World} {Q : Exit → Act → World → Prop} (hgd : o.guard = none) (s x : Operand) (t : TypeId)
    (ho : o.op = .call { callee := .builtin .append, args := #[s, x], argTypes := #[t, t] }) (v u : Value) (hs : a.eval s = v) (hx : a.eval x = u) {v' : Value} {w' : World}
    (hr : (Builtin.append_ #[t, t] o.type #[v, u]).run P w = .ok v' w') (h : wpList P ops Q rest (a.put o.dst v') w') : wpList P ops Q (o :: rest) a w :=
  wpList_plain hgd fun _ hK => by
    unfold Oper.wp execOp
    simp only [ho, resolve, invoke, builtin, Sem.run_bind, Sem.run_pure, Result.andThen_ok, List.map_toArray, List.map_cons, List.map_nil, hs, hx, hr]
    exact hK _ _ h
theorem add_zero_o (g j : Nat) : (⟨g, 0, none⟩ : Addr).add j = ⟨g, j, none⟩ := by
  unfold Addr.add
  split
  · rename_i h; rw [h]
  · simp
section
variable {m n : Nat} {w v : World} {x u z : Value} {xs : List Value} {T E by' : Nat}
theorem own_next (hT : Try.prog.underlying T = some (.slice E)) (hI : (Try.prog.info? E).map (fun i => (i.zero, i.size, i.bytes)) = some (some z, 1, by')) (hz : z.cells.size = 1) (hby : by' ≤ 24) (hu : u.oneCell' = true) (h : w.ownsRow m E 1 x n xs) (hm : m ≤ w.heap.size) (hn : n ≤ 100000) :
    ∃ A' c' w2, (Builtin.append_ #[T, T] T #[x, .slice (some ⟨w.heap.size, 0, none⟩) 1 1]).run Try.prog (w.alloc (.cells #[u] E)) = .ok (.slice A' (n + 1) c') w2 ∧
      w2.ownsRow m E 1 (.slice A' (n + 1) c') (n + 1) (xs ++ [u]) ∧ Only (fun k => x.ownBlock = some k) w w2 := by
  obtain ⟨i0, hi, hi0, hi1, hi2⟩ := info_parts hI
  have hbA := bl_alloc (Below.refl w.heap.size w) (.cells #[u] E)
  have a4' := own_only h (S := fun _ => False) (.of_below hbA) (fun _ _ hk => hk)
  obtain ⟨v', w2, hrun, hown, hgr, _, hat⟩ := run_append_own_at (P := Try.prog) (w := w.alloc (.cells #[u] E)) m T T E i0 z 1 by' hT hi hi0 hi1 hi2 hz (by omega) x n xs a4' ⟨w.heap.size, 0, none⟩ 1 1 [u] rfl
    (fun j u' hu' => by
      match j, hu' with
      | 0, hu' =>
        simp only [List.getElem?_cons_zero, Option.some.injEq] at hu'
        subst hu'
        rw [add_zero_o]
        exact (Row.made w E #[u]).read rfl
      | j + 1, hu' => simp at hu') (by intro y hy; simp at hy; subst hy; exact hu) (by unfold maxLen; omega) (by have := Nat.mul_le_mul (show n + 1 ≤ 100001 by omega) hby; omega) (by have := hbA.size; omega)
  have hon : Only (fun k => x.ownBlock = some k) w w2 := (Only.of_below hbA).andThen ((Only.refl _ _).grown hgr (fun k hk => .inl hk) : Only (fun k => x.ownBlock = some k) _ _) (fun k _ hk => hk)
  obtain ⟨A', c', rfl⟩ : ∃ A' c', v' = .slice A' (n + 1) c' := by
    rcases hown.2 with ⟨_, e⟩ | ⟨g, cap, cur, e, _⟩
    · omega
    · exact ⟨some ⟨g, 0, none⟩, cap, e⟩
  exact ⟨A', c', w2, hrun, hown, hon⟩
theorem own_shape (h : w.ownsRow m E 1 x n xs) : ∃ A c, x = .slice A n c ∧ n ≤ c ∧ c ≤ 9223372036854775807 := by
  rcases h.2 with ⟨rfl, rfl⟩ | ⟨g, cap, cur, rfl, _, _, h1, h2, _⟩
  · exact ⟨none, 0, rfl, Nat.le_refl _, by decide⟩
  · exact ⟨_, cap, rfl, h1, by unfold maxLen at h2; omega⟩
theorem own_after (h : w.ownsRow m E 1 x n xs) (hb : Below w.heap.size w v) : v.ownsRow m E 1 x n xs := own_only h (S := fun _ => False) (.of_below hb) (fun _ _ hk => hk)
/-- what lies behind a slice: in one block, that is not older than block m -/
def SlAt (m E : Nat) (w : World) (A : Option Addr) (xs : List Value) : Prop :=
  xs ≠ [] → ∃ (g : Nat) (cs : Array Value), A = some ⟨g, 0, none⟩ ∧ m ≤ g ∧ Row w g E cs ∧ ∀ (i : Nat) (u : Value), xs[i]? = some u → cs[i]? = some u
theorem own_at {A : Option Addr} {c : Nat} (h : w.ownsRow m E 1 (.slice A n c) n xs) : SlAt m E w A xs := by
  intro hne
  rcases h.2 with ⟨h1, h2⟩ | ⟨g, cap, cur, h1, h2, h3, h4, h5, h6, h7⟩
  · exfalso
    have := h.1
    rw [h2] at this
    exact hne (List.eq_nil_of_length_eq_zero (by omega))
  · injection h1 with hA _ _
    refine ⟨g, cur, hA, h2, h3, fun i u hu => ?_⟩
    have hi := (List.getElem?_eq_some_iff.1 hu).1
    have hl := h.1
    rw [← h7, List.getElem?_take] at hu
    split at hu
    · simpa using hu
    · cases hu
theorem SlAt.only {S : Nat → Prop} {A : Option Addr} (h : SlAt m E w A xs) (ho : Only S w v) (hS : ∀ g cs, Row w g E cs → m ≤ g → ¬ S g) : SlAt m E v A xs := by
  intro hne
  obtain ⟨g, cs, h1, h2, h3, h4⟩ := h hne
  exact ⟨g, cs, h1, h2, h3.only ho (hS g cs h3 h2), h4⟩
theorem SlAt.later {A : Option Addr} (h : SlAt m E w A xs) (hb : Below w.heap.size w v) : SlAt m E v A xs := h.only (S := fun _ => False) (.of_below hb) (fun _ _ _ _ hk => hk)
theorem SlAt.cell {A : Option Addr} (h : SlAt m E w A xs) {i : Nat} {u : Value} (hu : xs[i]? = some u) : ∃ g, A = some ⟨g, 0, none⟩ ∧ w.cell? ⟨g, i, none⟩ = some u := by
  obtain ⟨g, cs, h1, h2, h3, h4⟩ := h (by rintro rfl; simp at hu)
  exact ⟨g, h1, h3.read (h4 i u hu)⟩
end
end Go.Proofs.Ytjonkpdjhjobfaa
namespace Go.Proofs.Ytjonkpdjhjobfaa
open Go.RowKit

structure Ent where
  g : Nat
  c : Nat
  bs : List Nat
  tk : Nat
  gone : Bool
def eL (E : List Ent) : List Value := E.map fun e => .slice (some ⟨e.g, 0, none⟩) e.bs.length e.c
def eT (E : List Ent) : List Value := E.map fun e => .int .i64 (e.tk : Int)
def eG (E : List Ent) : List Value := E.map fun e => .bool e.gone
def Ent.ok (B : Nat) (w : World) (e : Ent) : Prop :=
  0 < e.bs.length ∧ e.bs.length ≤ 1000 ∧ e.tk ≤ e.bs.length ∧ (e.gone = false → e.tk < e.bs.length) ∧ e.bs.length ≤ e.c ∧ e.c ≤ 9223372036854775807 ∧ B ≤ e.g ∧
    ∃ cs, Row w e.g 5 cs ∧ ∀ (j b : Nat), e.bs[j]? = some b → cs[j]? = some (.int .u8 b)
/-- the three lists of a queue of the document's -/
structure RL (w : World) (B : Nat) (E : List Ent) (AL AT AG : Option Addr) (cL cT cG : Nat) : Prop where
  l : w.ownsRow B 38 1 (.slice AL E.length cL) E.length (eL E)
  t : w.ownsRow B 3 1 (.slice AT E.length cT) E.length (eT E)
  g : w.ownsRow B 4 1 (.slice AG E.length cG) E.length (eG E)
structure RQ (w : World) (y B : Nat) (room : Int) (E : List Ent) : Prop where
  row : ∃ AL cL AT cT AG cG, Row w y 52 #[.int .i64 room, .slice AL E.length cL, .slice AT E.length cT, .slice AG E.length cG] ∧ RL w B E AL AT AG cL cT cG
  ent : ∀ e ∈ E, e.ok B w
  many : E.length ≤ 200
section
variable {w v : World} {y B : Nat} {room : Int} {E : List Ent} {AL AT AG : Option Addr} {cL cT cG : Nat}
theorem Ent.ok.only {S : Nat → Prop} {e : Ent} (h : e.ok B w) (ho : Only S w v) (hS : ∀ g cs, Row w g 5 cs → ¬ S g) : e.ok B v := by
  obtain ⟨h1, h2, h3, h4, h5, h6, h7, cs, h8, h9⟩ := h
  exact ⟨h1, h2, h3, h4, h5, h6, h7, cs, h8.only ho (hS _ _ h8), h9⟩
theorem own_typed {m E' n : Nat} {x : Value} {xs : List Value} {S : Nat → Prop} (h : w.ownsRow m E' 1 x n xs) (ho : Only S w v) (hS : ∀ g cs, Row w g E' cs → ¬ S g) : v.ownsRow m E' 1 x n xs :=
  own_only h ho fun k hk => by
    rcases h.2 with ⟨rfl, _⟩ | ⟨g, cap, cur, rfl, _, hh, _⟩
    · simp [Value.ownBlock] at hk
    · have e1 : g = k := by simpa [Value.ownBlock] using hk
      subst e1
      exact hS _ _ hh
theorem RQ.only {S : Nat → Prop} (h : RQ w y B room E) (ho : Only S w v) (hy : ¬ S y) (hS : ∀ g t cs, Row w g t cs → t = 3 ∨ t = 4 ∨ t = 5 ∨ t = 38 → ¬ S g) : RQ v y B room E := by
  obtain ⟨AL, cL, AT, cT, AG, cG, h1, h2⟩ := h.row
  exact ⟨⟨AL, cL, AT, cT, AG, cG, h1.only ho hy, ⟨own_typed h2.l ho fun g cs hr => hS g _ cs hr (by simp), own_typed h2.t ho fun g cs hr => hS g _ cs hr (by simp), own_typed h2.g ho fun g cs hr => hS g _ cs hr (by simp)⟩⟩, fun e he => (h.ent e he).only ho fun g cs hr => hS g _ cs hr (by simp), h.many⟩
theorem RQ.later (h : RQ w y B room E) (hb : Below w.heap.size w v) : RQ v y B room E := h.only (S := fun _ => False) (.of_below hb) (fun hk => hk) (fun _ _ _ _ _ hk => hk)
theorem eG_at {i : Nat} {e : Ent} (h : E[i]? = some e) : (eG E)[i]? = some (.bool e.gone) := by unfold eG; rw [List.getElem?_map, h]; rfl
theorem eT_at {i : Nat} {e : Ent} (h : E[i]? = some e) : (eT E)[i]? = some (.int .i64 (e.tk : Int)) := by unfold eT; rw [List.getElem?_map, h]; rfl
theorem eL_at {i : Nat} {e : Ent} (h : E[i]? = some e) : (eL E)[i]? = some (.slice (some ⟨e.g, 0, none⟩) e.bs.length e.c) := by unfold eL; rw [List.getElem?_map, h]; rfl
theorem qcells {n : Nat} (hr : Row w y 52 #[.int .i64 room, .slice AL n cL, .slice AT n cT, .slice AG n cG]) : w.cell? ⟨y, 0, none⟩ = some (.int .i64 room) ∧ w.cell? ⟨y, 1, none⟩ = some (.slice AL n cL) ∧ w.cell? ⟨y, 2, none⟩ = some (.slice AT n cT) ∧ w.cell? ⟨y, 3, none⟩ = some (.slice AG n cG) := ⟨hr.read rfl, hr.read rfl, hr.read rfl, hr.read rfl⟩
/-- the place of the first text that is not gone -/
def fE (E : List Ent) : Nat := E.findIdx fun e => !e.gone
def fEi (E : List Ent) : Int := if fE E < E.length then (fE E : Int) else -1
theorem fE_before {i : Nat} {e : Ent} (h : E[i]? = some e) (hi : i < fE E) : e.gone = true := by
  have hl := (List.getElem?_eq_some_iff.1 h).1
  have he := (List.getElem?_eq_some_iff.1 h).2
  have := List.not_of_lt_findIdx hi
  rw [he] at this
  simpa using this
theorem fE_at {e : Ent} (h : E[fE E]? = some e) : e.gone = false := by
  have hl := (List.getElem?_eq_some_iff.1 h).1
  have he := (List.getElem?_eq_some_iff.1 h).2
  have := List.findIdx_getElem (w := hl)
  rw [← he]
  simp only [Bool.not_eq_true'] at this
  exact this
theorem fE_le : fE E ≤ E.length := List.findIdx_le_length
set_option maxRecDepth 100000 in
set_option maxHeartbeats 1600000 in
theorem rq_first (h : RQ w y B room E) : Calls Try.prog 206 #[.pointer (some ⟨y, 0, none⟩)] w fun e w' => e = .returned (.int .i64 (fEi E)) ∧ w = w' := by
  obtain ⟨AL, cL, AT, cT, AG, cG, hr, hl⟩ := h.row
  have HG := Lib.hid (own_at hl.g)
  have HB := Lib.hid (fun i e (h : E[i]? = some e) (hi : i < fE E) => fE_before h hi)
  have HA := Lib.hid (fun e (h : E[fE E]? = some e) => fE_at h)
  have hle := fE_le (E := E)
  have HF := Lib.hid (show fEi E = if fE E < E.length then (fE E : Int) else -1 from rfl)
  have HN := Lib.hid (fun i (hi : i < E.length) => (⟨_, List.getElem?_eq_getElem hi⟩ : ∃ e, E[i]? = some e))
  have hm := h.many
  generalize hf : fE E = f at *
  generalize hn : E.length = n at *
  obtain ⟨c0, c1, c2, c3⟩ := qcells hr
  clear h hr hl hn hf
  go_enter Try.func206, Try.ntmps206
  go_wp2
  go_loopw [3] (fun s3 wr => ∃ i : Nat, i ≤ f ∧ s3 = .int .i64 i ∧ w = wr) (fun s3 _ => f - (intOf s3).toNat)
  case atStart => exact ⟨0, by omega, rfl, rfl⟩
  case round =>
    obtain ⟨i, hi, rfl, rfl⟩ := hrel
    by_cases hlt : i < n
    · obtain ⟨e, he⟩ := HN.out i hlt
      obtain ⟨g, rfl, z⟩ := HG.out.cell (eG_at he)
      have h1 : (i : Int) < n := by omega
      have h0 : (0 : Int) ≤ i := by omega
      by_cases hif : i < f
      · have hg := HB.out i e he hif
        rw [hg] at z
        have HIF := Lib.hid hif
        clear he hg hlt hif
        go_wp2
        go_roundw
        case rel => exact ⟨i + 1, by have := HIF.out; omega, by go_num, trivial⟩
        case measure => have := HIF.out; simp [intOf]; omega
      · obtain rfl : i = f := by omega
        have hg := HA.out e he
        rw [hg] at z
        have HR := Lib.hid (show fEi E = (i : Int) by rw [HF.out, if_pos hlt])
        clear he hg hlt hif
        go_wp2
        go_ret
        exact ⟨ret_int HR.out.symm, rfl⟩
    · have h1 : ¬ (i : Int) < n := by omega
      have HR := Lib.hid (show fEi E = -1 by rw [HF.out, if_neg (by omega)])
      clear hlt
      go_wp2
      go_ret
      exact ⟨ret_int HR.out.symm, rfl⟩
def idk (E : List Ent) (k : Nat) : List Nat := ((List.range k).filter fun i => !((E[i]?.map Ent.gone).getD true)).map fun i => i + 1
def u64v (l : List Nat) : List Value := l.map fun b : Nat => .int .u64 (b : Int)
theorem idk_succ {k : Nat} {e : Ent} (h : E[k]? = some e) : idk E (k + 1) = idk E k ++ (if e.gone = true then [] else [k + 1]) := by
  unfold idk
  rw [List.range_succ, List.filter_append, List.map_append]
  congr 1
  by_cases hg : e.gone = true
  · rw [if_pos hg, List.filter_cons_of_neg (by rw [h]; simp [hg])]; rfl
  · rw [if_neg hg, List.filter_cons_of_pos (by rw [h]; simpa using hg)]; rfl
theorem idk_le (E : List Ent) (k : Nat) : (idk E k).length ≤ k := by
  unfold idk
  rw [List.length_map]
  exact Nat.le_trans (List.length_filter_le _ _) (by simp)
theorem u64v_app (l k : List Nat) : u64v (l ++ k) = u64v l ++ u64v k := by unfold u64v; simp
set_option maxRecDepth 100000 in
set_option maxHeartbeats 3200000 in
theorem rq_ids (h : RQ w y B room E) : Calls Try.prog 92 #[.pointer (some ⟨y, 0, none⟩)] w fun e w' => ∃ A c, e = .returned (.slice A (idk E E.length).length c) ∧ SlAt w.heap.size 35 w' A (u64v (idk E E.length)) ∧ Below w.heap.size w w' := by
  obtain ⟨AL, cL, AT, cT, AG, cG, hr, hl⟩ := h.row
  have HG := Lib.hid (own_at hl.g)
  have HR := Lib.hid hr
  have HN := Lib.hid (fun i (hi : i < E.length) => (⟨_, List.getElem?_eq_getElem hi⟩ : ∃ e, E[i]? = some e))
  have HS := Lib.hid (fun k e (h : E[k]? = some e) => idk_succ h)
  have HL := Lib.hid (idk_le E)
  have HZ0 : ∀ wr : World, wr.ownsRow w.heap.size 35 1 (.slice none 0 0) (idk E 0).length (u64v (idk E 0)) := fun wr => World.ownsRow_nil _ _ _ _
  have HZ := Lib.hid HZ0
  clear HZ0
  have hm := h.many
  generalize idk E = id at *
  generalize hn : E.length = n at *
  clear h hr hl hn
  go_enter Try.func92, Try.ntmps92
  go_wp2
  go_loopw [3, 4] (fun s3 s4 wr => ∃ i : Nat, i ≤ n ∧ s4 = .int .i64 i ∧ Hid (wr.ownsRow w.heap.size 35 1 s3 (id i).length (u64v (id i))) ∧ Hid (Below w.heap.size w wr)) (fun _ s4 _ => n - (intOf s4).toNat)
  case atStart => exact ⟨0, by omega, rfl, Lib.hid (HZ.out _), Lib.hid (Below.refl _ _)⟩
  case round =>
    obtain ⟨i, hi, rfl, HOW, HBr⟩ := hrel
    obtain ⟨A3, c3', rfl, hc3, hc3m⟩ := own_shape HOW.out
    obtain ⟨c0, c1, c2, c3⟩ := qcells (HR.out.later HBr.out)
    by_cases hlt : i < n
    · obtain ⟨e, he⟩ := HN.out i hlt
      obtain ⟨g, rfl, z⟩ := (HG.out.later HBr.out).cell (eG_at he)
      have h1 : (i : Int) < n := by omega
      have h0 : (0 : Int) ≤ i := by omega
      have HSI := Lib.hid (HS.out i e he)
      have HLT := Lib.hid hlt
      have hu : IntKind.u64.wrap ((i : Int) + 1) = ((i + 1 : Nat) : Int) := by rw [IntKind.wrap_u64]; omega
      have hu0 : IntKind.u64.wrap (i : Int) = (i : Int) := by rw [IntKind.wrap_u64]; omega
      clear he hlt
      cases hg : e.gone
      · rw [hg] at z HSI
        simp only [Bool.false_eq_true, if_false] at HSI
        obtain ⟨A', c', w3, hrun, hown, hon⟩ := own_next (T := 39) (E := 35) (u := .int .u64 ((i + 1 : Nat) : Int)) (by kernel_rfl) (show (Try.prog.info? 35).map (fun i => (i.zero, i.size, i.bytes)) = some (some (.int .u64 0), 1, 8) by kernel_rfl) rfl (by omega) rfl HOW.out HBr.out.size (by have := HL.out i; omega)
        have HRUN := Lib.hid hrun
        have HOWN := Lib.hid hown
        have HON := Lib.hid (hon.below HBr.out.size (fun j hj hk => by have := (own_block HOW.out j hk).1; omega))
        clear hrun hown hon hg
        go_wp2_with (first
          | (at_builtin; refine wpList_is rfl (.tmp 22) (.tmp 26) 39 rfl _ _ (by rfl) (by rfl) HRUN.out ?_)
          | go_in)
        go_roundw
        case rel => exact ⟨i + 1, by have := HLT.out; omega, by go_num, Lib.hid (by rw [HSI.out, List.length_append, u64v_app]; exact HOWN.out), Lib.hid (HBr.out.trans HON.out)⟩
        case measure => have := HLT.out; simp [intOf]; omega
      · rw [hg] at z HSI
        simp only [if_true, List.append_nil] at HSI
        clear hg
        go_wp2
        go_roundw
        case rel => exact ⟨i + 1, by have := HLT.out; omega, by go_num, Lib.hid (by rw [HSI.out]; exact HOW.out), HBr⟩
        case measure => have := HLT.out; simp [intOf]; omega
    · have h1 : ¬ (i : Int) < n := by omega
      obtain rfl : i = n := by omega
      clear hlt
      go_wp2
      go_ret
      refine ⟨A3, ⟨c3', rfl⟩, own_at HOW.out, HBr.out⟩
/-- how many bytes wait of the first k texts -/
def byk (E : List Ent) (k : Nat) : Nat := ((E.take k).map fun e => if e.gone then 0 else e.bs.length - e.tk).sum
theorem byk_succ {k : Nat} {e : Ent} (h : E[k]? = some e) : byk E (k + 1) = byk E k + (if e.gone = true then 0 else e.bs.length - e.tk) := by
  unfold byk
  rw [List.take_add_one, h]
  simp
theorem byk_le (he : ∀ e ∈ E, e.bs.length ≤ 1000) (k : Nat) : byk E k ≤ 1000 * k := by
  induction k with
  | zero => simp [byk]
  | succ k ih =>
    by_cases hk : k < E.length
    · rw [byk_succ (List.getElem?_eq_getElem hk)]
      have := he _ (List.getElem_mem hk)
      split <;> omega
    · have : byk E (k + 1) = byk E k := by
        unfold byk
        rw [List.take_of_length_le (by omega), List.take_of_length_le (by omega)]
      omega
set_option maxRecDepth 100000 in
set_option maxHeartbeats 3200000 in
theorem rq_bytes (h : RQ w y B room E) : Calls Try.prog 25 #[.pointer (some ⟨y, 0, none⟩)] w fun e w' => e = .returned (.int .i64 (byk E E.length : Nat)) ∧ Below w.heap.size w w' := by
  obtain ⟨AL, cL, AT, cT, AG, cG, hr, hl⟩ := h.row
  have HG := Lib.hid (own_at hl.g)
  have HT := Lib.hid (own_at hl.t)
  have HLL := Lib.hid (own_at hl.l)
  have HR := Lib.hid hr
  have HE := Lib.hid h.ent
  have HN := Lib.hid (fun i (hi : i < E.length) => (⟨_, List.getElem?_eq_getElem hi⟩ : ∃ e, E[i]? = some e))
  have HS := Lib.hid (fun k e (h : E[k]? = some e) => byk_succ h)
  have HL := Lib.hid (byk_le (E := E) fun e he => (h.ent e he).2.1)
  have HZ := Lib.hid (show byk E 0 = 0 from rfl)
  have hm := h.many
  generalize byk E = by' at *
  generalize hn : E.length = n at *
  clear h hr hl hn
  go_enter Try.func25, Try.ntmps25
  go_wp2
  go_loopw [3, 4] (fun s3 s4 wr => ∃ i q : Nat, i ≤ n ∧ s4 = .int .i64 i ∧ s3 = .int .i64 (q : Int) ∧ Hid (by' i = q) ∧ q ≤ 200000 ∧ Hid (Below w.heap.size w wr)) (fun _ s4 _ => n - (intOf s4).toNat)
  case atStart => exact ⟨0, 0, by omega, rfl, rfl, HZ, by omega, Lib.hid (Below.refl _ _)⟩
  case round =>
    obtain ⟨i, q, hi, rfl, rfl, HQ, hq, HBr⟩ := hrel
    obtain ⟨c0, c1, c2, c3⟩ := qcells (HR.out.later HBr.out)
    by_cases hlt : i < n
    · obtain ⟨e, he⟩ := HN.out i hlt
      obtain ⟨g, rfl, z⟩ := (HG.out.later HBr.out).cell (eG_at he)
      have h1 : (i : Int) < n := by omega
      have h0 : (0 : Int) ≤ i := by omega
      have HSI := Lib.hid (HS.out i e he)
      have HLT := Lib.hid hlt
      have hbd := HL.out (i + 1)
      cases hg : e.gone
      · rw [hg] at z HSI
        simp only [Bool.false_eq_true, if_false] at HSI
        obtain ⟨g1, rfl, z1⟩ := (HT.out.later HBr.out).cell (eT_at he)
        obtain ⟨g2, rfl, z2⟩ := (HLL.out.later HBr.out).cell (eL_at he)
        obtain ⟨e1, e2, e3, _⟩ := HE.out e (List.mem_of_getElem? he)
        have HSJ := Lib.hid (show ((q : Int) + (e.bs.length : Int) - (e.tk : Int)) = ((by' (i + 1) : Nat) : Int) by rw [HSI.out, HQ.out]; omega)
        have HBD := Lib.hid (show by' (i + 1) ≤ 200000 by omega)
        generalize e.bs.length = bl at *
        generalize e.tk = tk at *
        clear he hg hlt e1 hbd
        have w1 : IntKind.i64.wrap ((q : Int) + (bl : Int)) = (q : Int) + bl := IntWalk.i64_in _ (by omega)
        have w2 : IntKind.i64.wrap ((q : Int) + (bl : Int) - (tk : Int)) = (q : Int) + bl - tk := IntWalk.i64_in _ (by omega)
        go_wp2
        go_quiet (fail)
        go_wp2
        go_roundw
        case rel => exact ⟨i + 1, by' (i + 1), by have := HLT.out; omega, by go_num, by rw [HSJ.out], Lib.hid rfl, HBD.out, Lib.hid (below_drewN HBr.out _)⟩
        case measure => have := HLT.out; simp [intOf]; omega
      · rw [hg] at z HSI
        simp only [if_true, Nat.add_zero] at HSI
        clear hg
        go_wp2
        go_roundw
        case rel => exact ⟨i + 1, q, by have := HLT.out; omega, by go_num, rfl, Lib.hid (by rw [HSI.out]; exact HQ.out), hq, HBr⟩
        case measure => have := HLT.out; simp [intOf]; omega
    · have h1 : ¬ (i : Int) < n := by omega
      obtain rfl : i = n := by omega
      clear hlt
      go_wp2
      go_ret
      exact ⟨ret_int (by rw [HQ.out]), HBr.out⟩
end
end Go.Proofs.Ytjonkpdjhjobfaa
