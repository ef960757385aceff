/-
  umtx: the bytes of a head; why nothing is built. seqnum: the number that lies so far behind another. umtx: something is built wherever something waits and there is room; it is a packet. umtx: nothing is built. umtx: all let go, and begun anew. A list of the call's own of one-cell elements: one more (append); how it looks.
-/
import Derived.Test.YtgdpjaojlhdhdaaJUmtxNumbers21
import Derived.Test.YtgdpjaojlhdhdaaJUmtxNumbers18
import Derived.Test.YtgdpjaojlhdhdaaJUmtxNumbers02
import Derived.Test.YtgdpjaojlhdhdaaJUmtxNumbers14
import Derived.Test.YtgdpjaojlhdhdaaJUmtxNumbers15
import Derived.Test.YtgdpjaojlhdhdaaJUmtxNumbers16
import Derived.Test.YtgdpjaojlhdhdaaJUmtxNumbers01
namespace Go.Proofs.Ytgdpjaojlhdhdaa
open Go.RowKit

section
variable {B q last : Nat} {c : Cf} {room : Int} {ts : List Txt} {w : World}
theorem rsrc_one {W : World} {g1 g2 : Nat} (h1 : Row W g1 5 #[.int .u8 0]) (h2 : Row W g2 30 #[.slice (some ⟨g1, 0, none⟩) 1 1]) : RSrc W (some ⟨g2, 0, none⟩) [⟨some ⟨g1, 0, none⟩, 1, [0]⟩] := by
  intro _
  refine ⟨_, rfl, ?_⟩
  intro k r hk
  rcases k with _ | k
  · simp at hk
    subst hk
    exact ⟨h2.read rfl, row_src (xs := bts [0]) h1, Nat.le_refl _, by show 1 ≤ 9223372036854775807; decide, by show ∀ b ∈ [0], b < 256; decide⟩
  · simp at hk
theorem usize_one {W : World} {g1 g2 : Nat} (bits : Int) (hb : bits = 5 ∨ bits = 10) (h1 : Row W g1 5 #[.int .u8 0]) (h2 : Row W g2 30 #[.slice (some ⟨g1, 0, none⟩) 1 1]) :
    Calls Try.prog 266 #[.agg #[.int .i64 0, .int .i64 0, .slice (some ⟨g2, 0, none⟩) 1 1], .int .i64 bits] W fun e w' => e = .returned (.int .i64 (bits / 5 + 1)) ∧ Below W.heap.size W w' := by
  have h := usize_any 0 0 bits 1 1 W rfl (by omega) (rsrc_one h1 h2) (by show ∀ m ∈ [1], m ≤ 9223372036854775807; decide)
  have e : umdF 0 0 (lens [⟨some ⟨g1, 0, none⟩, 1, [0]⟩]) bits = bits / 5 + 1 := by
    show umdF 0 0 [1] bits = bits / 5 + 1
    rcases hb with rfl | rfl <;> decide +kernel
  rw [e] at h
  exact h
theorem three_rows (W : World) (n : Nat) (hW : W.heap.size = n) :
    Row (((W.alloc (.cells #[.int .u8 0] 5)).alloc (.cells #[.slice (some ⟨n, 0, none⟩) 1 1] 30)).alloc (.cells #[.int .i64 0, .int .i64 0, .slice (some ⟨n + 1, 0, none⟩) 1 1] 42)) n 5 #[.int .u8 0] ∧
    Row (((W.alloc (.cells #[.int .u8 0] 5)).alloc (.cells #[.slice (some ⟨n, 0, none⟩) 1 1] 30)).alloc (.cells #[.int .i64 0, .int .i64 0, .slice (some ⟨n + 1, 0, none⟩) 1 1] 42)) (n + 1) 30 #[.slice (some ⟨n, 0, none⟩) 1 1] := by
  subst hW
  refine ⟨((Row.made W 5 #[.int .u8 0]).later (bl_alloc (Below.refl _ _) _)).later (bl_alloc (Below.refl _ _) _), ?_⟩
  have h := (Row.made (W.alloc (.cells #[.int .u8 0] 5)) 30 #[.slice (some ⟨W.heap.size, 0, none⟩) 1 1]).later (bl_alloc (Below.refl _ _) (.cells #[.int .i64 0, .int .i64 0, .slice (some ⟨W.heap.size + 1, 0, none⟩) 1 1] 42))
  rw [show (W.alloc (.cells #[.int .u8 0] 5)).heap.size = W.heap.size + 1 by simp] at h
  exact h
set_option maxRecDepth 100000 in
set_option maxHeartbeats 1600000 in
theorem uhead_any (v : Option Addr) (hb : c.bits = 5 ∨ c.bits = 10) : Calls Try.prog 157 #[.agg (MCells c (.pointer v))] w fun e w' => e = .returned (.int .i64 (c.bits / 5)) ∧ Below w.heap.size w w' := by
  have HS := Lib.hid (fun W g1 g2 h1 h2 => usize_one (W := W) (g1 := g1) (g2 := g2) c.bits hb h1 h2)
  obtain ⟨mode, bits, win, reo, prx, pro, ppd, pby, mrx, qb⟩ := c
  unfold MCells
  simp only at *
  have hz : wrap64 (bits / 5) = bits / 5 := by
    rcases hb with rfl | rfl <;> decide +kernel
  clear hb
  have HA := Lib.hid (bl_alloc (Below.refl w.heap.size w) (.cells #[.int .i64 mode, .int .i64 bits, .int .i64 win, .int .i64 reo, .int .i64 prx, .int .i64 pro, .int .i64 ppd, .int .i64 pby, .int .i64 mrx, .int .i64 qb, .pointer v] 200))
  have HZ := Lib.hid (show (w.alloc (.cells #[.int .i64 mode, .int .i64 bits, .int .i64 win, .int .i64 reo, .int .i64 prx, .int .i64 pro, .int .i64 ppd, .int .i64 pby, .int .i64 mrx, .int .i64 qb, .pointer v] 200)).heap.size = w.heap.size + 1 by simp)
  have HR := Lib.hid (fun W (hW : W.heap.size = w.heap.size + 1) => three_rows W (w.heap.size + 1) hW)
  go_enter Try.func157, Try.ntmps157
  go_wp2_with (go_at_call 266; (have h3 := HR.out _ HZ.out); (with_reducible refine (HS.out _ _ _ h3.1 h3.2).mono ?_); rintro e w2 ⟨rfl, hb2⟩; (have H2 := Lib.hid (bl_step (bl_alloc (bl_alloc (bl_alloc HA.out _) _) _) hb2)); clear hb2 h3)
  go_ret
  exact ⟨ret_int hz, H2.out⟩
theorem mcell_reads {W : World} {x : Nat} {mode bits win reo prx pro ppd pby mrx qb : Int} {v : Option Addr} (h : Row W x 200 #[.int .i64 mode, .int .i64 bits, .int .i64 win, .int .i64 reo, .int .i64 prx, .int .i64 pro, .int .i64 ppd, .int .i64 pby, .int .i64 mrx, .int .i64 qb, .pointer v]) : W.cell? ⟨x, 0, none⟩ = some (.int .i64 mode) ∧ W.cell? ⟨x, 1, none⟩ = some (.int .i64 bits) ∧ W.cell? ⟨x, 2, none⟩ = some (.int .i64 win) ∧ W.cell? ⟨x, 3, none⟩ = some (.int .i64 reo) ∧ W.cell? ⟨x, 4, none⟩ = some (.int .i64 prx) ∧ W.cell? ⟨x, 5, none⟩ = some (.int .i64 pro) ∧ W.cell? ⟨x, 6, none⟩ = some (.int .i64 ppd) ∧ W.cell? ⟨x, 7, none⟩ = some (.int .i64 pby) ∧ W.cell? ⟨x, 8, none⟩ = some (.int .i64 mrx) ∧ W.cell? ⟨x, 9, none⟩ = some (.int .i64 qb) ∧ W.cell? ⟨x, 10, none⟩ = some (.pointer v) :=
  ⟨h.read rfl, h.read rfl, h.read rfl, h.read rfl, h.read rfl, h.read rfl, h.read rfl, h.read rfl, h.read rfl, h.read rfl, h.read rfl⟩
/-- why nothing is built to a grant, of n bytes that wait -/
def faultU (g n bits : Int) : Int := if g < 0 ∨ 4096 < g then 1 else if n = 0 then 4 else if g ≤ bits / 5 then 16 else 0
set_option maxRecDepth 100000 in
set_option maxHeartbeats 3200000 in
theorem ufault_any (g : Int) (hb : c.bits = 5 ∨ c.bits = 10) (h : QRep B w q room last ts) (hr : 0 < room) (hbb : bytesF ts ≤ 1000000000) : Calls Try.prog 156 #[.agg (MCells c (.pointer (some ⟨q, 0, none⟩))), .int .i64 g] w fun e w' => e = .returned (.int .i64 (faultU g (bytesF ts : Nat) c.bits)) ∧ Below w.heap.size w w' := by
  have HH := Lib.hid (fun W => uhead_any (c := c) (w := W) (some ⟨q, 0, none⟩) hb)
  have HP := Lib.hid (fun W (hW : Below w.heap.size w W) => qbytes_any (h.later hW) hr hbb)
  have HF := Lib.hid (show faultU g (bytesF ts : Nat) c.bits = faultU g (bytesF ts : Nat) c.bits from rfl)
  obtain ⟨mode, bits, win, reo, prx, pro, ppd, pby, mrx, qb⟩ := c
  unfold MCells at *
  simp only at *
  have HA := Lib.hid (bl_alloc (Below.refl w.heap.size w) (.cells #[.int .i64 mode, .int .i64 bits, .int .i64 win, .int .i64 reo, .int .i64 prx, .int .i64 pro, .int .i64 ppd, .int .i64 pby, .int .i64 mrx, .int .i64 qb, .pointer (some ⟨q, 0, none⟩)] 200))
  have HROW := Lib.hid (Row.made w 200 #[.int .i64 mode, .int .i64 bits, .int .i64 win, .int .i64 reo, .int .i64 prx, .int .i64 pro, .int .i64 ppd, .int .i64 pby, .int .i64 mrx, .int .i64 qb, .pointer (some ⟨q, 0, none⟩)])
  generalize bytesF ts = n at *
  generalize hd0 : bits / 5 = hd at *
  have HD := Lib.hid hd0
  clear hd0
  clear hb h hbb
  obtain ⟨c0, c1, c2, c3, c4, c5, c6, c7, c8, c9, c10⟩ := mcell_reads HROW.out
  clear HF
  go_enter Try.func156, Try.ntmps156
  go_wp2_with (first
    | (go_at_call 119; (with_reducible refine (HP.out _ HA.out).mono ?_); rintro e w2 ⟨rfl, hb2⟩; (have HB2 := Lib.hid (bl_step HA.out hb2); have ROW2 := Lib.hid (HROW.out.later hb2); clear hb2 c0 c1 c2 c3 c4 c5 c6 c7 c8 c9 c10; obtain ⟨c0, c1, c2, c3, c4, c5, c6, c7, c8, c9, c10⟩ := mcell_reads ROW2.out))
    | (go_at_call 157; (with_reducible refine (HH.out _).mono ?_); rintro e w3 ⟨rfl, hb3⟩; (have HB3 := Lib.hid (bl_step HB2.out hb3); clear hb3)))
  · go_ret
    exact ⟨ret_int (by unfold faultU; rw [if_pos (by assumption)]), HA.out⟩
  · go_ret
    rename_i hn0
    have hn0 : n = 0 := by simpa using hn0
    exact ⟨ret_int (by unfold faultU; rw [if_neg (by omega), if_pos (by omega)]), HB2.out⟩
  · go_ret
    rename_i hn0 hg0
    have hn0 : n ≠ 0 := by simpa using hn0
    exact ⟨ret_int (by unfold faultU; rw [HD.out, if_neg (by omega), if_neg (by omega), if_pos (by omega)]), HB3.out⟩
  · go_ret
    rename_i hn0 hg0
    have hn0 : n ≠ 0 := by simpa using hn0
    exact ⟨ret_int (by unfold faultU; rw [HD.out, if_neg (by omega), if_neg (by omega), if_neg (by omega)]), HB3.out⟩
  · go_ret
    exact ⟨ret_int (by unfold faultU; rw [if_pos (by omega)]), HA.out⟩
end
end Go.Proofs.Ytgdpjaojlhdhdaa
namespace Go.Proofs.Ytgdpjaojlhdhdaa
open Go.RowKit

def flt (b : Int) (xs : List Int) : Int := if rt b then (if xs.all (okn b) then 0 else 1) else 3

theorem all_take_step {xs : List Int} {p : Int → Bool} {k : Nat} (hk : k < xs.length) (h : (xs.take k).all p = true) (hx : p xs[k] = true) : (xs.take (k + 1)).all p = true := by
  rw [List.take_succ_eq_append_getElem hk, List.all_append, h]; simp [hx]
theorem all_take_out {xs : List Int} {p : Int → Bool} {k : Nat} (hk : k < xs.length) (hx : p xs[k] = false) : xs.all p = false := by
  rw [List.all_eq_false]; exact ⟨xs[k], List.getElem_mem _, by simp [hx]⟩

set_option maxHeartbeats 400000 in
theorem fault_any (b : Int) (xs : List Int) (g : Nat) (w : World) (hx : ∀ i, (h : i < xs.length) → w.cell? ⟨g, i, none⟩ = some (.int .i64 xs[i])) (hg : g < w.heap.size) (hl : xs.length ≤ 3) :
    Calls Try.prog 272 #[.agg #[.int .i64 b], .slice (some ⟨g, 0, none⟩) xs.length xs.length] w fun e w' => e = .returned (.int .i64 (flt b xs)) ∧ Below w.heap.size w w' := by
  have HX := Lib.hid hx
  clear hx
  cases hr : rt b
  · have hf : flt b xs = 3 := by unfold flt; rw [hr]; rfl
    have HF := Lib.hid hf
    have H := Lib.hid hr
    clear hr hf
    go_enter Try.func272, Try.ntmps272
    go_wp2_with (go_at_call 298; refine (sqright_any _ _).mono ?_; rintro e w1 ⟨rfl, hb⟩; rw [H.out])
    go_ret
    exact ⟨ret_int HF.out.symm, ((Below.refl _ _).alloc (Nat.le_refl _) _).trans (hb.mono (by simp))⟩
  · have hf : flt b xs = if xs.all (okn b) then 0 else 1 := by unfold flt; rw [hr]; rfl
    have HF := Lib.hid hf
    have H := Lib.hid hr
    clear hr hf
    go_enter Try.func272, Try.ntmps272
    go_wp2_with (go_at_call 298; refine (sqright_any _ _).mono ?_; rintro e w1 ⟨rfl, hb⟩; rw [H.out])
    go_loopw [12] (fun i wr => ∃ k : Nat, k ≤ xs.length ∧ i = .int .i64 k ∧ Hid ((xs.take k).all (okn b) = true) ∧ Below (w.alloc (.cells #[.int .i64 b] 100)).heap.size (w.alloc (.cells #[.int .i64 b] 100)) wr) (fun i _ => xs.length - (intOf i).toNat)
    case atStart => exact ⟨0, by omega, rfl, Lib.hid (by simp), hb⟩
    case round =>
      obtain ⟨k, hk, rfl, hall, hbr⟩ := hrel
      have hfin : Below w.heap.size w wr := ((Below.refl _ _).alloc (Nat.le_refl _) _).trans (hbr.mono (by simp))
      have hbox : wr.cell? ⟨w.heap.size, 0, none⟩ = some (.int .i64 b) := (hbr.cell (p := ⟨w.heap.size, 0, none⟩) (by simp)).trans (by simp)
      by_cases hlt : k < xs.length
      · have hcell : wr.cell? ⟨g, k, none⟩ = some (.int .i64 xs[k]) := ((hbr.cell (p := ⟨g, k, none⟩) (by simp; omega)).trans (World.cell?_alloc_lt w _ _ hg)).trans (HX.out k hlt)
        have HB := Lib.hid hbr
        clear hb hbr
        cases ho : okn b xs[k]
        · have hA := Lib.hid (all_take_out hlt ho)
          have HO := Lib.hid ho
          clear ho
          go_wp2_with (go_at_call 185; refine (sqis_any _ _ _).mono ?_; rintro e w1 ⟨rfl, hb1⟩; rw [HO.out])
          go_ret
          exact ⟨ret_int (by rw [HF.out, hA.out]; rfl), hfin.trans (hb1.mono hfin.size)⟩
        · have hA := Lib.hid (all_take_step hlt hall.out ho)
          have HO := Lib.hid ho
          clear ho
          go_wp2_with (go_at_call 185; refine (sqis_any _ _ _).mono ?_; rintro e w1 ⟨rfl, hb1⟩; rw [HO.out])
          go_roundw
          case rel => exact ⟨k + 1, by omega, by go_num, hA, HB.out.trans (hb1.mono HB.out.size)⟩
          case measure => simp [intOf]; omega
      · clear hb
        go_wp2
        go_ret
        exact ⟨ret_int (by rw [HF.out, ← List.take_of_length_le (i := k) (l := xs) (by omega), hall.out]; rfl), hfin⟩

theorem okn_true_2 {b n : Int} (h : okn b n = true) : 0 ≤ n ∧ n < sz b := of_decide_eq_true h
theorem okn_false {b n : Int} (h : okn b n = false) : n < 0 ∨ sz b ≤ n := by have := of_decide_eq_false h; omega

theorem flt_ok {b : Int} {xs : List Int} (hr : rt b = true) (h : xs.all (okn b) = true) : flt b xs = 0 := by
  unfold flt; rw [hr, h]; rfl
theorem flt_ne {b : Int} {xs : List Int} (h : (rt b && xs.all (okn b)) = false) : flt b xs = 1 ∨ flt b xs = 3 := by
  unfold flt
  cases hr : rt b
  · right; rfl
  · left
    rw [hr, Bool.true_and] at h
    rw [h]; rfl
theorem all1 {p : Int → Bool} (a : Int) : [a].all p = p a := by simp

theorem cells1 {w : World} {a : Int} (i : Nat) (hi : i < [a].length) : (w.alloc (.cells #[.int .i64 a] 3)).cell? ⟨w.heap.size, i, none⟩ = some (.int .i64 [a][i]) := by
  match i, hi with
  | 0, _ => simp
theorem fault1 (b a : Int) (w : World) (g : Nat) (hg : w.heap.size = g) : Calls Try.prog 272 #[.agg #[.int .i64 b], .slice (some ⟨g, 0, none⟩) 1 1] (w.alloc (.cells #[.int .i64 a] 3)) fun e w' => e = .returned (.int .i64 (flt b [a])) ∧ Below (w.alloc (.cells #[.int .i64 a] 3)).heap.size (w.alloc (.cells #[.int .i64 a] 3)) w' := by
  subst hg
  exact fault_any b [a] w.heap.size _ cells1 (by simp) (by simp)
def GoE (b n c : Int) : Int := if rt b && [n].all (okn b) then (if c < -65536 ∨ 65536 < c then 1 else 0) else flt b [n]
def GoV (b n c : Int) : Int := if rt b && [n].all (okn b) then (if c < -65536 ∨ 65536 < c then 0 else (n + c) % sz b) else 0

theorem sz_dvd {b : Int} (hr : rt b = true) (x : Int) : (x + 65536) % sz b = x % sz b := by
  obtain h | h | h | h | h | h | h | h | h | h | h | h | h | h | h | h := sz_cases hr <;> rw [h] <;> omega

set_option maxHeartbeats 800000 in
theorem Go_any (b n c : Int) (w : World) :
    Calls Try.prog 159 #[.agg #[.int .i64 b], .int .i64 n, .int .i64 c] w fun e w' => e = .returned (.tuple #[.int .i64 (GoV b n c), .int .i64 (GoE b n c)]) ∧ Below w.heap.size w w' := by
  cases hq : rt b && [n].all (okn b)
  · have hv : GoV b n c = 0 := by unfold GoV; rw [hq]; rfl
    have he : GoE b n c = flt b [n] := by unfold GoE; rw [hq]; rfl
    have hn' : (flt b [n] != 0) = true := by have := flt_ne hq; simp; omega
    have HV := Lib.hid hv
    have HE := Lib.hid he
    clear hv hq he
    rw [HV.out, HE.out]
    go_enter Try.func159, Try.ntmps159
    go_wp2
    go_step3
    go_wp2_with (go_at_call 272; refine (fault1 b n _ _ ?_).mono ?_; simp; rintro e w1 ⟨rfl, hb1⟩)
    rw [Exit.noGoto_ret]
    go_ret2
    exact ⟨rfl, by repeat (first | exact Below.refl _ _ | refine bl_alloc ?_ _ | refine bl_drew ?_ | refine bl_step ?_ (by assumption))⟩
  · have hv : GoV b n c = if c < -65536 ∨ 65536 < c then 0 else (n + c) % sz b := by unfold GoV; rw [hq]; rfl
    have hge : GoE b n c = if c < -65536 ∨ 65536 < c then 1 else 0 := by unfold GoE; rw [hq]; rfl
    rw [all1, Bool.and_eq_true] at hq
    obtain ⟨hr, h1⟩ := hq
    have he : flt b [n] = 0 := flt_ok hr (by rw [all1, h1])
    have hs := sz_cases hr
    have hz : 2 ≤ sz b ∧ sz b ≤ 65536 := by omega
    obtain ⟨hz1, hz2⟩ := hz
    obtain ⟨ha1, ha2⟩ := okn_true_2 h1
    have HV := Lib.hid hv
    have HG := Lib.hid hge
    have HE := Lib.hid he
    have HR := Lib.hid hr
    clear hv he hr h1 hge hs
    rw [HV.out, HG.out]
    by_cases c1 : c < -65536
    · rw [if_pos (Or.inl c1), if_pos (Or.inl c1)]
      go_enter Try.func159, Try.ntmps159
      go_wp2
      go_step3
      go_wp2_with (go_at_call 272; refine (fault1 b n _ _ ?_).mono ?_; simp; rintro e w1 ⟨rfl, hb1⟩; obtain ⟨hc1, hf1⟩ := bcell hb1; rw [HE.out])
      rw [Exit.noGoto_ret]
      go_ret2
      exact ⟨rfl, by repeat (first | exact Below.refl _ _ | refine bl_alloc ?_ _ | refine bl_drew ?_ | refine bl_step ?_ (by assumption))⟩
    · by_cases c2 : 65536 < c
      · rw [if_pos (Or.inr c2), if_pos (Or.inr c2)]
        go_enter Try.func159, Try.ntmps159
        go_wp2
        go_step3
        go_wp2_with (go_at_call 272; refine (fault1 b n _ _ ?_).mono ?_; simp; rintro e w1 ⟨rfl, hb1⟩; obtain ⟨hc1, hf1⟩ := bcell hb1; rw [HE.out])
        rw [Exit.noGoto_ret]
        go_ret2
        exact ⟨rfl, by repeat (first | exact Below.refl _ _ | refine bl_alloc ?_ _ | refine bl_drew ?_ | refine bl_step ?_ (by assumption))⟩
      · rw [if_neg (by omega), if_neg (by omega)]
        by_cases c3 : c < 0
        · go_enter Try.func159, Try.ntmps159
          go_wp2
          refine wp_scope_jumps 0 (fun a' w' => Fr [some (.agg #[.int .i64 b]), some (.int .i64 n), some (.int .i64 c), some (.pointer (some ⟨w.heap.size, 0, none⟩)), none, none, none, none, none, none, none, none, none, none, none, none, none, none, none, none, none, none, none, none, none, none, none, none, none, none, none, none, none, none, none, none, none, none, none] a' ∧ Below (w.alloc (.cells #[.int .i64 b] 100)).heap.size (w.alloc (.cells #[.int .i64 b] 100)) w') (fun _ _ => 0) rfl ?_ ?_
          · go_wp2_with (first
              | (go_at_call 272; refine (fault1 b n _ _ ?_).mono ?_; simp; rintro e w1 ⟨rfl, hb1⟩; obtain ⟨hc1, hf1⟩ := bcell hb1; rw [HE.out])
              | (go_at_call 192; refine (sqsize_any _ _).mono ?_; rintro e w2 ⟨rfl, hb2⟩))
            go_step3
            refine ⟨rfl, ?_, ?_⟩
            · simp only [Fr, Holes]
              repeat apply Exists.intro
              rfl
            · exact ((Below.refl _ _).alloc (by simp) _).trans (hb1.mono (by simp))
          · rintro a' w' ⟨hfr, hbr⟩
            simp only [Fr, Holes] at hfr
            repeat (obtain ⟨_, hfr⟩ := hfr)
            have hbox : w'.cell? ⟨w.heap.size, 0, none⟩ = some (.int .i64 b) := (hbr.cell (p := ⟨w.heap.size, 0, none⟩) (by simp)).trans (by simp)
            have HB := Lib.hid hbr
            clear hbr
            go_wp2_with (go_at_call 192; refine (sqsize_any _ _).mono ?_; rintro e w2 ⟨rfl, hb2⟩)
            simp only [Exit.jump]
            go_ret2
            exact ⟨ret_ints (sz_dvd HR.out _) rfl, bl_step (((Below.refl _ _).alloc (Nat.le_refl _) _).trans (HB.out.mono (by simp))) hb2⟩
        · go_enter Try.func159, Try.ntmps159
          go_wp2
          go_step3
          go_wp2_with (first
            | (go_at_call 272; refine (fault1 b n _ _ ?_).mono ?_; simp; rintro e w1 ⟨rfl, hb1⟩; obtain ⟨hc1, hf1⟩ := bcell hb1; rw [HE.out])
            | (go_at_call 192; refine (sqsize_any _ _).mono ?_; rintro e w2 ⟨rfl, hb2⟩))
          rw [Exit.noGoto_ret]
          go_ret2
          exact ⟨rfl, by repeat (first | exact Below.refl _ _ | refine bl_alloc ?_ _ | refine bl_drew ?_ | refine bl_step ?_ (by assumption))⟩
theorem go_val {b n c : Int} (hr : rt b = true) (h1 : okn b n = true) (h2 : -65536 ≤ c) (h3 : c ≤ 65536) : GoE b n c = 0 ∧ GoV b n c = (n + c) % sz b := by
  have hq : (rt b && [n].all (okn b)) = true := by rw [all1, hr, h1]; rfl
  unfold GoE GoV
  rw [hq]
  simp only [if_true]
  rw [if_neg (by omega), if_neg (by omega)]
  exact ⟨rfl, rfl⟩
end Go.Proofs.Ytgdpjaojlhdhdaa
namespace Go.Proofs.Ytgdpjaojlhdhdaa
open Go.RowKit

theorem built_of {k : Nat} {n : Int} {P Q : Prop} (h : 0 < k ∨ 0 < n) (hz : (k = 0 ∧ n ≤ 0 ∧ P) ∨ Q) : Q := by
  rcases hz with ⟨h1, h2, _⟩ | h3
  · omega
  · exact h3
theorem built_some {ls : List Nat} {k : Nat} {n room : Int} (h1 : 1 ≤ room) (h : Bld room 11 ls k n) (h0 : 0 < ls.length) (hp : ∀ l ∈ ls, 0 < l) : 0 < k ∨ 0 < n := by
  rcases Nat.eq_zero_or_pos k with hk | hk
  · right
    subst hk
    have hn := h.next
    have hz : sizeF (([] : List Nat).length : Nat) 11 = 0 := by decide +kernel
    have hl := hp _ (List.mem_of_getElem? (getD_at h0))
    unfold nextF at hn
    rw [List.take_zero, hz, if_neg (by decide)] at hn
    simp only [List.sum_nil] at hn
    omega
  · exact .inl hk
theorem mem_fieldsL {ls : List Nat} {k : Nat} {n room : Int} (h : Bld room 11 ls k n) (hp : ∀ l ∈ ls, 0 < l) (hm : ∀ l ∈ ls, l ≤ 1000) : ∀ l ∈ fieldsL ls k n, 1 ≤ l ∧ l ≤ 1000 := by
  intro l hl
  unfold fieldsL at hl
  rw [List.mem_append] at hl
  rcases hl with hl | hl
  · have h1 := List.mem_of_mem_take hl
    exact ⟨hp l h1, hm l h1⟩
  · split at hl
    · cases hl
    · rename_i hn
      rw [List.mem_singleton] at hl
      rcases h.less with h2 | ⟨h2, h3, h4⟩
      · omega
      · have h5 := hm _ (List.mem_of_getElem? (getD_at h2))
        subst hl
        omega
theorem okTo_small16 {ls : List Nat} (h : ∀ l ∈ ls, 1 ≤ l ∧ l ≤ 1000) : okTo ls ls.length = true := by
  unfold okTo
  rw [List.all_eq_true]
  intro j hj
  rw [List.mem_range] at hj
  have h1 := h _ (List.mem_of_getElem? (getD_at hj))
  unfold okAt
  rw [Bool.and_eq_true, decide_eq_true_iff, decide_eq_true_iff]
  refine ⟨h1.1, ?_⟩
  split <;> omega
theorem len_fieldsL {ls : List Nat} {k : Nat} {n room : Int} (h : Bld room 11 ls k n) (hkn : 0 < k ∨ 0 < n) : 1 ≤ (fieldsL ls k n).length := by
  have := h.le
  unfold fieldsL
  rw [List.length_append, List.length_take]
  split
  · rcases hkn with h1 | h1
    · simp; omega
    · omega
  · simp
theorem umd_built {ls : List Nat} {k : Nat} {n room bits fi sn : Int} (hb : bits = 5 ∨ bits = 10) (h0 : 0 ≤ room) (hr : room + bits / 5 ≤ 4000) (h : Bld room 11 ls k n) (hp : ∀ l ∈ ls, 0 < l) (hm : ∀ l ∈ ls, l ≤ 1000) (hkn : 0 < k ∨ 0 < n) (hf0 : 0 ≤ fi) (hf1 : fi ≤ 3) (hs : okn bits sn = true) :
    umdF fi sn (fieldsL ls k n) bits ≠ 0 ∧ umdF fi sn (fieldsL ls k n) bits ≤ room + bits / 5 := by
  have hx : (0 : Int) < sizeF 1 11 := by decide +kernel
  obtain ⟨h1, _, h3⟩ := h.fits hp h0 hx
  have h4 := len_fieldsL h hkn
  have h5 := okTo_small16 (mem_fieldsL h hp hm)
  have h6 := sizeF_nonneg (((fieldsL ls k n).length : Int) - 1) 11
  unfold bytesC at h1
  rw [if_neg (by omega), if_pos hx] at h1
  have h7 : 1 ≤ bits / 5 := by rcases hb with rfl | rfl <;> decide
  unfold umdF fieldsF
  rw [if_pos ⟨hb, hf0, hf1, hs⟩, if_pos ⟨h4, h3, h5, by omega⟩]
  omega
theorem faultU_zero {g n b : Int} (h : faultU g n b = 0) : 0 ≤ g ∧ g ≤ 4096 ∧ n ≠ 0 ∧ b / 5 < g := by
  unfold faultU at h
  repeat' split at h
  all_goals omega
end Go.Proofs.Ytgdpjaojlhdhdaa
namespace Go.Proofs.Ytgdpjaojlhdhdaa
open Go.RowKit

section
variable {B x q last : Nat} {c : Cf} {room nx : Int} {ts : List Txt} {w : World}
set_option maxRecDepth 100000 in
set_option maxHeartbeats 1600000 in
theorem ubuild_bad (g : Int) (hE : Row w x 202 (SCells c (.pointer (some ⟨q, 0, none⟩)) nx)) (h : QRep B w q room last ts) (hr : 0 < room) (hb : c.bits = 5 ∨ c.bits = 10) (hbb : bytesF ts ≤ 1000000000) (hf : faultU g (bytesF ts : Nat) c.bits ≠ 0) :
    Calls Try.prog 24 #[.pointer (some ⟨x, 0, none⟩), .int .i64 g] w fun e w' => e = .returned (.tuple #[.slice none 0 0, .slice none 0 0, .int .i64 (faultU g (bytesF ts : Nat) c.bits)]) ∧ Below w.heap.size w w' := by
  have HQ := Lib.hid (usource_any hE)
  have HP := Lib.hid (fun W (hW : Below w.heap.size w W) => ufault_any g hb (h.later hW) hr hbb)
  generalize faultU g (bytesF ts : Nat) c.bits = er at *
  have hne : (er != 0) = true := by simpa using hf
  obtain ⟨mode, bits, win, reo, prx, pro, ppd, pby, mrx, qb⟩ := c
  unfold MCells at *
  simp only at HQ HP
  clear hE h hf hb
  go_enter Try.func24, Try.ntmps24
  go_wp2_with (first
    | (go_at_call 155; (with_reducible refine HQ.out.mono ?_); rintro e w1 ⟨rfl, hb1⟩; (have HB1 := Lib.hid hb1; have HROW := Lib.hid (Row.made w1 200 #[.int .i64 mode, .int .i64 bits, .int .i64 win, .int .i64 reo, .int .i64 prx, .int .i64 pro, .int .i64 ppd, .int .i64 pby, .int .i64 mrx, .int .i64 qb, .pointer (some ⟨q, 0, none⟩)]); obtain ⟨c0, c1, c2, c3, c4, c5, c6, c7, c8, c9, c10⟩ := mcell_reads HROW.out; clear hb1))
    | (go_at_call 156; (with_reducible refine (HP.out _ (bl_alloc HB1.out _)).mono ?_); rintro e w2 ⟨rfl, hb2⟩; (have HB2 := Lib.hid (bl_step (bl_alloc HB1.out _) hb2); clear hb2)))
  go_ret3
  exact ⟨rfl, HB2.out⟩
end
end Go.Proofs.Ytgdpjaojlhdhdaa
namespace Go.Proofs.Ytgdpjaojlhdhdaa
open Go.RowKit

section
variable {B p q x last : Nat} {room nx : Int} {c : Cf} {ts : List Txt} {w : World}
theorem qclear_end (h : QRep B w p room last ts) : QRep B (w.setCell ⟨p, 2, none⟩ (.slice none 0 0)) p room last [] ∧ QOnly B w (w.setCell ⟨p, 2, none⟩ (.slice none 0 0)) := by
  obtain ⟨hp, hB, sv, hrow, hown, hl⟩ := h
  have hq : QOnly B w (w.setCell ⟨p, 2, none⟩ (.slice none 0 0)) := (Only.refl _ _).set (p := ⟨p, 2, none⟩) (.inl (QT.self hp hrow)) _
  refine ⟨⟨hp, by have := hq.size; omega, _, hrow.written 2 _, ?_, fun t ht => by cases ht⟩, hq⟩
  exact OwnX.nil
set_option maxRecDepth 100000 in
set_option maxHeartbeats 1600000 in
theorem qclear_any (h : QRep B w p room last ts) (hr : 0 < room) (hn : ts.length ≤ 900) :
    Calls Try.prog 115 #[.pointer (some ⟨p, 0, none⟩)] w fun e w' => ∃ g, e = .returned (.slice (some ⟨g, 0, none⟩) ts.length ts.length) ∧ w.heap.size ≤ g ∧ Row w' g 33 (idv ts).toArray ∧ QRep B w' p room last [] ∧ QOnly B w w' := by
  have HI := Lib.hid (ids_any h hr (by omega))
  have HQ := Lib.hid h
  obtain ⟨hp, hB, sv, hrow, hown, hl⟩ := h
  have HR := Lib.hid hrow
  have f2 := hrow.free 2
  have c2 := hrow.read (i := 2) (x := sv) rfl
  clear hrow hown hl
  go_enter Try.func115, Try.ntmps115
  go_wp2_with (first
    | (go_at_call 239; (with_reducible refine (none_not HR.out hr).mono ?_); rintro e _ ⟨rfl, rfl⟩)
    | (go_at_call 121; (with_reducible refine HI.out.mono ?_); rintro e w1 ⟨g, rfl, hg, hrw, hb1⟩; (have HG := Lib.hid hg; have HRW := Lib.hid hrw; have HB1 := Lib.hid hb1; have HQ1 := Lib.hid (HQ.out.later hb1); have HR1 := Lib.hid (HR.out.later hb1); have f3 := HR1.out.free 2; have c3 := HR1.out.read (i := 2) (x := sv) rfl; clear hg hrw hb1 f2 c2)))
  have HE := Lib.hid (qclear_end HQ1.out)
  go_ret
  exact ⟨g, rfl, HG.out, HE.out.2.row HRW.out (by decide) (by decide), HE.out.1, (QOnly.of_below HB1.out).trans HE.out.2⟩
theorem row_type {W : World} {k : Nat} {t t' : TypeId} {cs cs' : Array Value} (h : Row W k t cs) (h' : Row W k t' cs') : t = t' := by
  unfold Row at h h'
  rw [h] at h'
  have e := Option.some.inj h'
  cases e
  rfl
theorem QRep.sender {W : World} {cs : Array Value} (h : QRep B W q room last ts) (hE : Row W x 202 cs) (i : Nat) (v : Value) : QRep B (W.setCell ⟨x, i, none⟩ v) q room last ts :=
  h.apart (S := fun k => k = x) ((Only.refl (fun k => k = x) W).set (p := ⟨x, i, none⟩) (.inl rfl) v) (fun k hk t cs' hr => by
    subst hk
    have e := row_type hE hr
    subst e
    decide)
set_option maxRecDepth 100000 in
set_option maxHeartbeats 1600000 in
theorem ureset_any (hE : Row w x 202 (SCells c (.pointer (some ⟨q, 0, none⟩)) nx)) (h : QRep B w q room last ts) (hr : 0 < room) (hn : ts.length ≤ 900) :
    Calls Try.prog 26 #[.pointer (some ⟨x, 0, none⟩)] w fun e w' => ∃ g, e = .returned (.slice (some ⟨g, 0, none⟩) ts.length ts.length) ∧ w.heap.size ≤ g ∧ Row w' g 33 (idv ts).toArray ∧ QRep B w' q room last [] ∧ Row w' x 202 (SCells c (.pointer (some ⟨q, 0, none⟩)) 0) ∧ QOnly B (w.setCell ⟨x, 11, none⟩ (.int .i64 0)) w' := by
  have HC := Lib.hid (qclear_any (h.sender hE 11 (.int .i64 0)) hr hn)
  have HR := Lib.hid (hE.written 11 (.int .i64 0))
  have f2 := hE.free 11
  have c2 := hE.read (i := 11) (x := .int .i64 nx) rfl
  have c3 := HR.out.read (i := 10) (x := .pointer (some ⟨q, 0, none⟩)) rfl
  clear hE h
  go_enter Try.func26, Try.ntmps26
  go_wp2_with (go_at_call 115; (with_reducible refine HC.out.mono ?_); rintro e w1 ⟨g, rfl, hg, hrw, hq, ho⟩; (have HG := Lib.hid hg; have HRW := Lib.hid hrw; have HQ1 := Lib.hid hq; have HO := Lib.hid ho; clear hg hrw hq ho))
  go_ret
  exact ⟨g, rfl, by have := HG.out; simpa using this, HRW.out, HQ1.out, HO.out.row HR.out (by decide) (by decide), HO.out⟩
end
end Go.Proofs.Ytgdpjaojlhdhdaa
namespace Go.Proofs.Ytgdpjaojlhdhdaa
open Go.RowKit

theorem wpList_is {P : Program} {ops : Array Oper} {rest : List Oper} {o : Oper} {a : Act} {w : World} {Q : Exit → Act → World → Prop} (hgd : o.guard = none) (s x : Operand) (t : TypeId)
    (ho : o.op = .call { callee := .builtin .append, args := #[s, x], argTypes := #[t, t] }) (v u : Value) (hs : a.eval s = v) (hx : a.eval x = u) {v' : Value} {w' : World}
    (hr : (Builtin.append_ #[t, t] o.type #[v, u]).run P w = .ok v' w') (h : wpList P ops Q rest (a.put o.dst v') w') : wpList P ops Q (o :: rest) a w :=
  wpList_plain hgd fun _ hK => by
    unfold Oper.wp execOp
    simp only [ho, resolve, invoke, builtin, Sem.run_bind, Sem.run_pure, Result.andThen_ok, List.map_toArray, List.map_cons, List.map_nil, hs, hx, hr]
    exact hK _ _ h
theorem add_zero_o (g j : Nat) : (⟨g, 0, none⟩ : Addr).add j = ⟨g, j, none⟩ := by
  unfold Addr.add
  split
  · rename_i h; rw [h]
  · simp
section
variable {m n : Nat} {w v : World} {x u z : Value} {xs : List Value} {T E by' : Nat}
theorem own_next (hT : Try.prog.underlying T = some (.slice E)) (hI : (Try.prog.info? E).map (fun i => (i.zero, i.size, i.bytes)) = some (some z, 1, by')) (hz : z.cells.size = 1) (hby : by' ≤ 24) (hu : u.oneCell' = true) (h : w.ownsRow m E 1 x n xs) (hm : m ≤ w.heap.size) (hn : n ≤ 100000) :
    ∃ A' c' w2, (Builtin.append_ #[T, T] T #[x, .slice (some ⟨w.heap.size, 0, none⟩) 1 1]).run Try.prog (w.alloc (.cells #[u] E)) = .ok (.slice A' (n + 1) c') w2 ∧
      w2.ownsRow m E 1 (.slice A' (n + 1) c') (n + 1) (xs ++ [u]) ∧ Only (fun k => x.ownBlock = some k) w w2 := by
  obtain ⟨i0, hi, hi0, hi1, hi2⟩ := info_parts hI
  have hbA := bl_alloc (Below.refl w.heap.size w) (.cells #[u] E)
  have a4' := own_only h (S := fun _ => False) (.of_below hbA) (fun _ _ hk => hk)
  obtain ⟨v', w2, hrun, hown, hgr, _, hat⟩ := run_append_own_at (P := Try.prog) (w := w.alloc (.cells #[u] E)) m T T E i0 z 1 by' hT hi hi0 hi1 hi2 hz (by omega) x n xs a4' ⟨w.heap.size, 0, none⟩ 1 1 [u] rfl
    (fun j u' hu' => by
      match j, hu' with
      | 0, hu' =>
        simp only [List.getElem?_cons_zero, Option.some.injEq] at hu'
        subst hu'
        rw [add_zero_o]
        exact (Row.made w E #[u]).read rfl
      | j + 1, hu' => simp at hu') (by intro y hy; simp at hy; subst hy; exact hu) (by unfold maxLen; omega) (by have := Nat.mul_le_mul (show n + 1 ≤ 100001 by omega) hby; omega) (by have := hbA.size; omega)
  have hon : Only (fun k => x.ownBlock = some k) w w2 := (Only.of_below hbA).andThen ((Only.refl _ _).grown hgr (fun k hk => .inl hk) : Only (fun k => x.ownBlock = some k) _ _) (fun k _ hk => hk)
  obtain ⟨A', c', rfl⟩ : ∃ A' c', v' = .slice A' (n + 1) c' := by
    rcases hown.2 with ⟨_, e⟩ | ⟨g, cap, cur, e, _⟩
    · omega
    · exact ⟨some ⟨g, 0, none⟩, cap, e⟩
  exact ⟨A', c', w2, hrun, hown, hon⟩
theorem own_shape (h : w.ownsRow m E 1 x n xs) : ∃ A c, x = .slice A n c ∧ n ≤ c ∧ c ≤ 9223372036854775807 := by
  rcases h.2 with ⟨rfl, rfl⟩ | ⟨g, cap, cur, rfl, _, _, h1, h2, _⟩
  · exact ⟨none, 0, rfl, Nat.le_refl _, by decide⟩
  · exact ⟨_, cap, rfl, h1, by unfold maxLen at h2; omega⟩
theorem own_after (h : w.ownsRow m E 1 x n xs) (hb : Below w.heap.size w v) : v.ownsRow m E 1 x n xs := own_only h (S := fun _ => False) (.of_below hb) (fun _ _ hk => hk)
/-- what lies behind a slice: in one block, that is not older than block m -/
def SlAt (m E : Nat) (w : World) (A : Option Addr) (xs : List Value) : Prop :=
  xs ≠ [] → ∃ (g : Nat) (cs : Array Value), A = some ⟨g, 0, none⟩ ∧ m ≤ g ∧ Row w g E cs ∧ ∀ (i : Nat) (u : Value), xs[i]? = some u → cs[i]? = some u
theorem own_at {A : Option Addr} {c : Nat} (h : w.ownsRow m E 1 (.slice A n c) n xs) : SlAt m E w A xs := by
  intro hne
  rcases h.2 with ⟨h1, h2⟩ | ⟨g, cap, cur, h1, h2, h3, h4, h5, h6, h7⟩
  · exfalso
    have := h.1
    rw [h2] at this
    exact hne (List.eq_nil_of_length_eq_zero (by omega))
  · injection h1 with hA _ _
    refine ⟨g, cur, hA, h2, h3, fun i u hu => ?_⟩
    have hi := (List.getElem?_eq_some_iff.1 hu).1
    have hl := h.1
    rw [← h7, List.getElem?_take] at hu
    split at hu
    · simpa using hu
    · cases hu
theorem SlAt.only {S : Nat → Prop} {A : Option Addr} (h : SlAt m E w A xs) (ho : Only S w v) (hS : ∀ g cs, Row w g E cs → m ≤ g → ¬ S g) : SlAt m E v A xs := by
  intro hne
  obtain ⟨g, cs, h1, h2, h3, h4⟩ := h hne
  exact ⟨g, cs, h1, h2, h3.only ho (hS g cs h3 h2), h4⟩
theorem SlAt.later {A : Option Addr} (h : SlAt m E w A xs) (hb : Below w.heap.size w v) : SlAt m E v A xs := h.only (S := fun _ => False) (.of_below hb) (fun _ _ _ _ hk => hk)
theorem SlAt.cell {A : Option Addr} (h : SlAt m E w A xs) {i : Nat} {u : Value} (hu : xs[i]? = some u) : ∃ g, A = some ⟨g, 0, none⟩ ∧ w.cell? ⟨g, i, none⟩ = some u := by
  obtain ⟨g, cs, h1, h2, h3, h4⟩ := h (by rintro rfl; simp at hu)
  exact ⟨g, h1, h3.read (h4 i u hu)⟩
end
end Go.Proofs.Ytgdpjaojlhdhdaa
