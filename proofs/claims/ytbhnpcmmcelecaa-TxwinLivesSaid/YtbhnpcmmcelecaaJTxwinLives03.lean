/-
  txwin: all open numbers. txwin: plain mathematics of the list of open numbers. seqnum: the document's own answers (size, number, rest of a division). seqnum: the document's own answers (going on, how far). txwin: the document's window: what was sent, and its first that is open. txwin: the document's window: which are open, how far, the next one, one more acknowledged.
-/
import Derived.Test.YtbhnpcmmcelecaaJTxwinLives02
import Derived.Test.YtbhnpcmmcelecaaJTxwinLives01
import Derived.Deep.RegionHeld3
namespace Go.Proofs.Ytbhnpcmmcelecaa
open Go.RowKit Go.Maps

def ints (l : List Int) : List Value := l.map fun a => .int .i64 a
theorem ints_app (l k : List Int) : ints (l ++ k) = ints l ++ ints k := by unfold ints; simp
theorem clipi_any {A : Option Addr} (n c : Nat) (w : World) (hc : n ≤ c) : Calls Try.prog 166 #[.slice A n c] w fun e w' => e = .returned (.slice A n n) ∧ w = w' := by
  cases A with
  | none =>
    go_enter Try.func166, Try.ntmps166
    go_wp2
    go_ret
    exact ⟨rfl, rfl⟩
  | some a =>
    go_enter Try.func166, Try.ntmps166
    go_wp2
    go_ret
    exact ⟨rfl, rfl⟩
def opk (N f : Int) (l : List Bool) (k : Nat) : List Int := ((List.range k).filter fun i => !(l.getD i true)).map fun i : Nat => (f + i) % N
theorem opk_succ (N f : Int) (l : List Bool) (k : Nat) : opk N f l (k + 1) = opk N f l k ++ (if l.getD k true = true then [] else [(f + k) % N]) := by
  unfold opk
  rw [List.range_succ, List.filter_append, List.map_append]
  congr 1
  by_cases h : l.getD k true = true
  · rw [if_pos h, List.filter_cons_of_neg (by rw [h]; decide)]; rfl
  · rw [if_neg h, List.filter_cons_of_pos (by simpa using h)]; rfl
theorem opk_all (N f : Int) (l : List Bool) : opk N f l l.length = opens N f l := rfl
theorem opk_le (N f : Int) (l : List Bool) (k : Nat) : (opk N f l k).length ≤ k := by
  unfold opk
  rw [List.length_map]
  exact Nat.le_trans (List.length_filter_le _ _) (by simp)
section
variable {w v : World} {x m k : Nat} {b size f n nx : Int} {l r : List Bool}
theorem at_end (h : WinR w x m b size f l) (hk : k ≤ l.length) : ((f + (k : Int)) % sz b = (f + l.length) % sz b) ↔ k = l.length := by
  have h1 := h.hs2
  have h2 := h.hl
  have h3 := h.pos
  constructor
  · intro e
    have a := ix_at (N := sz b) (f := f) (i := k) (by omega)
    have c := ix_at (N := sz b) (f := f) (i := l.length) (by omega)
    rw [e, c] at a
    omega
  · rintro rfl; rfl
theorem open_at (h : WinR w x m b size f l) (hk : k < l.length) : (okn b ((f + (k : Int)) % sz b) && opb (sz b) f l ((f + (k : Int)) % sz b)) = !(l.getD k true) := by
  have h1 := h.hs2
  have h2 := h.hl
  have h3 := h.pos
  rw [okn_mod h.rt, Bool.true_and]
  unfold opb
  rw [ix_at (by omega)]
theorem Row.own_ne {w : World} {base : Nat} {E : TypeId} {y : Value} {n : Nat} {xs : List Value} {g : Nat} {t : TypeId} {cs : Array Value} (hr : Row w g t cs) (h : w.ownsRow base E 1 y n xs) (hne : E ≠ t) : ∀ j, y.ownBlock = some j → j ≠ g := by
  intro j hj e
  subst e
  exact own_apart h hr hne hj
set_option maxRecDepth 100000 in
set_option maxHeartbeats 3200000 in
theorem wall_any (h : WinR w x m b size f l) : Calls Try.prog 96 #[.pointer (some ⟨x, 0, none⟩)] w fun e w' => ∃ A, e = .returned (.slice A (opens (sz b) f l).length (opens (sz b) f l).length) ∧ SlAt w.heap.size 3 w' A (ints (opens (sz b) f l)) ∧ Below w.heap.size w w' := by
  have HE := Lib.hid (wends_any h)
  have HO := Lib.hid (fun W n (hb : Below w.heap.size w W) => wopen_any (h.later hb) n)
  have HB := Lib.hid (fun W n (hb : Below w.heap.size w W) (hn : okn b n = true) => wbehind_any (n := n) (h.row.later hb) h.rt hn)
  have HK := Lib.hid (fun k (hk : k ≤ l.length) => at_end h hk)
  have HP := Lib.hid (fun k (hk : k < l.length) => open_at h hk)
  have HM := Lib.hid (fun x => okn_mod h.rt x)
  have HI := Lib.hid (fun k (hk : k ≤ l.length) => (ix_at (f := f) (i := k) (by have h1 := h.hs2; have h2 := h.hl; have h3 := h.pos; omega) : ix (sz b) f ((f + (k : Int)) % sz b) = k))
  have hLb : l.length ≤ 40000 := by have h1 := h.hs2; have h2 := h.hl; have h3 := h.pos; omega
  have H0 := Lib.hid (show (f + ((0 : Nat) : Int)) % sz b = f by have := okn_true h.hf; rw [Int.natCast_zero, Int.add_zero]; exact Int.emod_eq_of_lt this.1 this.2)
  have HOP := Lib.hid (opk_all (sz b) f l)
  have HOS := Lib.hid (opk_succ (sz b) f l)
  have HOL := Lib.hid (opk_le (sz b) f l)
  have HZ0 : ∀ wr : World, wr.ownsRow w.heap.size 3 1 (.slice none 0 0) (opk (sz b) f l 0).length (ints (opk (sz b) f l 0)) := fun wr => World.ownsRow_nil _ _ _ _
  have HZ0 := Lib.hid HZ0
  generalize opens (sz b) f l = OP at *
  generalize opk (sz b) f l = op at *
  generalize hL : l.length = L at *
  generalize hnx : (f + (L : Int)) % sz b = nx at *
  have HNX := Lib.hid hnx
  clear h hL hnx
  go_enter Try.func96, Try.ntmps96
  go_wp2_with (go_at_call 91; (with_reducible refine HE.out.mono ?_); rintro e w1 ⟨rfl, hb1⟩; (have HB1 := Lib.hid hb1; clear hb1))
  go_loopw [3, 4] (fun s3 s4 wr => ∃ (k : Nat) (ty : Int), k ≤ L ∧ s4 = .int .i64 ty ∧ Hid (ty = (f + (k : Int)) % sz b) ∧ Hid (wr.ownsRow w.heap.size 3 1 s3 (op k).length (ints (op k))) ∧ Hid (Below w.heap.size w wr)) (fun _ s4 _ => L - ix (sz b) f (intOf s4))
  case atStart => exact ⟨0, f, by omega, rfl, Lib.hid H0.out.symm, Lib.hid (HZ0.out _), HB1⟩
  case round =>
    obtain ⟨k, ty, hk, rfl, HTY, HOW, HBr⟩ := hrel
    have hkL := HI.out k hk
    rw [← HTY.out] at hkL
    have HIK := Lib.hid hkL
    obtain ⟨A3, c3, rfl, hc3, hc3m⟩ := own_shape HOW.out
    by_cases hlt : k < L
    · have hne : (ty != nx) = true := by
        have := HK.out k hk
        rw [← HTY.out] at this
        simp
        omega
      have ho := HO.out wr ty HBr.out
      have hp := HP.out k hlt
      rw [← HTY.out] at hp
      rw [hp] at ho
      have HO2 := Lib.hid ho
      have HB2 := Lib.hid (fun W (hb : Below w.heap.size w W) => by have h1 := HB.out W ty hb (by rw [HTY.out]; exact HM.out _); exact h1)
      have HTN := Lib.hid (show (ty + 1) % sz b = (f + ((k + 1 : Nat) : Int)) % sz b by rw [HTY.out, Int.emod_add_emod, show f + (k : Int) + 1 = f + ((k + 1 : Nat) : Int) by omega])
      have HIN := Lib.hid (show ix (sz b) f ((ty + 1) % sz b) = k + 1 by rw [HTN.out]; exact HI.out (k + 1) (by omega))
      have HS := Lib.hid (HOS.out k)
      rw [← HTY.out] at HS
      clear hkL hp ho
      cases hq : l.getD k true
      · rw [hq] at HO2 HS
        simp only [Bool.not_false, Bool.false_eq_true, if_false] at HO2 HS
        clear hq
        go_wp2_with (first
          | (go_at_call 98; (with_reducible refine HO2.out.mono ?_); rintro e w2 ⟨rfl, hb2⟩; (have HB3 := Lib.hid (bl_step HBr.out hb2); obtain ⟨A', c', w3, hrun, hown, hon⟩ := own_next (T := 58) (E := 3) (u := .int .i64 ty) (by kernel_rfl) (show (Try.prog.info? 3).map (fun i => (i.zero, i.size, i.bytes)) = some (some (.int .i64 0), 1, 8) by kernel_rfl) rfl (by omega) rfl (own_after HOW.out hb2) HB3.out.size (by have := HOL.out k; omega); have HRUN := Lib.hid hrun; have HOWN := Lib.hid hown; have HON := Lib.hid (hon.below HB3.out.size (fun j hj hk => by have := (own_block (own_after HOW.out hb2) j hk).1; omega)); clear hb2 hrun hown hon))
          | (at_builtin; refine wpList_is rfl (.tmp 17) (.tmp 19) 58 rfl _ _ (by rfl) (by rfl) HRUN.out ?_)
          | (go_at_call 159; (with_reducible refine (HB2.out _ (HB3.out.trans HON.out)).mono ?_); rintro e w4 ⟨rfl, hb4⟩; (have HB4 := Lib.hid hb4; clear hb4))
          | go_in)
        go_roundw
        case rel => exact ⟨k + 1, (ty + 1) % sz b, by omega, rfl, HTN, Lib.hid (by rw [HS.out, List.length_append, ints_app]; exact own_after HOWN.out HB4.out), Lib.hid ((HB3.out.trans HON.out).trans (HB4.out.mono (HB3.out.trans HON.out).size))⟩
        case measure => simp only [intOf]; rw [HIK.out, HIN.out]; omega
      · rw [hq] at HO2 HS
        simp only [Bool.not_true, if_true, List.append_nil] at HO2 HS
        clear hq
        go_wp2_with (first
          | (go_at_call 98; (with_reducible refine HO2.out.mono ?_); rintro e w2 ⟨rfl, hb2⟩; (have HB3 := Lib.hid hb2; clear hb2))
          | (go_at_call 159; (with_reducible refine (HB2.out _ (bl_step HBr.out HB3.out)).mono ?_); rintro e w4 ⟨rfl, hb4⟩; (have HB4 := Lib.hid hb4; clear hb4))
          | go_in)
        go_roundw
        case rel => exact ⟨k + 1, (ty + 1) % sz b, by omega, rfl, HTN, Lib.hid (by rw [HS.out]; exact own_after (own_after HOW.out HB3.out) HB4.out), Lib.hid (bl_step (bl_step HBr.out HB3.out) HB4.out)⟩
        case measure => simp only [intOf]; rw [HIK.out, HIN.out]; omega
    · obtain rfl : k = L := by omega
      have he : ty = nx := by rw [HTY.out, HNX.out]
      subst he
      have HOPk := HOP
      have HC := Lib.hid (fun W => clipi_any (A := A3) (op k).length c3 W hc3)
      have HLE := Lib.hid (show (op k).length = OP.length by rw [HOP.out])
      clear hkL hlt
      generalize (op k).length = q at *
      go_wp2_with (first | (go_at_call 166; (with_reducible refine (HC.out _).mono ?_); rintro e w2 ⟨rfl, rfl⟩) | go_in)
      go_ret
      refine ⟨A3, by rw [HLE.out]; rfl, ?_, HBr.out⟩
      have := own_at HOW.out
      rw [HOPk.out] at this
      exact this
end
end Go.Proofs.Ytbhnpcmmcelecaa
namespace Go.Proofs.Ytbhnpcmmcelecaa
open Go.RowKit

section
variable {N f v : Int} {l r : List Bool}
theorem range_two (n : Nat) : List.range (n + 1) = 0 :: (List.range n).map Nat.succ := List.range_succ_eq_map
theorem opens_cons (c : Bool) : opens N f (c :: r) = (if c = true then [] else [f % N]) ++ opens N ((f + 1) % N) r := by
  unfold opens
  rw [List.length_cons, range_two, List.filter_cons, List.filter_map]
  have e : (fun i => !(c :: r).getD i true) ∘ Nat.succ = fun i => !(r.getD i true) := by
    funext i; rfl
  rw [e]
  have e2 : ∀ xs : List Nat, (xs.map Nat.succ).map (fun i : Nat => (f + i) % N) = xs.map fun i : Nat => ((f + 1) % N + i) % N := by
    intro xs
    rw [List.map_map]
    apply List.map_congr_left
    intro i _
    show (f + ((i + 1 : Nat) : Int)) % N = _
    rw [Int.emod_add_emod, show f + 1 + (i : Int) = f + ((i + 1 : Nat) : Int) by omega]
  cases c
  · simp only [List.getD_cons_zero, Bool.not_false, if_true, List.map_cons, Bool.false_eq_true, if_false]
    rw [e2]
    simp
  · simp only [List.getD_cons_zero, Bool.not_true, Bool.false_eq_true, if_false, if_true, List.nil_append]
    rw [e2]
theorem opens_nrm (N : Int) : ∀ (l : List Bool) (f : Int), opens N (nrm N f l).1 (nrm N f l).2 = opens N f l
  | [], _ => rfl
  | true :: r, f => by
    show opens N (nrm N ((f + 1) % N) r).1 (nrm N ((f + 1) % N) r).2 = _
    rw [opens_nrm N r, opens_cons]
    rfl
  | false :: _, _ => rfl
theorem nrm_head (N : Int) : ∀ (l : List Bool) (f : Int), (nrm N f l).2.head? ≠ some true
  | [], _ => by simp [nrm]
  | true :: r, f => nrm_head N r _
  | false :: _, _ => by simp [nrm]
theorem opens_le (N f : Int) (l : List Bool) : (opens N f l).length ≤ l.length := opk_le N f l l.length
theorem opens_mem {i : Nat} (h : (opens N f l)[i]? = some v) : ∃ j : Nat, j < l.length ∧ v = (f + j) % N ∧ l[j]? = some false := by
  have hm := List.mem_of_getElem? h
  unfold opens at hm
  rw [List.mem_map] at hm
  obtain ⟨j, hj, rfl⟩ := hm
  rw [List.mem_filter, List.mem_range] at hj
  refine ⟨j, hj.1, rfl, ?_⟩
  have h2 := hj.2
  rw [List.getD_eq_getElem?_getD, List.getElem?_eq_getElem hj.1] at h2
  rw [List.getElem?_eq_getElem hj.1]
  simp at h2
  rw [h2]
theorem filter_last {xs ys : List Nat} {j : Nat} (h : xs = ys ++ [j]) (hn : xs.Nodup) : xs.filter (fun i => !(i == j)) = ys := by
  subst h
  rw [List.nodup_append] at hn
  rw [List.filter_append]
  have h1 : ys.filter (fun i => !(i == j)) = ys := by
    rw [List.filter_eq_self]
    intro a ha
    have := hn.2.2 a ha j (by simp)
    simpa using this
  rw [h1]
  simp
theorem opens_set {j : Nat} : opens N f (l.set j true) = (((List.range l.length).filter fun i => !(l.getD i true)).filter fun i => !(i == j)).map fun i : Nat => (f + i) % N := by
  unfold opens
  rw [List.length_set, List.filter_filter]
  congr 1
  apply List.filter_congr
  intro i hi
  rw [List.mem_range] at hi
  rw [List.getD_eq_getElem?_getD, List.getD_eq_getElem?_getD, List.getElem?_set]
  by_cases e : j = i
  · subst e
    simp [hi]
  · rw [if_neg e]
    have : (i == j) = false := by simp; omega
    rw [this]
    simp
theorem opens_last {ys : List Int} (h : opens N f l = ys ++ [v]) (hl : (l.length : Int) ≤ N) : opens N f (l.set (ix N f v) true) = ys := by
  have h0 := h
  unfold opens at h0
  rw [List.map_eq_append_iff] at h0
  obtain ⟨zs, bs, h1, h2, h3⟩ := h0
  obtain ⟨j, rfl⟩ : ∃ j, bs = [j] := by
    match bs, h3 with
    | [j], _ => exact ⟨j, rfl⟩
  have h4 : (f + (j : Int)) % N = v := by simpa using h3
  have hj : j < l.length := by
    have : j ∈ (List.range l.length).filter fun i => !(l.getD i true) := by rw [h1]; simp
    rw [List.mem_filter, List.mem_range] at this
    exact this.1
  rw [← h4, ix_at (by omega), opens_set, filter_last h1 (List.nodup_range.filter _), h2]
theorem opens_none (h : opens N f l = []) (hh : l.head? ≠ some true) : l = [] := by
  match l with
  | [] => rfl
  | true :: _ => exact absurd rfl hh
  | false :: r =>
    rw [opens_cons] at h
    simp at h
end
end Go.Proofs.Ytbhnpcmmcelecaa
namespace Go.Proofs.Ytbhnpcmmcelecaa
open Go.RowKit

set_option maxHeartbeats 400000 in
theorem q2size_any (b : Int) (w : World) :
    Calls Try.prog 84 #[.int .i64 b] w fun e w' => e = .returned (.int .i64 (sz b)) ∧ w = w' := by
  cases hr : rt b
  · rw [sz_zero hr]
    have hb := rt_false hr
    clear hr
    by_cases h1 : b < 1
    · go_enter Try.func84, Try.ntmps84
      go_wp2
      go_ret
      exact ⟨rfl, rfl⟩
    · have h2 : 16 < b := by omega
      go_enter Try.func84, Try.ntmps84
      go_wp2
      go_ret
      exact ⟨rfl, rfl⟩
  · obtain ⟨h1, h2⟩ := rt_true hr
    have hs : sz b = 2 ^ b.toNat := by unfold sz; rw [if_pos hr]
    have Hs := Lib.hid hs
    clear hr hs
    go_enter Try.func84, Try.ntmps84
    go_wp2
    go_loop [3, 4] (fun v i => ∃ k n : Nat, (k : Int) ≤ b ∧ i = .int .i64 k ∧ v = .int .i64 n ∧ Hid (n = 2 ^ k) ∧ n ≤ 65536) (fun _ i => (b - intOf i).toNat)
    case atStart => exact ⟨0, 1, by omega, rfl, rfl, Lib.hid rfl, by omega⟩
    case round =>
      obtain ⟨k, n, hk, rfl, rfl, hn, hnb⟩ := hrel
      by_cases hlt : (k : Int) < b
      · go_wp2
        go_round
        case rel =>
          have e := hn.out
          have h15 : n ≤ 2 ^ 15 := by rw [e]; exact Nat.pow_le_pow_right (by omega) (by omega)
          exact ⟨k + 1, 2 * n, by omega, by go_num, by go_num, Lib.hid (by rw [e, Nat.pow_succ]; omega), by omega⟩
        case measure => simp [intOf]; omega
      · go_wp2
        go_ret
        have hkb : b.toNat = k := by omega
        exact ⟨ret_int (by rw [Hs.out, hkb, hn.out]; simp), rfl⟩

set_option maxHeartbeats 400000 in
theorem q2is_any (b n : Int) (w : World) :
    Calls Try.prog 163 #[.int .i64 b, .int .i64 n] w fun e w' => e = .returned (.bool (okn b n)) ∧ w = w' := by
  by_cases hn : 0 ≤ n
  · have ho : okn b n = decide (n < sz b) := by unfold okn; simp [hn]
    have H := Lib.hid ho
    clear ho
    go_enter Try.func163, Try.ntmps163
    go_wp2_with (go_at_call 84; refine (q2size_any _ _).mono ?_; rintro e w1 ⟨rfl, rfl⟩)
    go_ret
    exact ⟨ret_bool H.out.symm, rfl⟩
  · have ho : okn b n = false := decide_eq_false (by omega)
    have H := Lib.hid ho
    clear ho
    go_enter Try.func163, Try.ntmps163
    go_wp2
    go_ret
    exact ⟨ret_bool H.out.symm, rfl⟩

set_option maxHeartbeats 400000 in
theorem q2mod_any (n m : Int) (w : World) (h1 : 2 ≤ m) (h2 : m ≤ 65536) (h3 : -200000 ≤ n) (h4 : n ≤ 200000) :
    Calls Try.prog 197 #[.int .i64 n, .int .i64 m] w fun e w' => e = .returned (.int .i64 (n % m)) ∧ w = w' := by
  by_cases hn : 0 ≤ n
  · have h5 : 0 ≤ n % m := Int.emod_nonneg _ (by omega)
    go_enter Try.func197, Try.ntmps197
    go_wp2
    go_ret
    exact ⟨rfl, rfl⟩
  · obtain ⟨p, rfl⟩ : ∃ p : Int, n = -p := ⟨-n, by omega⟩
    have hp0 : 0 < p := by omega
    have ht : (-p).tmod m = -(p % m) := by rw [Int.neg_tmod, Int.tmod_eq_emod_of_nonneg (by omega)]
    have he : (-p) % m = if p % m = 0 then 0 else m - p % m := by
      have := Int.emod_nonneg p (b := m) (by omega)
      have := Int.emod_lt_of_pos p (b := m) (by omega)
      split
      · rename_i h
        exact Int.emod_eq_zero_of_dvd (Int.dvd_neg.2 (Int.dvd_of_emod_eq_zero h))
      · have e : -p = (m - p % m) + m * (-(p / m) - 1) := by
          have := Int.mul_ediv_add_emod p m
          rw [Int.mul_sub, Int.mul_neg]
          omega
        rw [e, Int.add_mul_emod_self_left]
        exact Int.emod_eq_of_lt (by omega) (by omega)
    have hr0 := Int.emod_nonneg p (b := m) (by omega)
    have hr1 := Int.emod_lt_of_pos p (b := m) (by omega)
    generalize p % m = r at *
    have HE := Lib.hid he
    clear he
    by_cases hz : r = 0
    · subst hz
      go_enter Try.func197, Try.ntmps197
      go_wp2
      go_ret
      exact ⟨ret_int (by rw [HE.out]; rfl), rfl⟩
    · have hneg : -r < 0 := by omega
      go_enter Try.func197, Try.ntmps197
      go_wp2
      go_ret
      exact ⟨ret_int (by rw [HE.out, if_neg hz]; omega), rfl⟩
end Go.Proofs.Ytbhnpcmmcelecaa
namespace Go.Proofs.Ytbhnpcmmcelecaa
open Go.RowKit

set_option maxHeartbeats 800000 in
theorem q2go_any (b n c : Int) (w : World) :
    Calls Try.prog 142 #[.int .i64 b, .int .i64 n, .int .i64 c] w fun e w' => e = .returned (.tuple #[.int .i64 (GoV b n c), .int .i64 (GoE b n c)]) ∧ w = w' := by
  cases hr : rt b
  · have hv : GoV b n c = 0 := by unfold GoV; rw [hr]; rfl
    have he : GoE b n c = 3 := by unfold GoE flt; rw [hr]; rfl
    have hz := sz_zero hr
    rw [hv, he]
    clear hr hv he
    go_enter Try.func142, Try.ntmps142
    go_wp2_with (go_at_call 84; refine (q2size_any _ _).mono ?_; rintro e w1 ⟨rfl, rfl⟩)
    go_ret2
    exact ⟨rfl, rfl⟩
  · obtain ⟨hz1, hz2⟩ := rt_pos hr
    have hz0 : (sz b == 0) = false := by simp; omega
    cases ho : okn b n
    · have hv : GoV b n c = 0 := by unfold GoV; rw [all1, ho, Bool.and_false]; rfl
      have he : GoE b n c = 1 := by unfold GoE flt; rw [all1, ho, hr]; rfl
      rw [hv, he]
      clear hr hv he
      go_enter Try.func142, Try.ntmps142
      go_wp2_with (first
        | (go_at_call 84; refine (q2size_any _ _).mono ?_; rintro e w1 ⟨rfl, rfl⟩)
        | (go_at_call 163; refine (q2is_any _ _ _).mono ?_; rintro e w1 ⟨rfl, rfl⟩))
      go_ret2
      exact ⟨rfl, rfl⟩
    · by_cases hc : c < -65536 ∨ 65536 < c
      · have hv : GoV b n c = 0 := by unfold GoV; rw [all1, ho, hr]; simp [hc]
        have he : GoE b n c = 1 := by unfold GoE; rw [all1, ho, hr]; simp [hc]
        rw [hv, he]
        clear hr hv he
        by_cases hc1 : c < -65536
        · clear hc
          go_enter Try.func142, Try.ntmps142
          go_wp2_with (first
            | (go_at_call 84; refine (q2size_any _ _).mono ?_; rintro e w1 ⟨rfl, rfl⟩)
            | (go_at_call 163; refine (q2is_any _ _ _).mono ?_; rintro e w1 ⟨rfl, rfl⟩))
          go_ret2
          exact ⟨rfl, rfl⟩
        · have hc2 : 65536 < c := by omega
          clear hc
          go_enter Try.func142, Try.ntmps142
          go_wp2_with (first
            | (go_at_call 84; refine (q2size_any _ _).mono ?_; rintro e w1 ⟨rfl, rfl⟩)
            | (go_at_call 163; refine (q2is_any _ _ _).mono ?_; rintro e w1 ⟨rfl, rfl⟩))
          go_ret2
          exact ⟨rfl, rfl⟩
      · have hc1 : -65536 ≤ c := by omega
        have hc2 : c ≤ 65536 := by omega
        clear hc
        obtain ⟨he, hv⟩ := go_val hr ho hc1 hc2
        obtain ⟨hn1, hn2⟩ := okn_true ho
        rw [hv, he]
        clear hr hv he
        go_enter Try.func142, Try.ntmps142
        go_wp2_with (first
          | (go_at_call 84; refine (q2size_any _ _).mono ?_; rintro e w1 ⟨rfl, rfl⟩)
          | (go_at_call 163; refine (q2is_any _ _ _).mono ?_; rintro e w1 ⟨rfl, rfl⟩)
          | (go_at_call 197; refine (q2mod_any _ _ _ (by omega) (by omega) (by omega) (by omega)).mono ?_; rintro e w1 ⟨rfl, rfl⟩))
        go_ret2
        exact ⟨rfl, rfl⟩

set_option maxHeartbeats 800000 in
theorem q2far_any (b a c : Int) (w : World) :
    Calls Try.prog 168 #[.int .i64 b, .int .i64 a, .int .i64 c] w fun e w' => e = .returned (.tuple #[.int .i64 (FarV b a c), .int .i64 (flt b [a, c])]) ∧ w = w' := by
  cases hr : rt b
  · have hv : FarV b a c = 0 := by unfold FarV; rw [hr]; rfl
    have he : flt b [a, c] = 3 := by unfold flt; rw [hr]; rfl
    have hz := sz_zero hr
    rw [hv, he]
    clear hr hv he
    go_enter Try.func168, Try.ntmps168
    go_wp2_with (go_at_call 84; refine (q2size_any _ _).mono ?_; rintro e w1 ⟨rfl, rfl⟩)
    go_ret2
    exact ⟨rfl, rfl⟩
  · obtain ⟨hz1, hz2⟩ := rt_pos hr
    have hz0 : (sz b == 0) = false := by simp; omega
    cases ho : okn b a
    · have hv : FarV b a c = 0 := by unfold FarV; rw [all2, ho, Bool.false_and, Bool.and_false]; rfl
      have he : flt b [a, c] = 1 := by unfold flt; rw [all2, ho, hr]; rfl
      rw [hv, he]
      clear hr hv he
      go_enter Try.func168, Try.ntmps168
      go_wp2_with (first
        | (go_at_call 84; refine (q2size_any _ _).mono ?_; rintro e w1 ⟨rfl, rfl⟩)
        | (go_at_call 163; refine (q2is_any _ _ _).mono ?_; rintro e w1 ⟨rfl, rfl⟩))
      go_ret2
      exact ⟨rfl, rfl⟩
    · cases ho2 : okn b c
      · have hv : FarV b a c = 0 := by unfold FarV; rw [all2, ho2, Bool.and_false, Bool.and_false]; rfl
        have he : flt b [a, c] = 1 := by unfold flt; rw [all2, ho, ho2, hr]; rfl
        rw [hv, he]
        clear hr hv he
        go_enter Try.func168, Try.ntmps168
        go_wp2_with (first
          | (go_at_call 84; refine (q2size_any _ _).mono ?_; rintro e w1 ⟨rfl, rfl⟩)
          | (go_at_call 163; refine (q2is_any _ _ _).mono ?_; rintro e w1 ⟨rfl, rfl⟩))
        go_ret2
        exact ⟨rfl, rfl⟩
      · obtain ⟨he, hv⟩ := far_val hr ho ho2
        obtain ⟨hn1, hn2⟩ := okn_true ho
        obtain ⟨hm1, hm2⟩ := okn_true ho2
        rw [hv, he]
        clear hr hv he
        go_enter Try.func168, Try.ntmps168
        go_wp2_with (first
          | (go_at_call 84; refine (q2size_any _ _).mono ?_; rintro e w1 ⟨rfl, rfl⟩)
          | (go_at_call 163; refine (q2is_any _ _ _).mono ?_; rintro e w1 ⟨rfl, rfl⟩)
          | (go_at_call 197; refine (q2mod_any _ _ _ (by omega) (by omega) (by omega) (by omega)).mono ?_; rintro e w1 ⟨rfl, rfl⟩))
        go_ret2
        exact ⟨rfl, rfl⟩
end Go.Proofs.Ytbhnpcmmcelecaa
namespace Go.Proofs.Ytbhnpcmmcelecaa
open Go.RowKit Go.Maps

def blv (l : List Bool) : List Value := l.map fun c => .bool c
structure RefR (w : World) (y B : Nat) (b size : Int) (a : Nat) (l : List Bool) : Prop where
  row : ∃ A c, Row w y 154 #[.int .i64 b, .int .i64 size, .slice A (a + l.length) c] ∧ w.ownsRow B 4 1 (.slice A (a + l.length) c) (a + l.length) (blv (List.replicate a true ++ l))
  rt : rt b = true
  hs : 1 ≤ size
  hs2 : size ≤ sz b / 2
  hl : l.length ≤ size
  hh : l.head? ≠ some true
  hb : a + l.length ≤ 3000
section
variable {w v : World} {y B : Nat} {b size n : Int} {a : Nat} {l : List Bool}
theorem RefR.pos (h : RefR w y B b size a l) : 2 ≤ sz b ∧ sz b ≤ 65536 := rt_pos h.rt
theorem RefR.only {S : Nat → Prop} (h : RefR w y B b size a l) (ho : Only S w v) (hy : ¬ S y) (hS : ∀ g cs, Row w g 4 cs → ¬ S g) : RefR v y B b size a l := by
  obtain ⟨A, c, h1, h2⟩ := h.row
  refine { h with row := ⟨A, c, h1.only ho hy, own_only h2 ho fun k hk => ?_⟩ }
  rcases h2.2 with ⟨e, _⟩ | ⟨g, cap, cur, e, _, hh, _⟩
  · rw [e] at hk; simp [Value.ownBlock] at hk
  · rw [e] at hk
    have e1 : g = k := by simpa [Value.ownBlock] using hk
    subst e1
    exact hS _ _ hh
theorem RefR.later (h : RefR w y B b size a l) (hb : Below w.heap.size w v) : RefR v y B b size a l := h.only (S := fun _ => False) (.of_below hb) (fun hk => hk) (fun _ _ _ hk => hk)
theorem blv_at {xs : List Bool} {i : Nat} {c : Bool} (h : xs[i]? = some c) : (blv xs)[i]? = some (.bool c) := by unfold blv; rw [List.getElem?_map, h]; rfl
theorem done_lt {i : Nat} (h : i < a) : (List.replicate a true ++ l)[i]? = some true := by
  rw [List.getElem?_append_left (by simpa using h), List.getElem?_replicate, if_pos h]
theorem done_ge {j : Nat} : (List.replicate a true ++ l)[a + j]? = l[j]? := by
  rw [List.getElem?_append_right (by simp)]
  simp
theorem first_open (hh : l.head? ≠ some true) (hn : 0 < l.length) : l[0]? = some false := by
  match l with
  | [] => simp at hn
  | true :: _ => exact absurd rfl hh
  | false :: _ => rfl
theorem rwcells {A : Option Addr} {c k : Nat} (hr : Row w y 154 #[.int .i64 b, .int .i64 size, .slice A k c]) : w.cell? ⟨y, 0, none⟩ = some (.int .i64 b) ∧ w.cell? ⟨y, 1, none⟩ = some (.int .i64 size) ∧ w.cell? ⟨y, 2, none⟩ = some (.slice A k c) := ⟨hr.read rfl, hr.read rfl, hr.read rfl⟩
set_option maxRecDepth 100000 in
set_option maxHeartbeats 1600000 in
theorem rfirst_any (h : RefR w y B b size a l) : Calls Try.prog 165 #[.pointer (some ⟨y, 0, none⟩)] w fun e w' => e = .returned (.int .i64 a) ∧ w = w' := by
  obtain ⟨A, c, hr, ho⟩ := h.row
  have hbd := h.hb
  have HA := Lib.hid (own_at ho)
  have HLT := Lib.hid (fun i (hi : i < a) => done_lt (l := l) hi)
  have HGE := Lib.hid (done_ge (a := a) (l := l) (j := 0))
  have HF := Lib.hid (first_open h.hh)
  generalize hL : a + l.length = L at *
  have hLa : a ≤ L := by omega
  have HLL := Lib.hid hL
  obtain ⟨c0, c1, c2⟩ := rwcells hr
  clear h ho hr hL
  go_enter Try.func165, Try.ntmps165
  go_wp2
  go_loopw [3] (fun s3 wr => ∃ i : Nat, i ≤ a ∧ s3 = .int .i64 i ∧ w = wr) (fun s3 _ => a - (intOf s3).toNat)
  case atStart => exact ⟨0, by omega, rfl, rfl⟩
  case round =>
    obtain ⟨i, hi, rfl, rfl⟩ := hrel
    by_cases hlt : i < a
    · obtain ⟨g, rfl, z⟩ := HA.out.cell (blv_at (HLT.out i hlt))
      have h1 : (i : Int) < L := by omega
      have h0 : (0 : Int) ≤ i := by omega
      have hlt2 := Lib.hid hlt
      clear hlt
      go_wp2
      go_roundw
      case rel => exact ⟨i + 1, by have := hlt2.out; omega, by go_num, trivial⟩
      case measure => have := hlt2.out; simp [intOf]; omega
    · obtain rfl : i = a := by omega
      by_cases he : i < L
      · have hf := HF.out (by have := HLL.out; omega)
        obtain ⟨g, rfl, z⟩ := HA.out.cell (blv_at (HGE.out.trans hf))
        rw [Nat.add_zero] at z
        have h1 : (i : Int) < L := by omega
        have h0 : (0 : Int) ≤ i := by omega
        clear hlt he hf
        go_wp2
        go_ret
        exact ⟨rfl, rfl⟩
      · have h1 : ¬ (i : Int) < L := by omega
        clear hlt he
        go_wp2
        go_ret
        exact ⟨rfl, rfl⟩
set_option maxRecDepth 100000 in
set_option maxHeartbeats 1600000 in
theorem rnumber_any {A : Option Addr} {c k : Nat} (i : Nat) (hr : Row w y 154 #[.int .i64 b, .int .i64 size, .slice A k c]) (ht : rt b = true) : Calls Try.prog 160 #[.pointer (some ⟨y, 0, none⟩), .int .i64 i] w fun e w' => e = .returned (.int .i64 ((i : Int) % sz b)) ∧ w = w' := by
  have HS := Lib.hid (fun W => q2size_any b W)
  have hz := rt_pos ht
  obtain ⟨c0, c1, c2⟩ := rwcells hr
  generalize sz b = N at *
  obtain ⟨hz1, hz2⟩ := hz
  clear hr ht
  go_enter Try.func160, Try.ntmps160
  go_wp2_with (go_at_call 84; (with_reducible refine (HS.out _).mono ?_); rintro e w1 ⟨rfl, rfl⟩)
  go_ret
  exact ⟨rfl, rfl⟩

theorem emod_nat (a : Nat) (N : Int) (k : Nat) : ((a : Int) % N + (k : Int)) % N = ((a + k : Nat) : Int) % N := by
  rw [Int.emod_add_emod]; simp
set_option maxRecDepth 100000 in
set_option maxHeartbeats 1600000 in
theorem rends_any (h : RefR w y B b size a l) : Calls Try.prog 92 #[.pointer (some ⟨y, 0, none⟩)] w fun e w' => e = .returned (.tuple #[.int .i64 ((a : Int) % sz b), .int .i64 (((a : Int) % sz b + l.length) % sz b)]) ∧ Below w.heap.size w w' := by
  have HF := Lib.hid (fun W (hb : Below w.heap.size w W) => rfirst_any (h.later hb))
  obtain ⟨A, c, hr, ho⟩ := h.row
  have HN := Lib.hid (fun W (i : Nat) (hb : Below w.heap.size w W) => rnumber_any i (hr.later hb) h.rt)
  have HE := Lib.hid (emod_nat a (sz b) l.length)
  have hbd := h.hb
  have HR := Lib.hid hr
  generalize a + l.length = L at *
  rw [HE.out]
  have HB0 := Lib.hid (bl_drew (Below.refl w.heap.size w))
  have k0 := (rwcells HR.out.drawn).2.2
  clear h ho hr
  go_enter Try.func92, Try.ntmps92
  go_wp2
  go_region_held3 (fun w' => w'.cell? ⟨y, 2, none⟩ = some (.slice A L c)) (first | assumption | exact k0 | go_keep)
    (first
      | (go_at_call 165; (with_reducible refine (HF.out _ HB0.out).mono ?_); rintro e w1 ⟨rfl, rfl⟩)
      | (go_at_call 160; (with_reducible refine (HN.out _ _ HB0.out).mono ?_); rintro e w2 ⟨rfl, rfl⟩))
  go_wp2
  go_ret2
  exact ⟨rfl, HB0.out⟩
set_option maxRecDepth 100000 in
set_option maxHeartbeats 1600000 in
theorem rstalled_any (h : RefR w y B b size a l) : Calls Try.prog 94 #[.pointer (some ⟨y, 0, none⟩)] w fun e w' => e = .returned (.bool (decide ((l.length : Int) = size))) ∧ Below w.heap.size w w' := by
  have HF := Lib.hid (fun W (hb : Below w.heap.size w W) => rfirst_any (h.later hb))
  obtain ⟨A, c, hr, ho⟩ := h.row
  have hbd := h.hb
  have hll := h.hl
  have HR := Lib.hid hr
  have HD := Lib.hid (show decide (size ≤ (l.length : Int)) = decide ((l.length : Int) = size) by congr 1; exact propext ⟨fun _ => by omega, fun _ => by omega⟩)
  have HB0 := Lib.hid (bl_drew (Below.refl w.heap.size w))
  have k0 : w.drew.cell? ⟨y, 1, none⟩ = some (.int .i64 size) ∧ w.drew.cell? ⟨y, 2, none⟩ = some (.slice A (a + l.length) c) := ⟨(rwcells HR.out.drawn).2.1, (rwcells HR.out.drawn).2.2⟩
  have hw : IntKind.i64.wrap (((a + l.length : Nat) : Int) - a) = (l.length : Int) := by
    rw [show ((a + l.length : Nat) : Int) - a = (l.length : Int) by omega]
    exact IntWalk.i64_in _ (by omega)
  generalize l.length = ll at *
  generalize a + ll = L at *
  clear h ho hr
  rw [← HD.out]
  go_enter Try.func94, Try.ntmps94
  go_wp2
  go_region_held3 (fun w' => w'.cell? ⟨y, 1, none⟩ = some (.int .i64 size) ∧ w'.cell? ⟨y, 2, none⟩ = some (.slice A L c)) (first | assumption | exact k0 | go_keep)
    (first
      | (go_at_call 165; (with_reducible refine (HF.out _ HB0.out).mono ?_); rintro e w1 ⟨rfl, rfl⟩))
  go_wp2
  go_ret
  exact ⟨rfl, HB0.out⟩
def matB (N f n : Int) (l : List Bool) (j : Nat) : Bool := decide ((f + (j : Int)) % N = n) && !(l.getD j true)
theorem mat_not (h : RefR w y B b size a l) (hn : (okn b n && opb (sz b) ((a : Int) % sz b) l n) = false) : ∀ j, j < l.length → matB (sz b) ((a : Int) % sz b) n l j = false := by
  intro j hj
  have h1 := h.hs2
  have h2 := h.hl
  have h3 := h.pos
  unfold matB
  by_cases e : ((a : Int) % sz b + (j : Int)) % sz b = n
  · subst e
    rw [okn_mod h.rt, Bool.true_and] at hn
    unfold opb at hn
    rw [ix_at (by omega)] at hn
    rw [hn]
    simp
  · rw [decide_eq_false e]; rfl
theorem mat_yes (h : RefR w y B b size a l) (hn : okn b n = true) (ho : opb (sz b) ((a : Int) % sz b) l n = true) : ix (sz b) ((a : Int) % sz b) n < l.length ∧ matB (sz b) ((a : Int) % sz b) n l (ix (sz b) ((a : Int) % sz b) n) = true ∧ ∀ j, j < ix (sz b) ((a : Int) % sz b) n → matB (sz b) ((a : Int) % sz b) n l j = false := by
  obtain ⟨h1, h2⟩ := opb_not ho
  obtain ⟨n1, n2⟩ := okn_true hn
  have h3 := h.pos
  have h4 := h.hs2
  have h5 := h.hl
  refine ⟨h1, ?_, fun j hj => ?_⟩
  · unfold matB
    rw [at_ix (by omega) n1 n2, List.getD_eq_getElem?_getD, h2]
    simp
  · unfold matB
    rw [decide_eq_false (fun e => ?_)]
    · rfl
    · subst e
      rw [ix_at (by omega)] at hj
      omega
end
end Go.Proofs.Ytbhnpcmmcelecaa
namespace Go.Proofs.Ytbhnpcmmcelecaa
open Go.RowKit Go.Maps

section
variable {w v : World} {y B : Nat} {b size n : Int} {a : Nat} {l : List Bool}
def rfd (b n : Int) (a : Nat) (l : List Bool) : Int := if (okn b n && opb (sz b) ((a : Int) % sz b) l n) = true then ((a + ix (sz b) ((a : Int) % sz b) n : Nat) : Int) else -1
theorem rfd_at {j : Nat} (h : RefR w y B b size a l) (hj : j < l.length) (h1 : ∀ i, i < j → matB (sz b) ((a : Int) % sz b) n l i = false) (h2 : matB (sz b) ((a : Int) % sz b) n l j = true) : rfd b n a l = ((a + j : Nat) : Int) := by
  cases hc : okn b n && opb (sz b) ((a : Int) % sz b) l n
  · have := mat_not h hc j hj
    rw [this] at h2
    cases h2
  · have hc2 := hc
    rw [Bool.and_eq_true] at hc
    obtain ⟨m1, m2, m3⟩ := mat_yes h hc.1 hc.2
    unfold rfd
    rw [if_pos hc2]
    rcases Nat.lt_trichotomy j (ix (sz b) ((a : Int) % sz b) n) with hlt | he | hgt
    · rw [m3 j hlt] at h2; cases h2
    · rw [← he]
    · rw [h1 _ hgt] at m2; cases m2
theorem rfd_none (h : RefR w y B b size a l) (h1 : ∀ i, i < l.length → matB (sz b) ((a : Int) % sz b) n l i = false) : rfd b n a l = -1 := by
  cases hc : okn b n && opb (sz b) ((a : Int) % sz b) l n
  · unfold rfd; rw [hc]; rfl
  · rw [Bool.and_eq_true] at hc
    obtain ⟨m1, m2, m3⟩ := mat_yes h hc.1 hc.2
    rw [h1 _ m1] at m2; cases m2
set_option maxRecDepth 100000 in
set_option maxHeartbeats 3200000 in
theorem rfind_any (h : RefR w y B b size a l) (n : Int) : Calls Try.prog 164 #[.pointer (some ⟨y, 0, none⟩), .int .i64 n] w fun e w' => e = .returned (.int .i64 (rfd b n a l)) ∧ w = w' := by
  have HF := Lib.hid (rfirst_any h)
  obtain ⟨A, c, hr, ho⟩ := h.row
  have HN := Lib.hid (fun i => rnumber_any (w := w) i hr h.rt)
  have HA := Lib.hid (own_at ho)
  have HAT := Lib.hid (fun j (hj : j < l.length) => rfd_at (n := n) (j := j) h hj)
  have HNO := Lib.hid (rfd_none (n := n) h)
  have HE := Lib.hid (emod_nat a (sz b))
  have hbd := h.hb
  obtain ⟨c0, c1, c2⟩ := rwcells hr
  generalize hll : l.length = ll at *
  generalize hL : a + ll = L at *
  have HLL := Lib.hid hL
  have HLC := Lib.hid hll
  clear h ho hr hL hll
  generalize sz b = N at *
  go_enter Try.func164, Try.ntmps164
  go_wp2_with (go_at_call 165; (with_reducible refine HF.out.mono ?_); rintro e w1 ⟨rfl, rfl⟩)
  go_loopw [5] (fun s5 wr => ∃ j : Nat, j ≤ ll ∧ s5 = .int .i64 ((a + j : Nat) : Int) ∧ Hid (∀ i, i < j → matB N ((a : Int) % N) n l i = false) ∧ w = wr) (fun s5 _ => L - (intOf s5).toNat)
  case atStart => exact ⟨0, by omega, rfl, Lib.hid (fun i hi => by omega), rfl⟩
  case round =>
    obtain ⟨j, hj, rfl, HI, rfl⟩ := hrel
    have HNJ := Lib.hid (HN.out (a + j))
    rw [← HE.out j] at HNJ
    obtain ⟨aj, haj⟩ : ∃ aj, a + j = aj := ⟨_, rfl⟩
    have HAJ := Lib.hid haj
    rw [haj] at HNJ ⊢
    by_cases hlt : j < ll
    · obtain ⟨cv, hcv⟩ : ∃ cv, l[j]? = some cv := ⟨_, List.getElem?_eq_getElem (by rw [HLC.out]; exact hlt)⟩
      obtain ⟨g, rfl, z⟩ := HA.out.cell (blv_at ((done_ge (a := a) (l := l) (j := j)).trans hcv))
      rw [haj] at z
      have h1 : (aj : Int) < L := by have := HLL.out; omega
      have h0 : (0 : Int) ≤ aj := by omega
      have HLT := Lib.hid hlt
      have HM := Lib.hid (show matB N ((a : Int) % N) n l j = (decide (((a : Int) % N + (j : Int)) % N = n) && !cv) by unfold matB; rw [List.getD_eq_getElem?_getD, hcv]; rfl)
      have HS := Lib.hid (fun (hm : matB N ((a : Int) % N) n l j = false) i (hi : i < j + 1) => by
        rcases Nat.lt_or_ge i j with h2 | h2
        · exact HI.out i h2
        · obtain rfl : i = j := by omega
          exact hm)
      generalize ((a : Int) % N + (j : Int)) % N = nu at *
      clear hlt hcv haj
      by_cases e : nu = n
      · have e1 : (nu == n) = true := by simpa using e
        have HM2 := Lib.hid (show matB N ((a : Int) % N) n l j = !cv by rw [HM.out, decide_eq_true e]; rfl)
        clear e
        cases cv
        · go_wp2_with (go_at_call 160; (with_reducible refine HNJ.out.mono ?_); rintro e w2 ⟨rfl, rfl⟩)
          go_ret
          exact ⟨ret_int (by rw [HAT.out j HLT.out HI.out HM2.out, HAJ.out]), rfl⟩
        · go_wp2_with (go_at_call 160; (with_reducible refine HNJ.out.mono ?_); rintro e w2 ⟨rfl, rfl⟩)
          go_roundw
          case rel => exact ⟨j + 1, by have := HLT.out; omega, by rw [← HAJ.out]; go_num, Lib.hid (HS.out HM2.out), trivial⟩
          case measure => have := HLT.out; have := HAJ.out; have := HLL.out; simp [intOf]; omega
      · have e1 : (nu == n) = false := by simpa using e
        have HM2 := Lib.hid (show matB N ((a : Int) % N) n l j = false by rw [HM.out, decide_eq_false e]; rfl)
        clear e
        go_wp2_with (go_at_call 160; (with_reducible refine HNJ.out.mono ?_); rintro e w2 ⟨rfl, rfl⟩)
        go_roundw
        case rel => exact ⟨j + 1, by have := HLT.out; omega, by rw [← HAJ.out]; go_num, Lib.hid (HS.out HM2.out), trivial⟩
        case measure => have := HLT.out; have := HAJ.out; have := HLL.out; simp [intOf]; omega
    · have h1 : ¬ (aj : Int) < L := by have := HLL.out; omega
      have hjl : j = ll := by omega
      have HR := Lib.hid (HNO.out (fun i hi => HI.out i (by omega)))
      clear hlt haj hjl
      go_wp2
      go_ret
      exact ⟨ret_int HR.out.symm, rfl⟩
end
end Go.Proofs.Ytbhnpcmmcelecaa
