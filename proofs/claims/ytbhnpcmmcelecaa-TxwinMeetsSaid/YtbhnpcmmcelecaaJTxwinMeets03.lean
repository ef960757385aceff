/-
  txwin: all open numbers. txwin: plain mathematics of the list of open numbers. txwin: what a window answers to fixed calls. TxwinStalls: the walk. TxwinStalls: the walk, for every input. Bits and the numbers and bytes that they make: plain lists, no program.
-/
import Derived.Test.YtbhnpcmmcelecaaJTxwinMeets02
import Derived.OpenShut
import Derived.Below
namespace Go.Proofs.Ytbhnpcmmcelecaa
open Go.RowKit Go.Maps

def ints (l : List Int) : List Value := l.map fun a => .int .i64 a
theorem ints_app (l k : List Int) : ints (l ++ k) = ints l ++ ints k := by unfold ints; simp
theorem clipi_any {A : Option Addr} (n c : Nat) (w : World) (hc : n ≤ c) : Calls Try.prog 166 #[.slice A n c] w fun e w' => e = .returned (.slice A n n) ∧ w = w' := by
  cases A with
  | none =>
    go_enter Try.func166, Try.ntmps166
    go_wp2
    go_ret
    exact ⟨rfl, rfl⟩
  | some a =>
    go_enter Try.func166, Try.ntmps166
    go_wp2
    go_ret
    exact ⟨rfl, rfl⟩
def opk (N f : Int) (l : List Bool) (k : Nat) : List Int := ((List.range k).filter fun i => !(l.getD i true)).map fun i : Nat => (f + i) % N
theorem opk_succ (N f : Int) (l : List Bool) (k : Nat) : opk N f l (k + 1) = opk N f l k ++ (if l.getD k true = true then [] else [(f + k) % N]) := by
  unfold opk
  rw [List.range_succ, List.filter_append, List.map_append]
  congr 1
  by_cases h : l.getD k true = true
  · rw [if_pos h, List.filter_cons_of_neg (by rw [h]; decide)]; rfl
  · rw [if_neg h, List.filter_cons_of_pos (by simpa using h)]; rfl
theorem opk_all (N f : Int) (l : List Bool) : opk N f l l.length = opens N f l := rfl
theorem opk_le (N f : Int) (l : List Bool) (k : Nat) : (opk N f l k).length ≤ k := by
  unfold opk
  rw [List.length_map]
  exact Nat.le_trans (List.length_filter_le _ _) (by simp)
section
variable {w v : World} {x m k : Nat} {b size f n nx : Int} {l r : List Bool}
theorem at_end (h : WinR w x m b size f l) (hk : k ≤ l.length) : ((f + (k : Int)) % sz b = (f + l.length) % sz b) ↔ k = l.length := by
  have h1 := h.hs2
  have h2 := h.hl
  have h3 := h.pos
  constructor
  · intro e
    have a := ix_at (N := sz b) (f := f) (i := k) (by omega)
    have c := ix_at (N := sz b) (f := f) (i := l.length) (by omega)
    rw [e, c] at a
    omega
  · rintro rfl; rfl
theorem open_at (h : WinR w x m b size f l) (hk : k < l.length) : (okn b ((f + (k : Int)) % sz b) && opb (sz b) f l ((f + (k : Int)) % sz b)) = !(l.getD k true) := by
  have h1 := h.hs2
  have h2 := h.hl
  have h3 := h.pos
  rw [okn_mod h.rt, Bool.true_and]
  unfold opb
  rw [ix_at (by omega)]
theorem Row.own_ne {w : World} {base : Nat} {E : TypeId} {y : Value} {n : Nat} {xs : List Value} {g : Nat} {t : TypeId} {cs : Array Value} (hr : Row w g t cs) (h : w.ownsRow base E 1 y n xs) (hne : E ≠ t) : ∀ j, y.ownBlock = some j → j ≠ g := by
  intro j hj e
  subst e
  exact own_apart h hr hne hj
set_option maxRecDepth 100000 in
set_option maxHeartbeats 3200000 in
theorem wall_any (h : WinR w x m b size f l) : Calls Try.prog 96 #[.pointer (some ⟨x, 0, none⟩)] w fun e w' => ∃ A, e = .returned (.slice A (opens (sz b) f l).length (opens (sz b) f l).length) ∧ SlAt w.heap.size 3 w' A (ints (opens (sz b) f l)) ∧ Below w.heap.size w w' := by
  have HE := Lib.hid (wends_any h)
  have HO := Lib.hid (fun W n (hb : Below w.heap.size w W) => wopen_any (h.later hb) n)
  have HB := Lib.hid (fun W n (hb : Below w.heap.size w W) (hn : okn b n = true) => wbehind_any (n := n) (h.row.later hb) h.rt hn)
  have HK := Lib.hid (fun k (hk : k ≤ l.length) => at_end h hk)
  have HP := Lib.hid (fun k (hk : k < l.length) => open_at h hk)
  have HM := Lib.hid (fun x => okn_mod h.rt x)
  have HI := Lib.hid (fun k (hk : k ≤ l.length) => (ix_at (f := f) (i := k) (by have h1 := h.hs2; have h2 := h.hl; have h3 := h.pos; omega) : ix (sz b) f ((f + (k : Int)) % sz b) = k))
  have hLb : l.length ≤ 40000 := by have h1 := h.hs2; have h2 := h.hl; have h3 := h.pos; omega
  have H0 := Lib.hid (show (f + ((0 : Nat) : Int)) % sz b = f by have := okn_true h.hf; rw [Int.natCast_zero, Int.add_zero]; exact Int.emod_eq_of_lt this.1 this.2)
  have HOP := Lib.hid (opk_all (sz b) f l)
  have HOS := Lib.hid (opk_succ (sz b) f l)
  have HOL := Lib.hid (opk_le (sz b) f l)
  have HZ0 : ∀ wr : World, wr.ownsRow w.heap.size 3 1 (.slice none 0 0) (opk (sz b) f l 0).length (ints (opk (sz b) f l 0)) := fun wr => World.ownsRow_nil _ _ _ _
  have HZ0 := Lib.hid HZ0
  generalize opens (sz b) f l = OP at *
  generalize opk (sz b) f l = op at *
  generalize hL : l.length = L at *
  generalize hnx : (f + (L : Int)) % sz b = nx at *
  have HNX := Lib.hid hnx
  clear h hL hnx
  go_enter Try.func96, Try.ntmps96
  go_wp2_with (go_at_call 91; (with_reducible refine HE.out.mono ?_); rintro e w1 ⟨rfl, hb1⟩; (have HB1 := Lib.hid hb1; clear hb1))
  go_loopw [3, 4] (fun s3 s4 wr => ∃ (k : Nat) (ty : Int), k ≤ L ∧ s4 = .int .i64 ty ∧ Hid (ty = (f + (k : Int)) % sz b) ∧ Hid (wr.ownsRow w.heap.size 3 1 s3 (op k).length (ints (op k))) ∧ Hid (Below w.heap.size w wr)) (fun _ s4 _ => L - ix (sz b) f (intOf s4))
  case atStart => exact ⟨0, f, by omega, rfl, Lib.hid H0.out.symm, Lib.hid (HZ0.out _), HB1⟩
  case round =>
    obtain ⟨k, ty, hk, rfl, HTY, HOW, HBr⟩ := hrel
    have hkL := HI.out k hk
    rw [← HTY.out] at hkL
    have HIK := Lib.hid hkL
    obtain ⟨A3, c3, rfl, hc3, hc3m⟩ := own_shape HOW.out
    by_cases hlt : k < L
    · have hne : (ty != nx) = true := by
        have := HK.out k hk
        rw [← HTY.out] at this
        simp
        omega
      have ho := HO.out wr ty HBr.out
      have hp := HP.out k hlt
      rw [← HTY.out] at hp
      rw [hp] at ho
      have HO2 := Lib.hid ho
      have HB2 := Lib.hid (fun W (hb : Below w.heap.size w W) => by have h1 := HB.out W ty hb (by rw [HTY.out]; exact HM.out _); exact h1)
      have HTN := Lib.hid (show (ty + 1) % sz b = (f + ((k + 1 : Nat) : Int)) % sz b by rw [HTY.out, Int.emod_add_emod, show f + (k : Int) + 1 = f + ((k + 1 : Nat) : Int) by omega])
      have HIN := Lib.hid (show ix (sz b) f ((ty + 1) % sz b) = k + 1 by rw [HTN.out]; exact HI.out (k + 1) (by omega))
      have HS := Lib.hid (HOS.out k)
      rw [← HTY.out] at HS
      clear hkL hp ho
      cases hq : l.getD k true
      · rw [hq] at HO2 HS
        simp only [Bool.not_false, Bool.false_eq_true, if_false] at HO2 HS
        clear hq
        go_wp2_with (first
          | (go_at_call 98; (with_reducible refine HO2.out.mono ?_); rintro e w2 ⟨rfl, hb2⟩; (have HB3 := Lib.hid (bl_step HBr.out hb2); obtain ⟨A', c', w3, hrun, hown, hon⟩ := own_next (T := 58) (E := 3) (u := .int .i64 ty) (by kernel_rfl) (show (Try.prog.info? 3).map (fun i => (i.zero, i.size, i.bytes)) = some (some (.int .i64 0), 1, 8) by kernel_rfl) rfl (by omega) rfl (own_after HOW.out hb2) HB3.out.size (by have := HOL.out k; omega); have HRUN := Lib.hid hrun; have HOWN := Lib.hid hown; have HON := Lib.hid (hon.below HB3.out.size (fun j hj hk => by have := (own_block (own_after HOW.out hb2) j hk).1; omega)); clear hb2 hrun hown hon))
          | (at_builtin; refine wpList_is rfl (.tmp 17) (.tmp 19) 58 rfl _ _ (by rfl) (by rfl) HRUN.out ?_)
          | (go_at_call 159; (with_reducible refine (HB2.out _ (HB3.out.trans HON.out)).mono ?_); rintro e w4 ⟨rfl, hb4⟩; (have HB4 := Lib.hid hb4; clear hb4))
          | go_in)
        go_roundw
        case rel => exact ⟨k + 1, (ty + 1) % sz b, by omega, rfl, HTN, Lib.hid (by rw [HS.out, List.length_append, ints_app]; exact own_after HOWN.out HB4.out), Lib.hid ((HB3.out.trans HON.out).trans (HB4.out.mono (HB3.out.trans HON.out).size))⟩
        case measure => simp only [intOf]; rw [HIK.out, HIN.out]; omega
      · rw [hq] at HO2 HS
        simp only [Bool.not_true, if_true, List.append_nil] at HO2 HS
        clear hq
        go_wp2_with (first
          | (go_at_call 98; (with_reducible refine HO2.out.mono ?_); rintro e w2 ⟨rfl, hb2⟩; (have HB3 := Lib.hid hb2; clear hb2))
          | (go_at_call 159; (with_reducible refine (HB2.out _ (bl_step HBr.out HB3.out)).mono ?_); rintro e w4 ⟨rfl, hb4⟩; (have HB4 := Lib.hid hb4; clear hb4))
          | go_in)
        go_roundw
        case rel => exact ⟨k + 1, (ty + 1) % sz b, by omega, rfl, HTN, Lib.hid (by rw [HS.out]; exact own_after (own_after HOW.out HB3.out) HB4.out), Lib.hid (bl_step (bl_step HBr.out HB3.out) HB4.out)⟩
        case measure => simp only [intOf]; rw [HIK.out, HIN.out]; omega
    · obtain rfl : k = L := by omega
      have he : ty = nx := by rw [HTY.out, HNX.out]
      subst he
      have HOPk := HOP
      have HC := Lib.hid (fun W => clipi_any (A := A3) (op k).length c3 W hc3)
      have HLE := Lib.hid (show (op k).length = OP.length by rw [HOP.out])
      clear hkL hlt
      generalize (op k).length = q at *
      go_wp2_with (first | (go_at_call 166; (with_reducible refine (HC.out _).mono ?_); rintro e w2 ⟨rfl, rfl⟩) | go_in)
      go_ret
      refine ⟨A3, by rw [HLE.out]; rfl, ?_, HBr.out⟩
      have := own_at HOW.out
      rw [HOPk.out] at this
      exact this
end
end Go.Proofs.Ytbhnpcmmcelecaa
namespace Go.Proofs.Ytbhnpcmmcelecaa
open Go.RowKit

section
variable {N f v : Int} {l r : List Bool}
theorem range_two (n : Nat) : List.range (n + 1) = 0 :: (List.range n).map Nat.succ := List.range_succ_eq_map
theorem opens_cons (c : Bool) : opens N f (c :: r) = (if c = true then [] else [f % N]) ++ opens N ((f + 1) % N) r := by
  unfold opens
  rw [List.length_cons, range_two, List.filter_cons, List.filter_map]
  have e : (fun i => !(c :: r).getD i true) ∘ Nat.succ = fun i => !(r.getD i true) := by
    funext i; rfl
  rw [e]
  have e2 : ∀ xs : List Nat, (xs.map Nat.succ).map (fun i : Nat => (f + i) % N) = xs.map fun i : Nat => ((f + 1) % N + i) % N := by
    intro xs
    rw [List.map_map]
    apply List.map_congr_left
    intro i _
    show (f + ((i + 1 : Nat) : Int)) % N = _
    rw [Int.emod_add_emod, show f + 1 + (i : Int) = f + ((i + 1 : Nat) : Int) by omega]
  cases c
  · simp only [List.getD_cons_zero, Bool.not_false, if_true, List.map_cons, Bool.false_eq_true, if_false]
    rw [e2]
    simp
  · simp only [List.getD_cons_zero, Bool.not_true, Bool.false_eq_true, if_false, if_true, List.nil_append]
    rw [e2]
theorem opens_nrm (N : Int) : ∀ (l : List Bool) (f : Int), opens N (nrm N f l).1 (nrm N f l).2 = opens N f l
  | [], _ => rfl
  | true :: r, f => by
    show opens N (nrm N ((f + 1) % N) r).1 (nrm N ((f + 1) % N) r).2 = _
    rw [opens_nrm N r, opens_cons]
    rfl
  | false :: _, _ => rfl
theorem nrm_head (N : Int) : ∀ (l : List Bool) (f : Int), (nrm N f l).2.head? ≠ some true
  | [], _ => by simp [nrm]
  | true :: r, f => nrm_head N r _
  | false :: _, _ => by simp [nrm]
theorem opens_le (N f : Int) (l : List Bool) : (opens N f l).length ≤ l.length := opk_le N f l l.length
theorem opens_mem {i : Nat} (h : (opens N f l)[i]? = some v) : ∃ j : Nat, j < l.length ∧ v = (f + j) % N ∧ l[j]? = some false := by
  have hm := List.mem_of_getElem? h
  unfold opens at hm
  rw [List.mem_map] at hm
  obtain ⟨j, hj, rfl⟩ := hm
  rw [List.mem_filter, List.mem_range] at hj
  refine ⟨j, hj.1, rfl, ?_⟩
  have h2 := hj.2
  rw [List.getD_eq_getElem?_getD, List.getElem?_eq_getElem hj.1] at h2
  rw [List.getElem?_eq_getElem hj.1]
  simp at h2
  rw [h2]
theorem filter_last {xs ys : List Nat} {j : Nat} (h : xs = ys ++ [j]) (hn : xs.Nodup) : xs.filter (fun i => !(i == j)) = ys := by
  subst h
  rw [List.nodup_append] at hn
  rw [List.filter_append]
  have h1 : ys.filter (fun i => !(i == j)) = ys := by
    rw [List.filter_eq_self]
    intro a ha
    have := hn.2.2 a ha j (by simp)
    simpa using this
  rw [h1]
  simp
theorem opens_set {j : Nat} : opens N f (l.set j true) = (((List.range l.length).filter fun i => !(l.getD i true)).filter fun i => !(i == j)).map fun i : Nat => (f + i) % N := by
  unfold opens
  rw [List.length_set, List.filter_filter]
  congr 1
  apply List.filter_congr
  intro i hi
  rw [List.mem_range] at hi
  rw [List.getD_eq_getElem?_getD, List.getD_eq_getElem?_getD, List.getElem?_set]
  by_cases e : j = i
  · subst e
    simp [hi]
  · rw [if_neg e]
    have : (i == j) = false := by simp; omega
    rw [this]
    simp
theorem opens_last {ys : List Int} (h : opens N f l = ys ++ [v]) (hl : (l.length : Int) ≤ N) : opens N f (l.set (ix N f v) true) = ys := by
  have h0 := h
  unfold opens at h0
  rw [List.map_eq_append_iff] at h0
  obtain ⟨zs, bs, h1, h2, h3⟩ := h0
  obtain ⟨j, rfl⟩ : ∃ j, bs = [j] := by
    match bs, h3 with
    | [j], _ => exact ⟨j, rfl⟩
  have h4 : (f + (j : Int)) % N = v := by simpa using h3
  have hj : j < l.length := by
    have : j ∈ (List.range l.length).filter fun i => !(l.getD i true) := by rw [h1]; simp
    rw [List.mem_filter, List.mem_range] at this
    exact this.1
  rw [← h4, ix_at (by omega), opens_set, filter_last h1 (List.nodup_range.filter _), h2]
theorem opens_none (h : opens N f l = []) (hh : l.head? ≠ some true) : l = [] := by
  match l with
  | [] => rfl
  | true :: _ => exact absurd rfl hh
  | false :: r =>
    rw [opens_cons] at h
    simp at h
end
end Go.Proofs.Ytbhnpcmmcelecaa
namespace Go.Proofs.Ytbhnpcmmcelecaa
open Go.RowKit Go.Maps

section
variable {w v : World} {x m B : Nat}
theorem XM_old (h : B ≤ x ∧ B ≤ m) : ∀ k, k < B → ¬ XM x m k := by
  rintro k hk (rfl | rfl) <;> omega
theorem al_n0 (h : WinR w x m 3 3 0 []) : Calls Try.prog 86 #[.pointer (some ⟨x, 0, none⟩)] w fun e w' => e = .returned (.tuple #[.int .i64 0, .int .i64 0]) ∧ WinR w' x m 3 3 0 [false] ∧ Only (XM x m) w w' := by
  have h1 := wnext_ok h (by decide)
  rw [show ((0 : Int) + (([] : List Bool).length : Nat)) % sz 3 = 0 by decide +kernel] at h1
  exact h1
theorem al_n1 (h : WinR w x m 3 3 0 [false]) : Calls Try.prog 86 #[.pointer (some ⟨x, 0, none⟩)] w fun e w' => e = .returned (.tuple #[.int .i64 1, .int .i64 0]) ∧ WinR w' x m 3 3 0 [false, false] ∧ Only (XM x m) w w' := by
  have h1 := wnext_ok h (by decide)
  rw [show ((0 : Int) + (([false] : List Bool).length : Nat)) % sz 3 = 1 by decide +kernel] at h1
  exact h1
theorem al_n2 (h : WinR w x m 3 3 0 [false, false]) : Calls Try.prog 86 #[.pointer (some ⟨x, 0, none⟩)] w fun e w' => e = .returned (.tuple #[.int .i64 2, .int .i64 0]) ∧ WinR w' x m 3 3 0 [false, false, false] ∧ Only (XM x m) w w' := by
  have h1 := wnext_ok h (by decide)
  rw [show ((0 : Int) + (([false, false] : List Bool).length : Nat)) % sz 3 = 2 by decide +kernel] at h1
  exact h1
theorem al_a1 (h : WinR w x m 3 3 0 [false, false, false]) : Calls Try.prog 88 #[.pointer (some ⟨x, 0, none⟩), .int .i64 1] w fun e w' => e = .returned (.int .i64 0) ∧ WinR w' x m 3 3 0 [false, true, false] ∧ Only (XM x m) w w' := by
  have h1 := wack_ok h (n := 1) (by decide +kernel) (by decide +kernel)
  rw [show (nrm (sz 3) 0 (([false, false, false] : List Bool).set (ix (sz 3) 0 1) true)) = (0, [false, true, false]) by decide +kernel] at h1
  exact h1
theorem al_a0 (h : WinR w x m 3 3 0 [false, true, false]) : Calls Try.prog 88 #[.pointer (some ⟨x, 0, none⟩), .int .i64 0] w fun e w' => e = .returned (.int .i64 0) ∧ WinR w' x m 3 3 2 [false] ∧ Only (XM x m) w w' := by
  have h1 := wack_ok h (n := 0) (by decide +kernel) (by decide +kernel)
  rw [show (nrm (sz 3) 0 (([false, true, false] : List Bool).set (ix (sz 3) 0 0) true)) = (2, [false]) by decide +kernel] at h1
  exact h1
theorem al_full (h : WinR w x m 3 3 0 [false, false, false]) : Calls Try.prog 86 #[.pointer (some ⟨x, 0, none⟩)] w fun e w' => e = .returned (.tuple #[.int .i64 0, .int .i64 11]) ∧ Below w.heap.size w w' := wnext_full h (by decide)
theorem al_ends (h : WinR w x m 3 3 2 [false]) : Calls Try.prog 91 #[.pointer (some ⟨x, 0, none⟩)] w fun e w' => e = .returned (.tuple #[.int .i64 2, .int .i64 3]) ∧ Below w.heap.size w w' := by
  have h1 := wends_any h
  rw [show ((2 : Int) + (([false] : List Bool).length : Nat)) % sz 3 = 3 by decide +kernel] at h1
  exact h1
theorem al_old (h : WinR w x m 3 3 2 [false]) : Calls Try.prog 88 #[.pointer (some ⟨x, 0, none⟩), .int .i64 1] w fun e w' => e = .returned (.int .i64 10) ∧ Below w.heap.size w w' := wack_old h (by decide +kernel) (by decide +kernel)
theorem al_o2 (h : WinR w x m 3 3 2 [false]) : Calls Try.prog 98 #[.pointer (some ⟨x, 0, none⟩), .int .i64 2] w fun e w' => e = .returned (.bool true) ∧ Below w.heap.size w w' := by
  have h1 := wopen_any h 2
  rw [show (okn 3 2 && opb (sz 3) 2 [false] 2) = true by decide +kernel] at h1
  exact h1
theorem al_o1 (h : WinR w x m 3 3 2 [false]) : Calls Try.prog 98 #[.pointer (some ⟨x, 0, none⟩), .int .i64 1] w fun e w' => e = .returned (.bool false) ∧ Below w.heap.size w w' := by
  have h1 := wopen_any h 1
  rw [show (okn 3 1 && opb (sz 3) 2 [false] 1) = false by decide +kernel] at h1
  exact h1
theorem al_new (w : World) : Calls Try.prog 83 #[.int .i64 3, .int .i64 3] w fun e w' => ∃ x m : Nat, e = .returned (.tuple #[.pointer (some ⟨x, 0, none⟩), .int .i64 0]) ∧ WinR w' x m 3 3 0 [] ∧ Below w.heap.size w w' ∧ w.heap.size ≤ x ∧ w.heap.size ≤ m := wnew_ok 3 3 w (by decide) (by decide) (by decide +kernel)
theorem al_new2 (w : World) : Calls Try.prog 83 #[.int .i64 3, .int .i64 5] w fun e w' => e = .returned (.tuple #[.pointer none, .int .i64 1]) ∧ Below w.heap.size w w' := wnew_bad 3 5 w (.inr (by decide +kernel))
set_option maxRecDepth 100000 in
set_option maxHeartbeats 3200000 in
theorem walive_any (w : World) : Calls Try.prog 85 #[] w fun e w' => e = .returned (.bool true) ∧ Below w.heap.size w w' := by
  have HN := Lib.hid al_new
  have HN2 := Lib.hid al_new2
  go_enter Try.func85, Try.ntmps85
  go_wp2_with (first
    | (go_at_call 83; (with_reducible refine (HN.out _).mono ?_); rintro e w1 ⟨x, m, rfl, hw1, hb1, hx1, hm1⟩; (have HW1 := Lib.hid hw1; have HB1 := Lib.hid hb1; have HX := Lib.hid (And.intro hx1 hm1); clear hw1 hb1 hx1 hm1))
    | (go_at_call 86; (with_reducible refine (al_n0 HW1.out).mono ?_); rintro e w2 ⟨rfl, hw, ho⟩; (have HW2 := Lib.hid hw; have HB2 := Lib.hid (HB1.out.trans (ho.below HB1.out.size (XM_old HX.out))); clear hw ho))
    | (go_at_call 86; (with_reducible refine (al_n1 HW2.out).mono ?_); rintro e w3 ⟨rfl, hw, ho⟩; (have HW3 := Lib.hid hw; have HB3 := Lib.hid (HB2.out.trans (ho.below HB2.out.size (XM_old HX.out))); clear hw ho))
    | (go_at_call 86; (with_reducible refine (al_n2 HW3.out).mono ?_); rintro e w4 ⟨rfl, hw, ho⟩; (have HW4 := Lib.hid hw; have HB4 := Lib.hid (HB3.out.trans (ho.below HB3.out.size (XM_old HX.out))); clear hw ho))
    | (go_at_call 86; (with_reducible refine (al_full HW4.out).mono ?_); rintro e w5 ⟨rfl, hb⟩; (have HW5 := Lib.hid (HW4.out.later hb); have HB5 := Lib.hid (bl_step HB4.out hb); clear hb))
    | (go_at_call 88; (with_reducible refine (al_a1 HW5.out).mono ?_); rintro e w6 ⟨rfl, hw, ho⟩; (have HW6 := Lib.hid hw; have HB6 := Lib.hid (HB5.out.trans (ho.below HB5.out.size (XM_old HX.out))); clear hw ho))
    | (go_at_call 88; (with_reducible refine (al_a0 HW6.out).mono ?_); rintro e w7 ⟨rfl, hw, ho⟩; (have HW7 := Lib.hid hw; have HB7 := Lib.hid (HB6.out.trans (ho.below HB6.out.size (XM_old HX.out))); clear hw ho))
    | (go_at_call 91; (with_reducible refine (al_ends HW7.out).mono ?_); rintro e w8 ⟨rfl, hb⟩; (have HW8 := Lib.hid (HW7.out.later hb); have HB8 := Lib.hid (bl_step HB7.out hb); clear hb))
    | (go_at_call 83; (with_reducible refine (HN2.out _).mono ?_); rintro e w9 ⟨rfl, hb⟩; (have HW9 := Lib.hid (HW8.out.later hb); have HB9 := Lib.hid (bl_step HB8.out hb); clear hb))
    | (go_at_call 88; (with_reducible refine (al_old HW9.out).mono ?_); rintro e w10 ⟨rfl, hb⟩; (have HW10 := Lib.hid (HW9.out.later hb); have HB10 := Lib.hid (bl_step HB9.out hb); clear hb))
    | (go_at_call 98; (with_reducible refine (al_o2 HW10.out).mono ?_); rintro e w11 ⟨rfl, hb⟩; (have HW11 := Lib.hid (HW10.out.later hb); have HB11 := Lib.hid (bl_step HB10.out hb); clear hb))
    | (go_at_call 98; (with_reducible refine (al_o1 HW11.out).mono ?_); rintro e w12 ⟨rfl, hb⟩; (have HW12 := Lib.hid (HW11.out.later hb); have HB12 := Lib.hid (bl_step HB11.out hb); clear hb)))
  go_ret
  exact ⟨rfl, HB12.out⟩
end
end Go.Proofs.Ytbhnpcmmcelecaa
namespace Go.Proofs.Ytbhnpcmmcelecaa
open Go.RowKit Go.Maps

theorem and7 : ∀ b : Nat, b < 256 → ∃ q : Nat, bits BinOp.and IntKind.u8 (b : Int) 7 = (q : Int) ∧ q ≤ 7 := by
  have h : ∀ b : Fin 256, ∃ q : Fin 8, bits BinOp.and IntKind.u8 ((b : Nat) : Int) 7 = ((q : Nat) : Int) := by decide +kernel
  intro b hb
  obtain ⟨q, hq⟩ := h ⟨b, hb⟩
  exact ⟨q, hq, by have := q.2; omega⟩
section
variable {w v : World} {x m B : Nat} {b : Int} {z k n r : Nat}
theorem st_next (h : WinR w x m b z ((n : Int) % sz b) (List.replicate k false)) (hk : k < z) : Calls Try.prog 86 #[.pointer (some ⟨x, 0, none⟩)] w fun e w' => e = .returned (.tuple #[.int .i64 (((n + k : Nat) : Int) % sz b), .int .i64 0]) ∧ WinR w' x m b z ((n : Int) % sz b) (List.replicate (k + 1) false) ∧ Only (XM x m) w w' := by
  have h1 := wnext_ok h (by simp; omega)
  rw [show ((n : Int) % sz b + ((List.replicate k false).length : Nat)) % sz b = ((n + k : Nat) : Int) % sz b by simp [Int.emod_add_emod], ← List.replicate_succ'] at h1
  exact h1
theorem st_full (h : WinR w x m b z ((n : Int) % sz b) (List.replicate z false)) : Calls Try.prog 86 #[.pointer (some ⟨x, 0, none⟩)] w fun e w' => e = .returned (.tuple #[.int .i64 0, .int .i64 11]) ∧ Below w.heap.size w w' := wnext_full h (by simp)
theorem st_stalled (h : WinR w x m b z ((n : Int) % sz b) (List.replicate z false)) : Calls Try.prog 93 #[.pointer (some ⟨x, 0, none⟩)] w fun e w' => e = .returned (.bool true) ∧ Below w.heap.size w w' := by
  have h1 := wstalled_any h
  rw [decide_eq_true (by simp)] at h1
  exact h1
theorem st_ack (h : WinR w x m b z ((n : Int) % sz b) (List.replicate (r + 1) false)) : Calls Try.prog 88 #[.pointer (some ⟨x, 0, none⟩), .int .i64 ((n : Int) % sz b)] w fun e w' => e = .returned (.int .i64 0) ∧ WinR w' x m b z (((n + 1 : Nat) : Int) % sz b) (List.replicate r false) ∧ Only (XM x m) w w' := by
  have h1 := wack_ok h (n := (n : Int) % sz b) (okn_mod h.rt _) (by unfold opb; rw [ix_self]; rfl)
  rw [ix_self] at h1
  have e : nrm (sz b) ((n : Int) % sz b) ((List.replicate (r + 1) false).set 0 true) = (((n + 1 : Nat) : Int) % sz b, List.replicate r false) := by
    show nrm (sz b) (((n : Int) % sz b + 1) % sz b) (List.replicate r false) = _
    rw [Int.emod_add_emod, show (n : Int) + 1 = ((n + 1 : Nat) : Int) by omega]
    cases r <;> rfl
  rw [e] at h1
  exact h1
theorem st_end (h : WinR w x m b z ((n : Int) % sz b) []) : Calls Try.prog 93 #[.pointer (some ⟨x, 0, none⟩)] w fun e w' => e = .returned (.bool false) ∧ Below w.heap.size w w' := by
  have h1 := wstalled_any h
  rw [decide_eq_false (by have := h.hs; simp; omega)] at h1
  exact h1
theorem st_all (h : WinR w x m b z ((n : Int) % sz b) []) : Calls Try.prog 96 #[.pointer (some ⟨x, 0, none⟩)] w fun e w' => ∃ A, e = .returned (.slice A 0 0) ∧ Below w.heap.size w w' := by
  refine (wall_any h).mono ?_
  rintro e w' ⟨A, rfl, _, hb⟩
  exact ⟨A, rfl, hb⟩
set_option maxRecDepth 100000 in
set_option maxHeartbeats 1600000 in
theorem stalls_no (bits size : Int) (rd : Nat) (w : World) (h : (size < 1 ∨ sz bits / 2 < size)) : Calls Try.prog 13 #[.int .i64 bits, .int .i64 size, .int .u8 rd] w fun e w' => e = .returned (.bool true) ∧ Below w.heap.size w w' := by
  have HN := Lib.hid (wnew_bad bits size w h)
  have HA := Lib.hid walive_any
  clear h
  go_enter Try.func13, Try.ntmps13
  go_wp2_with (first
    | (go_at_call 83; (with_reducible refine HN.out.mono ?_); rintro e w1 ⟨rfl, hb⟩; (have HB1 := Lib.hid hb; clear hb))
    | (go_at_call 85; (with_reducible refine (HA.out _).mono ?_); rintro e w2 ⟨rfl, hb⟩; (have HB2 := Lib.hid (bl_step HB1.out hb); clear hb)))
  go_ret
  exact ⟨rfl, HB2.out⟩
set_option maxRecDepth 100000 in
set_option maxHeartbeats 1600000 in
theorem stalls_big (bits size : Int) (rd : Nat) (w : World) (ht : rt bits = true) (h1 : 40 < size) (h2 : size ≤ sz bits / 2) : Calls Try.prog 13 #[.int .i64 bits, .int .i64 size, .int .u8 rd] w fun e w' => e = .returned (.bool true) ∧ Below w.heap.size w w' := by
  have HN := Lib.hid (wnew_ok bits size w ht (by omega) h2)
  have HA := Lib.hid walive_any
  clear ht h2
  go_enter Try.func13, Try.ntmps13
  go_wp2_with (first
    | (go_at_call 83; (with_reducible refine HN.out.mono ?_); rintro e w1 ⟨x, m, rfl, hw, hb, hx, hm⟩; (have HB1 := Lib.hid hb; clear hw hb hx hm))
    | (go_at_call 85; (with_reducible refine (HA.out _).mono ?_); rintro e w2 ⟨rfl, hb⟩; (have HB2 := Lib.hid (bl_step HB1.out hb); clear hb)))
  go_ret
  exact ⟨rfl, HB2.out⟩
set_option maxRecDepth 100000 in
set_option maxHeartbeats 3200000 in
theorem stalls_ok (bits : Int) (z rd : Nat) (hrd : rd < 256) (w : World) (ht : rt bits = true) (h1 : 1 ≤ z) (h40 : z ≤ 40) (h2 : (z : Int) ≤ sz bits / 2) : Calls Try.prog 13 #[.int .i64 bits, .int .i64 z, .int .u8 rd] w fun e w' => e = .returned (.bool true) ∧ Below w.heap.size w w' := by
  have HN := Lib.hid (wnew_ok bits z w ht (by omega) h2)
  have HA := Lib.hid walive_any
  obtain ⟨q, hq, hq7⟩ := and7 rd hrd
  obtain ⟨hb1, hb2⟩ := rt_true ht
  have hs : wrap64 (2 ^ bits.toNat) = sz bits := by
    have e : sz bits = 2 ^ bits.toNat := by unfold sz; rw [if_pos ht]
    rw [← e]
    have := rt_pos ht
    exact IntWalk.wrap64_in _ ⟨by omega, by omega⟩
  obtain ⟨hz1, hz2⟩ := rt_pos ht
  have H0 := Lib.hid (show ((0 : Nat) : Int) % sz bits = 0 by simp)
  clear ht h2
  go_enter Try.func13, Try.ntmps13
  go_wp2_with (go_at_call 83; (with_reducible refine HN.out.mono ?_); rintro e w1 ⟨x, m, rfl, hw, hb, hx, hm⟩; (have HB1 := Lib.hid hb; have HW1 := Lib.hid hw; have HX := Lib.hid (And.intro hx hm); clear hw hb hx hm))
  rw [← H0.out] at HW1
  go_loopw [9, 10] (fun s9 s10 wr => ∃ j n : Nat, j ≤ 1 + q ∧ n ≤ 40 * j ∧ s10 = .int .i64 j ∧ s9 = .int .i64 n ∧ Hid (WinR wr x m bits z ((n : Int) % sz bits) []) ∧ Hid (Below w.heap.size w wr)) (fun _ s10 _ => 1 + q - (intOf s10).toNat)
  case atStart => exact ⟨0, 0, by omega, by omega, rfl, rfl, HW1, HB1⟩
  case round =>
    obtain ⟨j, n, hj, hn, rfl, rfl, HWr, HBr⟩ := hrel
    by_cases hlt : j < 1 + q
    · have hlti : (j : Int) < 1 + q := by omega
      have HJ := Lib.hid (And.intro hlt hn)
      go_wp2
      clear hlti hlt
      go_loopw [9, 11] (fun s9 s11 wx => ∃ k : Nat, k ≤ z ∧ s11 = .int .i64 k ∧ s9 = .int .i64 ((n + k : Nat) : Int) ∧ Hid (WinR wx x m bits z ((n : Int) % sz bits) (List.replicate k false)) ∧ Hid (Below w.heap.size w wx)) (fun _ s11 _ => z - (intOf s11).toNat)
      case atStart => exact ⟨0, by omega, rfl, rfl, HWr, HBr⟩
      case round =>
        obtain ⟨k, hk, rfl, rfl, HWx, HBx⟩ := hrel
        by_cases hlt : k < z
        · have hlti : (k : Int) < z := by omega
          have HNX := Lib.hid (st_next HWx.out hlt)
          go_wp2_with (go_at_call 86; (with_reducible refine HNX.out.mono ?_); rintro e w2 ⟨rfl, hw, ho⟩; (have HW2 := Lib.hid hw; have HB2 := Lib.hid (HBx.out.trans (ho.below HBx.out.size (XM_old HX.out))); clear hw ho))
          go_roundw
          case rel => exact ⟨k + 1, by omega, by go_num, by simp [Int.add_assoc], HW2, HB2⟩
          case measure => simp [intOf]; omega
        · have hlti : ¬ (k : Int) < z := by omega
          obtain rfl : k = z := by omega
          have HE1 := Lib.hid (fun W (hb : Below wr.heap.size wr W) => wends_any (HWx.out.later hb))
          have HE2 := Lib.hid (fun W (hb : Below wr.heap.size wr W) => st_full (HWx.out.later hb))
          have HE3 := Lib.hid (fun W (hb : Below wr.heap.size wr W) => st_stalled (HWx.out.later hb))
          generalize ((n : Int) % sz bits + ((List.replicate k false).length : Nat)) % sz bits = nx at *
          clear hlt hk
          go_wp2_with (first
            | (go_at_call 91; (with_reducible refine (HE1.out _ (Below.refl _ _)).mono ?_); rintro e w2 ⟨rfl, hb⟩; (have HB2 := Lib.hid hb; clear hb))
            | (go_at_call 86; (with_reducible refine (HE2.out _ HB2.out).mono ?_); rintro e w3 ⟨rfl, hb⟩; (have HB3 := Lib.hid (bl_step HB2.out hb); clear hb))
            | (go_at_call 91; (with_reducible refine (HE1.out _ HB3.out).mono ?_); rintro e w4 ⟨rfl, hb⟩; (have HB4 := Lib.hid (bl_step HB3.out hb); clear hb))
            | (go_at_call 93; (with_reducible refine (HE3.out _ HB4.out).mono ?_); rintro e w5 ⟨rfl, hb⟩; (have HB5 := Lib.hid (bl_step HB4.out hb); have HW5 := Lib.hid (HWx.out.later (bl_step HB4.out hb)); clear hb)))
          have HB6 := Lib.hid (bl_step HBx.out HB5.out)
          go_loopw [20] (fun s20 wy => ∃ kk : Nat, n ≤ kk ∧ kk ≤ n + k ∧ s20 = .int .i64 (kk : Int) ∧ Hid (WinR wy x m bits k ((kk : Int) % sz bits) (List.replicate (n + k - kk) false)) ∧ Hid (Below w.heap.size w wy)) (fun s20 _ => n + k - (intOf s20).toNat)
          case atStart => exact ⟨n, by omega, by omega, by first | rfl | (simp; omega), Lib.hid (by rw [show n + k - n = k by omega]; exact HW5.out), HB6⟩
          case round =>
            obtain ⟨kk, hk1, hk2, rfl, HWy, HBy⟩ := hrel
            by_cases hlt : kk < n + k
            · have hlti : (kk : Int) < (n : Int) + k := by omega
              have HWy2 := HWy.out
              obtain ⟨r, hr⟩ : ∃ r, n + k - kk = r + 1 := ⟨n + k - kk - 1, by omega⟩
              have HRR := Lib.hid (show n + k - (kk + 1) = r by omega)
              rw [hr] at HWy2
              have HAC := Lib.hid (st_ack HWy2)
              clear HWy2 hr
              go_wp2_with (go_at_call 88; (with_reducible refine HAC.out.mono ?_); rintro e w7 ⟨rfl, hw, ho⟩; (have HW7 := Lib.hid hw; have HB7 := Lib.hid (HBy.out.trans (ho.below HBy.out.size (XM_old HX.out))); clear hw ho))
              go_roundw
              case rel => exact ⟨kk + 1, by omega, by omega, by go_num, Lib.hid (by rw [HRR.out]; exact HW7.out), HB7⟩
              case measure => simp [intOf]; omega
            · have hlti : ¬ (kk : Int) < (n : Int) + k := by omega
              obtain rfl : kk = n + k := by omega
              go_wp2
              go_roundw
              case rel => exact ⟨j + 1, n + k, by have := HJ.out.1; omega, by have := HJ.out.2; omega, by go_num, by simp, Lib.hid (by have := HWy.out; rw [Nat.sub_self] at this; exact this), HBy⟩
              case measure => have := HJ.out.1; simp [intOf]; omega
    · have hlti : ¬ (j : Int) < 1 + q := by omega
      have HE1 := Lib.hid (fun W (hb : Below wr.heap.size wr W) => st_end (HWr.out.later hb))
      have HE2 := Lib.hid (fun W (hb : Below wr.heap.size wr W) => st_all (HWr.out.later hb))
      go_wp2_with (first
        | (go_at_call 85; (with_reducible refine (HA.out _).mono ?_); rintro e w2 ⟨rfl, hb⟩; (have HB2 := Lib.hid hb; clear hb))
        | (go_at_call 93; (with_reducible refine (HE1.out _ HB2.out).mono ?_); rintro e w3 ⟨rfl, hb⟩; (have HB3 := Lib.hid (bl_step HB2.out hb); clear hb))
        | (go_at_call 96; (with_reducible refine (HE2.out _ HB3.out).mono ?_); rintro e w4 ⟨A, rfl, hb⟩; (have HB4 := Lib.hid (bl_step HB3.out hb); clear hb)))
      go_ret
      exact ⟨rfl, bl_step HBr.out HB4.out⟩
end
end Go.Proofs.Ytbhnpcmmcelecaa
namespace Go.Proofs.Ytbhnpcmmcelecaa
open Go.RowKit Go.Maps

theorem u8_wf {a : Int} (h : (Lit.int .u8 a).wf = true) : ∃ k : Nat, a = k ∧ k < 256 := by
  have := Go.bounds_u8 h
  exact ⟨a.toNat, by omega, by omega⟩
theorem stalls_every (bits size a : Int) (w : World) (h : (Lit.int .u8 a).wf = true) : Calls Try.prog 13 #[.int .i64 bits, .int .i64 size, .int .u8 a] w fun e w' => e = .returned (.bool true) ∧ Below w.heap.size w w' := by
  obtain ⟨rd, rfl, hrd⟩ := u8_wf h
  by_cases h1 : size < 1 ∨ sz bits / 2 < size
  · exact stalls_no bits size rd w h1
  · have ht : rt bits = true := by
      cases ht : rt bits
      · have := sz_zero ht
        omega
      · rfl
    by_cases h2 : 40 < size
    · exact stalls_big bits size rd w ht h2 (by omega)
    · obtain ⟨z, rfl⟩ : ∃ z : Nat, size = z := ⟨size.toNat, by omega⟩
      exact stalls_ok bits z rd hrd w ht (by omega) (by omega) (by omega)
end Go.Proofs.Ytbhnpcmmcelecaa
namespace Go.Proofs.Ytbhnpcmmcelecaa

/-- the number whose bits these are, the highest first -/
def val (l : List Bool) : Nat := l.foldl (fun v b => 2 * v + b.toNat) 0
/-- a number's last n bits -/
def unval (v : Nat) : Nat → List Bool
  | 0 => []
  | n + 1 => unval (v / 2) n ++ [v % 2 == 1]
/-- byte i of bits, filled up with noughts -/
def eight (bl : List Bool) (i : Nat) : List Bool := (List.range 8).map fun j => bl.getD (8 * i + j) false
def byteAt (bl : List Bool) (i : Nat) : Nat := val (eight bl i)
def packLen (n : Nat) : Nat := (n + 7) / 8
def pack (bl : List Bool) : List Nat := (List.range (packLen bl.length)).map (byteAt bl)
def bitsOf (bs : List Nat) : List Bool := bs.flatMap (unval · 8)

theorem snoc_ind {P : List Bool → Prop} (h0 : P []) (h1 : ∀ l b, P l → P (l ++ [b])) (l : List Bool) : P l := by
  have h : ∀ m : List Bool, P m.reverse := by
    intro m
    induction m with
    | nil => exact h0
    | cons a m ih => rw [List.reverse_cons]; exact h1 _ _ ih
  have h2 := h l.reverse
  rwa [List.reverse_reverse] at h2
theorem val_nil : val [] = 0 := rfl
theorem val_snoc (l : List Bool) (b : Bool) : val (l ++ [b]) = 2 * val l + b.toNat := by simp [val]
theorem val_append (l m : List Bool) : val (l ++ m) = val l * 2 ^ m.length + val m := by
  induction m using snoc_ind with
  | h0 => simp [val_nil]
  | h1 m b ih =>
    rw [← List.append_assoc, val_snoc, ih, val_snoc, List.length_append, List.length_singleton, Nat.pow_succ]
    rw [Nat.mul_add, ← Nat.mul_assoc, ← Nat.mul_assoc, Nat.mul_comm 2 (val l), Nat.mul_assoc (val l) 2, Nat.mul_comm 2 (2 ^ m.length), ← Nat.mul_assoc]
    omega
theorem val_lt (l : List Bool) : val l < 2 ^ l.length := by
  induction l using snoc_ind with
  | h0 => simp [val_nil]
  | h1 l b ih =>
    rw [val_snoc, List.length_append, List.length_singleton, Nat.pow_succ]
    cases b <;> simp <;> omega

theorem length_unval (v n : Nat) : (unval v n).length = n := by
  induction n generalizing v with
  | zero => rfl
  | succ n ih => simp [unval, ih]
theorem val_unval (v n : Nat) : val (unval v n) = v % 2 ^ n := by
  induction n generalizing v with
  | zero => simp [unval, val_nil, Nat.mod_one]
  | succ n ih =>
    rw [unval, val_snoc, ih, Nat.pow_succ, Nat.mul_comm (2 ^ n) 2, Nat.mod_mul]
    have : (v % 2 == 1).toNat = v % 2 := by
      rcases Nat.mod_two_eq_zero_or_one v with h | h <;> rw [h] <;> rfl
    rw [this]
    omega
theorem unval_val (l : List Bool) : unval (val l) l.length = l := by
  induction l using snoc_ind with
  | h0 => rfl
  | h1 l b ih =>
    rw [List.length_append, List.length_singleton, unval, val_snoc]
    have h1 : (2 * val l + b.toNat) / 2 = val l := by cases b <;> simp <;> omega
    have h2 : ((2 * val l + b.toNat) % 2 == 1) = b := by cases b <;> simp <;> omega
    rw [h1, h2, ih]
theorem unval_split (v n m : Nat) : unval v (n + m) = unval (v / 2 ^ m) n ++ unval v m := by
  induction m generalizing v with
  | zero => simp [unval]
  | succ m ih =>
    rw [← Nat.add_assoc, unval, ih, unval, List.append_assoc, Nat.div_div_eq_div_mul, Nat.pow_succ, Nat.mul_comm 2]
theorem unval_mod (v m : Nat) : unval (v % 2 ^ m) m = unval v m := by
  have h := unval_val (unval v m)
  rw [val_unval, length_unval] at h
  exact h

theorem length_eight (bl : List Bool) (i : Nat) : (eight bl i).length = 8 := by simp [eight]
theorem byteAt_lt (bl : List Bool) (i : Nat) : byteAt bl i < 256 := by
  have := val_lt (eight bl i)
  rw [length_eight] at this
  exact this
theorem unval_byteAt (bl : List Bool) (i : Nat) : unval (byteAt bl i) 8 = eight bl i := by
  have h := unval_val (eight bl i)
  rw [length_eight] at h
  exact h
theorem length_pack (bl : List Bool) : (pack bl).length = packLen bl.length := by simp [pack]
theorem pack_at (bl : List Bool) {i : Nat} (h : i < packLen bl.length) : (pack bl)[i]? = some (byteAt bl i) := by simp [pack, h]
theorem eight_at (bl : List Bool) {i j : Nat} (h : j < 8) : (eight bl i)[j]? = some (bl.getD (8 * i + j) false) := by simp [eight, h]

theorem length_bitsOf (bs : List Nat) : (bitsOf bs).length = 8 * bs.length := by
  induction bs with
  | nil => rfl
  | cons b bs ih =>
    have : bitsOf (b :: bs) = unval b 8 ++ bitsOf bs := rfl
    rw [this, List.length_append, length_unval, ih, List.length_cons]
    omega
theorem bitsOf_at (bs : List Nat) : ∀ (k : Nat) (b : Nat), bs[k / 8]? = some b → (bitsOf bs)[k]? = (unval b 8)[k % 8]? := by
  induction bs with
  | nil => intro k b h; simp at h
  | cons a bs ih =>
    intro k b h
    have e : bitsOf (a :: bs) = unval a 8 ++ bitsOf bs := rfl
    rw [e]
    by_cases hk : k < 8
    · have h0 : k / 8 = 0 := by omega
      rw [h0] at h
      simp at h
      subst h
      rw [List.getElem?_append_left (by rw [length_unval]; exact hk), Nat.mod_eq_of_lt hk]
    · obtain ⟨j, rfl⟩ : ∃ j, k = j + 8 := ⟨k - 8, by omega⟩
      have h0 : (j + 8) / 8 = j / 8 + 1 := by omega
      rw [h0, List.getElem?_cons_succ] at h
      rw [List.getElem?_append_right (by rw [length_unval]; omega), length_unval, Nat.add_sub_cancel, ih j b h, Nat.add_mod_right]
theorem bitsOf_pack (bl : List Bool) : bitsOf (pack bl) = bl ++ List.replicate (8 * packLen bl.length - bl.length) false := by
  have hle : bl.length ≤ 8 * packLen bl.length := by unfold packLen; omega
  apply List.ext_getElem?
  intro k
  by_cases hk : k < 8 * packLen bl.length
  · rw [bitsOf_at _ k _ (pack_at bl (by omega)), unval_byteAt, eight_at bl (Nat.mod_lt _ (by omega)), show 8 * (k / 8) + k % 8 = k by omega]
    by_cases hb : k < bl.length
    · rw [List.getElem?_append_left hb, List.getD_eq_getElem?_getD, List.getElem?_eq_getElem hb]
      rfl
    · rw [List.getElem?_append_right (by omega), List.getD_eq_getElem?_getD, List.getElem?_eq_none (by omega), List.getElem?_replicate, if_pos (by omega)]
      rfl
  · rw [List.getElem?_eq_none (by rw [length_bitsOf, length_pack]; omega), List.getElem?_eq_none (by rw [List.length_append, List.length_replicate]; omega)]

/-- one more bit in a byte, the rest of it noughts -/
theorem or_bit (r : Nat) (hr : r < 8) (L : List Bool) (hL : L.length = 8) (hz : ∀ j, r ≤ j → j < 8 → L[j]? = some false) (b : Bool) :
    val (L.set r b) = val L ||| (b.toNat <<< (7 - r)) := by
  match L, hL with
  | [x0, x1, x2, x3, x4, x5, x6, x7], _ =>
    have z : ∀ j, r ≤ j → j < 8 → [x0, x1, x2, x3, x4, x5, x6, x7][j]? = some false := hz
    clear hz
    obtain rfl | rfl | rfl | rfl | rfl | rfl | rfl | rfl : r = 0 ∨ r = 1 ∨ r = 2 ∨ r = 3 ∨ r = 4 ∨ r = 5 ∨ r = 6 ∨ r = 7 := by omega
    all_goals
      have h7 := z 7 (by omega) (by omega)
      have h6 := fun h => z 6 h (by omega)
      have h5 := fun h => z 5 h (by omega)
      have h4 := fun h => z 4 h (by omega)
      have h3 := fun h => z 3 h (by omega)
      have h2 := fun h => z 2 h (by omega)
      have h1 := fun h => z 1 h (by omega)
      have h0 := fun h => z 0 h (by omega)
      clear z
      simp at h7 h6 h5 h4 h3 h2 h1 h0
      revert x0 x1 x2 x3 x4 x5 x6 x7 b
      decide
theorem eight_snoc (bl : List Bool) (b : Bool) : eight (bl ++ [b]) (bl.length / 8) = (eight bl (bl.length / 8)).set (bl.length % 8) b := by
  apply List.ext_getElem?
  intro j
  by_cases hj : j < 8
  · rw [eight_at _ hj, List.getElem?_set]
    by_cases he : bl.length % 8 = j
    · subst he
      rw [if_pos rfl, if_pos (by rw [length_eight]; omega), show 8 * (bl.length / 8) + bl.length % 8 = bl.length by omega]
      simp [List.getD_eq_getElem?_getD]
    · rw [if_neg he, eight_at _ hj, List.getD_eq_getElem?_getD, List.getD_eq_getElem?_getD]
      congr 2
      by_cases hlt : 8 * (bl.length / 8) + j < bl.length
      · rw [List.getElem?_append_left hlt]
      · rw [List.getElem?_append_right (by omega), List.getElem?_eq_none (l := bl) (by omega), List.getElem?_eq_none (by simp; omega)]
  · rw [List.getElem?_eq_none (by rw [length_eight]; omega), List.getElem?_eq_none (by rw [List.length_set, length_eight]; omega)]
theorem byteAt_snoc (bl : List Bool) (b : Bool) : byteAt (bl ++ [b]) (bl.length / 8) = byteAt bl (bl.length / 8) ||| (b.toNat <<< (7 - bl.length % 8)) := by
  unfold byteAt
  rw [eight_snoc]
  refine or_bit _ (Nat.mod_lt _ (by omega)) _ (length_eight _ _) (fun j h1 h2 => ?_) b
  rw [eight_at _ h2, List.getD_eq_getElem?_getD, List.getElem?_eq_none (by omega)]
  rfl
theorem byteAt_other (bl : List Bool) (b : Bool) {i : Nat} (h : i < bl.length / 8) : byteAt (bl ++ [b]) i = byteAt bl i := by
  unfold byteAt eight
  congr 1
  apply List.map_congr_left
  intro j hj
  have : j < 8 := List.mem_range.1 hj
  rw [List.getD_eq_getElem?_getD, List.getD_eq_getElem?_getD, List.getElem?_append_left (by omega)]
theorem byteAt_beyond (bl : List Bool) {i : Nat} (h : bl.length ≤ 8 * i) : byteAt bl i = 0 := by
  have : eight bl i = List.replicate 8 false := by
    unfold eight
    apply List.ext_getElem?
    intro j
    by_cases hj : j < 8
    · rw [List.getElem?_map, List.getElem?_range hj, List.getElem?_replicate, if_pos hj]
      simp [List.getD_eq_getElem?_getD, List.getElem?_eq_none (show bl.length ≤ 8 * i + j by omega)]
    · simp [hj]
  unfold byteAt
  rw [this]
  rfl
/-- the bytes ahead of an added bit -/
def room (bl : List Bool) : List Nat := if bl.length % 8 = 0 then pack bl ++ [0] else pack bl
theorem length_room (bl : List Bool) : (room bl).length = bl.length / 8 + 1 := by
  unfold room
  split <;> simp [length_pack, packLen] <;> omega
theorem room_at (bl : List Bool) {i : Nat} (h : i ≤ bl.length / 8) : (room bl)[i]? = some (byteAt bl i) := by
  unfold room
  split
  · by_cases hi : i < packLen bl.length
    · rw [List.getElem?_append_left (by rw [length_pack]; exact hi), pack_at bl hi]
    · have : i = packLen bl.length := by unfold packLen at *; omega
      subst this
      rw [List.getElem?_append_right (by rw [length_pack]; omega), length_pack, Nat.sub_self, byteAt_beyond bl (by unfold packLen; omega)]
      rfl
  · exact pack_at bl (by unfold packLen; omega)
theorem pack_snoc (bl : List Bool) (b : Bool) : pack (bl ++ [b]) = (room bl).set (bl.length / 8) (byteAt bl (bl.length / 8) ||| (b.toNat <<< (7 - bl.length % 8))) := by
  apply List.ext_getElem?
  intro i
  have hl : packLen (bl ++ [b]).length = bl.length / 8 + 1 := by simp [packLen]; omega
  by_cases hi : i < bl.length / 8 + 1
  · rw [pack_at _ (by omega), List.getElem?_set]
    by_cases he : bl.length / 8 = i
    · subst he
      rw [if_pos rfl, if_pos (by rw [length_room]; omega), byteAt_snoc]
    · rw [if_neg he, room_at bl (by omega), byteAt_other bl b (by omega)]
  · rw [List.getElem?_eq_none (by rw [length_pack, hl]; omega), List.getElem?_eq_none (by rw [List.length_set, length_room]; omega)]
end Go.Proofs.Ytbhnpcmmcelecaa
