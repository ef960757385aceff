/-
  reseg: Cut: what may not be, and what goes as it is. reseg: Cut: a part goes, or nothing. reseg: what Cut answers to fixed calls. ResegSame: the law walked.
-/
import Derived.Test.YtfgjlhklioijmaaJResegWhole20
import Derived.Deep.DeepCutAuto
import Derived.Test.YtfgjlhklioijmaaJResegWhole19
import Derived.Lib.SlBytesConst
namespace Go.Proofs.Ytfgjlhklioijmaa
open Go.RowKit

section
variable {w w0 : World} {g B : Nat} {t : TypeId} {cs : Array Value} {a b c d e f s a' b' c' d' e' f' s' : Value}
/-- a packet's seven cells set -/
abbrev set7 (w : World) (g : Nat) (a b c d e f s : Value) : World := ((((((w.setCell ⟨g, 0, none⟩ a).setCell ⟨g, 1, none⟩ b).setCell ⟨g, 2, none⟩ c).setCell ⟨g, 3, none⟩ d).setCell ⟨g, 4, none⟩ e).setCell ⟨g, 5, none⟩ f).setCell ⟨g, 6, none⟩ s
theorem row_set7 (h : Row w g t #[a', b', c', d', e', f', s']) : Row (set7 w g a b c d e f s) g t #[a, b, c, d, e, f, s] := by
  have h0 : Row _ g t #[a, b', c', d', e', f', s'] := h.written 0 a
  have h1 : Row _ g t #[a, b, c', d', e', f', s'] := h0.written 1 b
  have h2 : Row _ g t #[a, b, c, d', e', f', s'] := h1.written 2 c
  have h3 : Row _ g t #[a, b, c, d, e', f', s'] := h2.written 3 d
  have h4 : Row _ g t #[a, b, c, d, e, f', s'] := h3.written 4 e
  have h5 : Row _ g t #[a, b, c, d, e, f, s'] := h4.written 5 f
  exact h5.written 6 s
theorem only_set7 {S : Nat → Prop} (h : Only S w0 w) (hS : S g) : Only S w0 (set7 w g a b c d e f s) :=
  ((((((h.set (p := ⟨g, 0, none⟩) (.inl hS) a).set (p := ⟨g, 1, none⟩) (.inl hS) b).set (p := ⟨g, 2, none⟩) (.inl hS) c).set (p := ⟨g, 3, none⟩) (.inl hS) d).set (p := ⟨g, 4, none⟩) (.inl hS) e).set (p := ⟨g, 5, none⟩) (.inl hS) f).set (p := ⟨g, 6, none⟩) (.inl hS) s
theorem below_set7 (h : Below B w0 w) (hB : B ≤ g) : Below B w0 (set7 w g a b c d e f s) :=
  ((((((h.setCell (p := ⟨g, 0, none⟩) hB a).setCell (p := ⟨g, 1, none⟩) hB b).setCell (p := ⟨g, 2, none⟩) hB c).setCell (p := ⟨g, 3, none⟩) hB d).setCell (p := ⟨g, 4, none⟩) hB e).setCell (p := ⟨g, 5, none⟩) hB f).setCell (p := ⟨g, 6, none⟩) hB s
end
theorem OwnR.old {B : Nat} {w w' : World} {v : Value} {L : List RowB} {S : Nat → Prop} (h : OwnR B w v L) (ho : Only S w w') (hS : ∀ k, S k → k < B) : OwnR B w' v L :=
  h.only ho (fun k hk hs => by have := (h.own.lt k hk).1; have := hS k hs; omega) (fun k _ _ hb hs => by have := hS k hs; omega)
theorem faultR_ok {part last : Bool} {fi sn off : Int} {ls : List Nat} {a b grant wd : Int} (h : faultR part last fi sn off ls a b grant wd = 0) : part = false ∧ amdF part last fi sn off ls wd ≠ 0 ∧ 0 ≤ grant ∧ grant ≤ 4096 ∧ 0 ≤ a ∧ a < b ∧ b ≤ ls.sum := by
  unfold faultR at h
  split at h
  · omega
  · rename_i h1
    split at h
    · omega
    · rename_i h2
      split at h
      · omega
      · rename_i h3
        refine ⟨?_, fun h => h1 (.inr h), by omega, by omega, by omega, by omega, by omega⟩
        cases part
        · rfl
        · exact absurd (.inl rfl) h1
set_option maxRecDepth 100000 in
set_option maxHeartbeats 3200000 in
theorem rsc_bad {A : Option Addr} {L : List RowB} (poll part last : Bool) (fi sn off : Int) (n cap : Nat) (a b grant wd : Int) (w : World) (hL : L.length = n) (hn : n ≤ 9223372036854775807) (hs : RSrc w A L) (hm : ∀ m ∈ lens L, m ≤ 9223372036854775807) (hsum : (lens L).sum ≤ 1000000) (h0 : faultR part last fi sn off (lens L) a b grant wd ≠ 0) :
    Calls Try.prog 107 #[.agg #[.bool poll, .int .i64 fi, .int .i64 sn, .bool part, .bool last, .int .i64 off, .slice A n cap], .int .i64 a, .int .i64 b, .int .i64 grant, .int .i64 wd] w fun e w' => e = .returned (.tuple #[.agg #[.bool false, .int .i64 0, .int .i64 0, .bool false, .bool false, .int .i64 0, .slice none 0 0], .int .i64 0, .int .i64 (faultR part last fi sn off (lens L) a b grant wd)]) ∧ Below w.heap.size w w' := by
  have HF := Lib.hid (fun W (hb : Below w.heap.size w W) => rsfault_any (A := A) poll part last fi sn off n cap a b grant wd W hL hn (hs.later hb) hm hsum)
  generalize faultR part last fi sn off (lens L) a b grant wd = F at *
  have hF : (F == 0) = false := by simpa using h0
  clear hs hL hm hsum h0
  have HB0 := Lib.hid (bl_alloc (bl_alloc (Below.refl w.heap.size w) (.cells #[.bool poll, .int .i64 fi, .int .i64 sn, .bool part, .bool last, .int .i64 off, .slice A n cap] 24)) (.cells #[.bool false, .int .i64 0, .int .i64 0, .bool false, .bool false, .int .i64 0, .slice none 0 0] 24))
  have RW0 := Lib.hid (Row.made (w.alloc (.cells #[.bool poll, .int .i64 fi, .int .i64 sn, .bool part, .bool last, .int .i64 off, .slice A n cap] 24)) 24 #[.bool false, .int .i64 0, .int .i64 0, .bool false, .bool false, .int .i64 0, .slice none 0 0])
  rw [show (w.alloc (.cells #[.bool poll, .int .i64 fi, .int .i64 sn, .bool part, .bool last, .int .i64 off, .slice A n cap] 24)).heap.size = w.heap.size + 1 by simp] at RW0
  go_enter Try.func107, Try.ntmps107
  go_wp2_with (go_at_call 205; (with_reducible refine (HF.out _ HB0.out).mono ?_); rintro e w1 ⟨rfl, hb1⟩; (have HB1 := Lib.hid (bl_step HB0.out hb1)); have RW1 := RW0.out.later hb1; have RH1 := Lib.hid RW1; obtain ⟨c0, c1, c2, c3, c4, c5, c6⟩ := cells_pk RW1; have f0 := RW1.free 0; have f1 := RW1.free 1; have f2 := RW1.free 2; have f3 := RW1.free 3; have f4 := RW1.free 4; have f5 := RW1.free 5; have f6 := RW1.free 6; clear hb1 RW1)
  obtain ⟨dd, hdd⟩ := underamd_parts
  refine bodyPost_ret (results_three rfl _ _ (w.heap.size + 1) 24 #[.bool false, .int .i64 0, .int .i64 0, .bool false, .bool false, .int .i64 0, .slice none 0 0] dd rfl (row_set7 RH1.out) hdd Try.infoamd) rfl ?_
  exact ⟨rfl, below_set7 HB1.out (by omega)⟩
set_option maxRecDepth 100000 in
set_option maxHeartbeats 3200000 in
/-- all of it goes -/
theorem rsc_whole {A : Option Addr} {L : List RowB} (poll part last : Bool) (fi sn off : Int) (n cap b : Nat) (grant wd : Int) (w : World) (hL : L.length = n) (hs : RSrc w A L) (h0 : faultR part last fi sn off (lens L) 0 b grant wd = 0) (hb : b = (lens L).sum) (hg : amdF part last fi sn off (lens L) wd ≤ grant) :
    Calls Try.prog 107 #[.agg #[.bool poll, .int .i64 fi, .int .i64 sn, .bool part, .bool last, .int .i64 off, .slice A n cap], .int .i64 0, .int .i64 b, .int .i64 grant, .int .i64 wd] w fun e w' => ∃ g M, e = .returned (.tuple #[.agg #[.bool false, .int .i64 fi, .int .i64 sn, .bool false, .bool last, .int .i64 off, .slice (some ⟨g, 0, none⟩) n n], .int .i64 b, .int .i64 0]) ∧ M.length = n ∧ texts M = texts L ∧ OwnR w.heap.size w' (.slice (some ⟨g, 0, none⟩) n n) M ∧ Below w.heap.size w w' := by
  obtain ⟨hpa, hne, hg0, hg1, _, hlt, hle⟩ := faultR_ok h0
  subst hpa
  obtain ⟨_, hf0, hf3, _, _, hl1, hl24, hok, _⟩ := amdF_pos hne
  have hn24 : n ≤ 24 := by rw [← hL, ← length_lens]; exact hl24
  have hsum := sumTo_bound hok (Nat.le_refl _)
  rw [sumTo_all] at hsum
  have hm : ∀ m ∈ lens L, 0 < m ∧ m ≤ 1000000 := by
    intro m hm
    obtain ⟨k, hk⟩ := List.getElem?_of_mem hm
    have := okTo_small hok hk
    omega
  have HF := Lib.hid (fun W (hb : Below w.heap.size w W) => (by have h := rsfault_any (A := A) poll false last fi sn off n cap 0 b grant wd W hL (by omega) (hs.later hb) (fun m h => by have := hm m h; omega) (by omega); rw [h0] at h; exact h : Calls Try.prog 205 #[.agg #[.bool poll, .int .i64 fi, .int .i64 sn, .bool false, .bool last, .int .i64 off, .slice A n cap], .int .i64 0, .int .i64 b, .int .i64 grant, .int .i64 wd] W fun e w' => e = .returned (.int .i64 0) ∧ Below W.heap.size W w'))
  have HZ := Lib.hid (fun W (hb : Below w.heap.size w W) => rssize_any (A := A) poll false last fi sn off n cap W hL (by omega) (hs.later hb) (by omega))
  have HS := Lib.hid (fun W (hb : Below w.heap.size w W) => asize_any (A := A) poll false last fi sn off wd n cap W hL (by omega) (hs.later hb) (fun m h => by have := hm m h; omega))
  have HC := Lib.hid (fun W (hb : Below w.heap.size w W) => copy_any (A := A) (L := L) n cap W hL (by omega) (hs.later hb) hm)
  rw [← hb] at HZ
  generalize amdF false last fi sn off (lens L) wd = z at *
  clear hs hm hsum hok hl1 hl24 hne h0 hb hle
  have HB0 := Lib.hid (bl_alloc (bl_alloc (Below.refl w.heap.size w) (.cells #[.bool poll, .int .i64 fi, .int .i64 sn, .bool false, .bool last, .int .i64 off, .slice A n cap] 24)) (.cells #[.bool false, .int .i64 0, .int .i64 0, .bool false, .bool false, .int .i64 0, .slice none 0 0] 24))
  have RP0 := Lib.hid ((Row.made w 24 #[.bool poll, .int .i64 fi, .int .i64 sn, .bool false, .bool last, .int .i64 off, .slice A n cap]).more (.cells #[.bool false, .int .i64 0, .int .i64 0, .bool false, .bool false, .int .i64 0, .slice none 0 0] 24))
  have RW0 := Lib.hid (Row.made (w.alloc (.cells #[.bool poll, .int .i64 fi, .int .i64 sn, .bool false, .bool last, .int .i64 off, .slice A n cap] 24)) 24 #[.bool false, .int .i64 0, .int .i64 0, .bool false, .bool false, .int .i64 0, .slice none 0 0])
  rw [show (w.alloc (.cells #[.bool poll, .int .i64 fi, .int .i64 sn, .bool false, .bool last, .int .i64 off, .slice A n cap] 24)).heap.size = w.heap.size + 1 by simp] at RW0
  go_enter Try.func107, Try.ntmps107
  go_wp2_with (first
    | (go_at_call 205; (with_reducible refine (HF.out _ HB0.out).mono ?_); rintro e w1 ⟨rfl, hb1⟩; (have HB1 := Lib.hid (bl_step HB0.out hb1)); (have RW1 := Lib.hid (RW0.out.later hb1)); (have RP1 := Lib.hid (RP0.out.later hb1)); obtain ⟨c0, c1, c2, c3, c4, c5, c6⟩ := cells_pk RP1.out; clear hb1)
    | (go_at_call 206; (with_reducible refine (HZ.out _ HB1.out).mono ?_); rintro e w2 ⟨rfl, hb2⟩; (have HB2 := Lib.hid (HB1.out.trans (hb2.mono HB1.out.size))); (have RW2 := Lib.hid (RW1.out.later hb2)); (have RP2 := Lib.hid (RP1.out.later hb2)); obtain ⟨d0, d1, d2, d3, d4, d5, d6⟩ := cells_pk RP2.out; clear hb2)
    | (go_at_call 25; ((with_reducible refine (HS.out _ HB2.out).mono ?_); rintro e w3 ⟨rfl, hb3⟩; (have HB3 := Lib.hid (HB2.out.trans (hb3.mono HB2.out.size))); (have RW3 := Lib.hid (RW2.out.later hb3)); (have RP3 := Lib.hid (RP2.out.later hb3)); obtain ⟨e0, e1, e2, e3, e4, e5, e6⟩ := cells_pk RP3.out; have g0 := RP3.out.free 0; (have RP4 := Lib.hid (RP3.out.written 0 (.bool false))); (have HB4 := Lib.hid (HB3.out.setCell (p := ⟨w.heap.size, 0, none⟩) (Nat.le_refl _) (.bool false))); (have RW4 := Lib.hid (RW3.out.only ((Only.refl (fun k => k = w.heap.size) w3).set (p := ⟨w.heap.size, 0, none⟩) (.inl rfl) (.bool false)) (by omega))); have h6 := RP4.out.read (i := 6) (x := .slice A n cap) rfl; clear hb3))
    | (go_at_call 207; (with_reducible refine (HC.out _ HB4.out).mono ?_); rintro e w5 ⟨g, M, rfl, m1, m2, m3, hb5⟩; (have M1 := Lib.hid m1); (have M2 := Lib.hid m2); (have M3 := Lib.hid m3); (have HB5 := Lib.hid (HB4.out.trans (hb5.mono HB4.out.size))); (have RW5 := Lib.hid (RW4.out.later hb5)); (have RP5 := Lib.hid (RP4.out.later hb5)); have i6 := RP5.out.read (i := 6) (x := .slice A n cap) rfl; have g6 := RP5.out.free 6; (have RP6 := Lib.hid (RP5.out.written 6 (.slice (some ⟨g, 0, none⟩) n n))); (have RW6 := Lib.hid (RW5.out.only ((Only.refl (fun k => k = w.heap.size) w5).set (p := ⟨w.heap.size, 6, none⟩) (.inl rfl) (.slice (some ⟨g, 0, none⟩) n n)) (by omega))); obtain ⟨j0, j1, j2, j3, j4, j5, j6⟩ := cells_pk RP6.out; obtain ⟨k0, k1, k2, k3, k4, k5, k6⟩ := cells_pk RW6.out; have l0 := RW6.out.free 0; have l1 := RW6.out.free 1; have l2 := RW6.out.free 2; have l3 := RW6.out.free 3; have l4 := RW6.out.free 4; have l5 := RW6.out.free 5; have l6 := RW6.out.free 6; clear hb5 m1 m2 m3))
  obtain ⟨dd, hdd⟩ := underamd_parts
  refine bodyPost_ret (results_three rfl _ _ (w.heap.size + 1) 24 #[.bool false, .int .i64 fi, .int .i64 sn, .bool false, .bool last, .int .i64 off, .slice (some ⟨g, 0, none⟩) n n] dd rfl (row_set7 RW6.out) hdd Try.infoamd) rfl ?_
  refine ⟨g, M, rfl, M1.out, M2.out, ?_, below_set7 (HB5.out.setCell (p := ⟨w.heap.size, 6, none⟩) (Nat.le_refl _) _) (by omega)⟩
  have hin : w.heap.size + 1 < w3.heap.size := RW3.out.inside
  refine ((M3.out.old (S := fun k => k = w.heap.size ∨ k = w.heap.size + 1) ((Only.refl _ w5).set (p := ⟨w.heap.size, 6, none⟩) (.inl (.inl rfl)) (.slice (some ⟨g, 0, none⟩) n n)) (fun k hk => ?_)).old (S := fun k => k = w.heap.size ∨ k = w.heap.size + 1) (only_set7 (Only.refl _ _) (.inr rfl)) (fun k hk => ?_)).down ?_
  all_goals
    simp only [World.size_setCell] at *
    omega
end Go.Proofs.Ytfgjlhklioijmaa
namespace Go.Proofs.Ytfgjlhklioijmaa
open Go.RowKit

/-- what a part that goes is -/
def PartAns (fi sn : Int) (ls d : List Nat) (a b : Nat) (grant wd : Int) (w : World) (e : Ending) (w' : World) : Prop :=
  (min grant 4000 - headA true wd < 1 ∧ e = .returned (.tuple #[.agg #[.bool false, .int .i64 0, .int .i64 0, .bool false, .bool false, .int .i64 0, .slice none 0 0], .int .i64 0, .int .i64 16]) ∧ Below w.heap.size w w') ∨
  (∃ N g k M, 0 < N ∧ CutN ls a b (min grant 4000 - headA true wd) (lwA wd) N ∧ e = .returned (.tuple #[.agg #[.bool false, .int .i64 (fiC ls fi a (a + N)), .int .i64 sn, .bool true, .bool (decide (a + N = ls.sum)), .int .i64 a, .slice (some ⟨g, 0, none⟩) k k], .int .i64 ((a + N : Nat) : Int), .int .i64 0]) ∧ M.length = k ∧ lens M = pcs ls a N ∧ texts M = slic (d.drop a) (pcs ls a N) ∧ OwnR w.heap.size w' (.slice (some ⟨g, 0, none⟩) k k) M ∧ Below w.heap.size w w')
theorem le_sum_mem {l : List Nat} {x : Nat} (h : x ∈ l) : x ≤ l.sum := by
  induction l with
  | nil => cases h
  | cons y r ih =>
    rw [List.sum_cons]
    rcases List.mem_cons.1 h with rfl | h
    · omega
    · have := ih h; omega
set_option maxRecDepth 100000 in
set_option maxHeartbeats 6400000 in
theorem rsc_part {A : Option Addr} {L : List RowB} (poll part last : Bool) (fi sn off : Int) (n cap a b : Nat) (grant wd : Int) (w : World) (hL : L.length = n) (hs : RSrc w A L) (h0 : faultR part last fi sn off (lens L) a b grant wd = 0) (hno : a ≠ 0 ∨ b ≠ (lens L).sum ∨ grant < amdF part last fi sn off (lens L) wd) :
    Calls Try.prog 107 #[.agg #[.bool poll, .int .i64 fi, .int .i64 sn, .bool part, .bool last, .int .i64 off, .slice A n cap], .int .i64 a, .int .i64 b, .int .i64 grant, .int .i64 wd] w (PartAns fi sn (lens L) (flat L) a b grant wd w) := by
  obtain ⟨hpa, hne, hg0, hg1, _, hlt, hle⟩ := faultR_ok h0
  subst hpa
  obtain ⟨hwd, hf0, hf3, _, _, hl1, hl24, hok, -⟩ := amdF_pos hne
  have hn24 : n ≤ 24 := by rw [← hL, ← length_lens]; exact hl24
  have hsum := sumTo_bound hok (Nat.le_refl _)
  rw [sumTo_all] at hsum
  have hm : ∀ m ∈ lens L, 0 < m ∧ m ≤ 1000000 := by
    intro m hm
    obtain ⟨k, hk⟩ := List.getElem?_of_mem hm
    have := okTo_small hok hk
    omega
  have hp : ∀ l ∈ lens L, 0 < l := fun l hl => (hm l hl).1
  have HF := Lib.hid (fun W (hb : Below w.heap.size w W) => (by have h := rsfault_any (A := A) poll false last fi sn off n cap a b grant wd W hL (by omega) (hs.later hb) (fun m h => by have := hm m h; omega) (by omega); rw [h0] at h; exact h : Calls Try.prog 205 #[.agg #[.bool poll, .int .i64 fi, .int .i64 sn, .bool false, .bool last, .int .i64 off, .slice A n cap], .int .i64 a, .int .i64 b, .int .i64 grant, .int .i64 wd] W fun e w' => e = .returned (.int .i64 0) ∧ Below W.heap.size W w'))
  have HZ := Lib.hid (fun W (hb : Below w.heap.size w W) => rssize_any (A := A) poll false last fi sn off n cap W hL (by omega) (hs.later hb) (by omega))
  have HS := Lib.hid (fun W (hb : Below w.heap.size w W) => asize_any (A := A) poll false last fi sn off wd n cap W hL (by omega) (hs.later hb) (fun m h => by have := hm m h; omega))
  obtain ⟨hh1, hh2⟩ := headA_nonneg true wd
  have HCU := Lib.hid (fun W (hb2 : Below w.heap.size w W) => rscut_any (A := A) poll false last fi sn off n cap a b (min grant 4000 - headA true wd) (lwA wd) W hL hn24 (hs.later hb2) hp (by omega) (by omega) (by omega) (by omega) (by omega))
  have HFI := Lib.hid (fun (e : Nat) W (he : e ≤ (lens L).sum) (hb : Below w.heap.size w W) => rscutfi_any (A := A) poll false last fi sn off n cap a e W hL (by omega) (hs.later hb) (by omega) (by omega) he hf0 hf3)
  have HHD := Lib.hid (fun W => ahead_any true wd W)
  have HLB := Lib.hid (fun W => alen_any wd W)
  have HPS := Lib.hid (fun N (h : a + N ≤ (lens L).sum) => pcs_len (a := a) (N := N) hp h)
  have HSM := Lib.hid (fun N k m (h : a + N ≤ (lens L).sum) (hk : (pcs (lens L) a N)[k]? = some m) => (pcs_small (M := 4000) (a := a) (N := N) (fun j m hj _ => (okTo_small hok hj).2.1) h hk).1)
  have HSS := Lib.hid (fun N => pcs_sum (lens L) a N)
  have HL24 := Lib.hid hl24
  have hd4 : (lens L).sum ≤ 96000 := by omega
  have hab : a < b := by omega
  have hbd : b ≤ (lens L).sum := by omega
  generalize hhd : headA true wd = hd at *
  have HHE := Lib.hid hhd
  generalize hlw : lwA wd = lw at *
  have HLW := Lib.hid hlw
  clear hhd hlw
  generalize amdF false last fi sn off (lens L) wd = z at *
  generalize flat L = dd at *
  generalize lens L = ls at *
  have hw1 : IntKind.i64.wrap (min grant 4000 - hd) = min grant 4000 - hd := IntWalk.i64_in _ (by omega)
  clear hs hm hp hok hl1 hl24 hne h0 hle hlt hsum
  have HB0 := Lib.hid (bl_alloc (bl_alloc (Below.refl w.heap.size w) (.cells #[.bool poll, .int .i64 fi, .int .i64 sn, .bool false, .bool last, .int .i64 off, .slice A n cap] 24)) (.cells #[.bool false, .int .i64 0, .int .i64 0, .bool false, .bool false, .int .i64 0, .slice none 0 0] 24))
  have RP0 := Lib.hid ((Row.made w 24 #[.bool poll, .int .i64 fi, .int .i64 sn, .bool false, .bool last, .int .i64 off, .slice A n cap]).more (.cells #[.bool false, .int .i64 0, .int .i64 0, .bool false, .bool false, .int .i64 0, .slice none 0 0] 24))
  have RW0 := Lib.hid (Row.made (w.alloc (.cells #[.bool poll, .int .i64 fi, .int .i64 sn, .bool false, .bool last, .int .i64 off, .slice A n cap] 24)) 24 #[.bool false, .int .i64 0, .int .i64 0, .bool false, .bool false, .int .i64 0, .slice none 0 0])
  rw [show (w.alloc (.cells #[.bool poll, .int .i64 fi, .int .i64 sn, .bool false, .bool last, .int .i64 off, .slice A n cap] 24)).heap.size = w.heap.size + 1 by simp] at RW0
  have hcase : ((a : Int) == 0) = false ∨ (((a : Int) == 0) = true ∧ ((b : Int) == (ls.sum : Int)) = false) ∨ (((a : Int) == 0) = true ∧ ((b : Int) == (ls.sum : Int)) = true ∧ ¬ z ≤ grant) := by
    cases h1 : ((a : Int) == 0)
    · exact .inl rfl
    · cases h2 : ((b : Int) == (ls.sum : Int))
      · exact .inr (.inl ⟨rfl, rfl⟩)
      · refine .inr (.inr ⟨rfl, rfl, ?_⟩)
        simp only [beq_iff_eq] at h1 h2
        omega
  clear hno
  go_enter Try.func107, Try.ntmps107
  go_upto_region 4 with (go_at_call 205; (with_reducible refine (HF.out _ HB0.out).mono ?_); rintro e w1 ⟨rfl, hb1⟩; (have HB1 := Lib.hid (bl_step HB0.out hb1)); (have RW1 := Lib.hid (RW0.out.later hb1)); (have RP1 := Lib.hid (RP0.out.later hb1)); obtain ⟨c0, c1, c2, c3, c4, c5, c6⟩ := cells_pk RP1.out; clear hb1)
  go_cut [40] (fun s40 wx => ∃ wl, wl = wx ∧ s40 = .bool false ∧ Hid (Below w.heap.size w wl) ∧ Hid (Row wl w.heap.size 24 #[.bool poll, .int .i64 fi, .int .i64 sn, .bool false, .bool last, .int .i64 off, .slice A n cap]) ∧ Hid (Row wl (w.heap.size + 1) 24 #[.bool false, .int .i64 0, .int .i64 0, .bool false, .bool false, .int .i64 0, .slice none 0 0]))
  case first =>
    rcases hcase with h1 | ⟨h1, h2⟩ | ⟨h1, h2, h3⟩
    · go_wp2
      go_meet
      exact ⟨_, rfl, rfl, HB1, RP1, RW1⟩
    · go_wp2_with (go_at_call 206; (with_reducible refine (HZ.out _ HB1.out).mono ?_); rintro e w2 ⟨rfl, hb2⟩; (have HB2 := Lib.hid (HB1.out.trans (hb2.mono HB1.out.size))); (have RW2 := Lib.hid (RW1.out.later hb2)); (have RP2 := Lib.hid (RP1.out.later hb2)); obtain ⟨d0, d1, d2, d3, d4, d5, d6⟩ := cells_pk RP2.out; clear hb2)
      go_meet
      exact ⟨_, rfl, rfl, HB2, RP2, RW2⟩
    · go_wp2_with (first
        | (go_at_call 206; (with_reducible refine (HZ.out _ HB1.out).mono ?_); rintro e w2 ⟨rfl, hb2⟩; (have HB2 := Lib.hid (HB1.out.trans (hb2.mono HB1.out.size))); (have RW2 := Lib.hid (RW1.out.later hb2)); (have RP2 := Lib.hid (RP1.out.later hb2)); obtain ⟨d0, d1, d2, d3, d4, d5, d6⟩ := cells_pk RP2.out; clear hb2)
        | (go_at_call 25; (with_reducible refine (HS.out _ HB2.out).mono ?_); rintro e w3 ⟨rfl, hb3⟩; (have HB3 := Lib.hid (HB2.out.trans (hb3.mono HB2.out.size))); (have RW3 := Lib.hid (RW2.out.later hb3)); (have RP3 := Lib.hid (RP2.out.later hb3)); clear hb3))
      go_meet
      exact ⟨_, rfl, (by first | rfl | (simp; omega)), HB3, RP3, RW3⟩
  case rest =>
    obtain ⟨wl, hwl, rfl, HBL, RPL, RWL⟩ := hcut
    subst hwl
    clear hcase HF HS
    obtain ⟨k0, k1, k2, k3, k4, k5, k6⟩ := cells_pk RPL.out
    have HBD := Lib.hid (bl_drew HBL.out)
    go_upto_region 8 with fail
    go_cut [14, 15] (fun s14 s15 wx => ∃ (w5 : World) (N q kk : Nat) (A5 : Option Addr) (c5 : Nat) (M5 : List RowB), w5 = wx ∧ s14 = .slice A5 kk c5 ∧ s15 = .int .i64 q ∧ Hid (q = a + N) ∧ Hid (kk = M5.length) ∧ Hid (CutN ls a b (min grant 4000 - hd) lw N) ∧ Hid (lens M5 = pcs ls a N) ∧ Hid (texts M5 = slic (dd.drop a) (pcs ls a N)) ∧ kk ≤ c5 ∧ c5 ≤ 9223372036854775807 ∧ Hid (RSrc w5 A5 M5) ∧ Hid (Row w5 w.heap.size 24 #[.bool poll, .int .i64 fi, .int .i64 sn, .bool false, .bool last, .int .i64 off, .slice A n cap]) ∧ Hid (Row w5 (w.heap.size + 1) 24 #[.bool false, .int .i64 0, .int .i64 0, .bool false, .bool false, .int .i64 0, .slice none 0 0]) ∧ Hid (Below w.heap.size w w5))
    case first =>
      go_region_held3 (fun w' => w'.cell? ⟨w.heap.size, 0, none⟩ = some (.bool poll) ∧ w'.cell? ⟨w.heap.size, 1, none⟩ = some (.int .i64 fi) ∧ w'.cell? ⟨w.heap.size, 2, none⟩ = some (.int .i64 sn) ∧ w'.cell? ⟨w.heap.size, 3, none⟩ = some (.bool false) ∧ w'.cell? ⟨w.heap.size, 4, none⟩ = some (.bool last) ∧ w'.cell? ⟨w.heap.size, 5, none⟩ = some (.int .i64 off) ∧ w'.cell? ⟨w.heap.size, 6, none⟩ = some (.slice A n cap)) (first | exact ⟨k0, k1, k2, k3, k4, k5, k6⟩ | exact ⟨l0, l1, l2, l3, l4, l5, l6⟩ | go_keep) (first
        | (go_at_call 29; (with_reducible refine (HHD.out _).mono ?_); rintro e v1 ⟨rfl, rfl⟩)
        | (go_at_call 136; (with_reducible refine (HLB.out _).mono ?_); rintro e v1 ⟨rfl, rfl⟩)
        | (go_at_call 208; (with_reducible refine (HCU.out _ HBD.out).mono ?_); rintro e w5 ⟨N, A5, c5, M5, he, q1, q2, q3, q4, q5, q6, hb5⟩; obtain ⟨q, hq⟩ : ∃ q, q = a + N := ⟨_, rfl⟩; rw [← hq] at he; obtain ⟨kk, hkk⟩ : ∃ kk, kk = M5.length := ⟨_, rfl⟩; rw [← hkk] at he; subst he; (have HQ := Lib.hid hq); (have HK := Lib.hid hkk); (have RP5 := Lib.hid ((RPL.out.later (bl_drew (Below.refl _ _))).later hb5)); (have RW5 := Lib.hid ((RWL.out.later (bl_drew (Below.refl _ _))).later hb5)); (have HB5 := Lib.hid (HBD.out.trans (hb5.mono HBD.out.size))); obtain ⟨l0, l1, l2, l3, l4, l5, l6⟩ := cells_pk RP5.out; have Q1 := Lib.hid q1; have Q2 := Lib.hid q2; have Q3 := Lib.hid q3; have Q6 := Lib.hid q6; rw [← hkk] at q4; clear hb5 q1 q2 q3 q6 hq hkk))
      all_goals
        go_wp2_with fail
        go_meet
        exact ⟨_, N, q, kk, A5, c5, M5, rfl, rfl, rfl, HQ, HK, Q1, Q2, Q3, q4, q5, Q6, RP5, RW5, HB5⟩
    case rest =>
      obtain ⟨w5, N, q, kk, A5, c5, M5, hw5, rfl, rfl, HQ, HK, Q1, Q2, Q3, q4, q5, Q6, RP5, RW5, HB5⟩ := hcut
      subst hw5
      clear HBD HBL RPL RWL k0 k1 k2 k3 k4 k5 k6 HCU HHD HLB
      obtain ⟨l0, l1, l2, l3, l4, l5, l6⟩ := cells_pk RP5.out
      have hqb : q ≤ b := by have := Q1.out.1; have := HQ.out; omega
      have hkl : kk = (pcs ls a N).length := by rw [HK.out, ← length_lens, Q2.out]
      have hk24 : kk ≤ 24 := by
        have h1 := HPS.out N (by have := HQ.out; omega)
        have h2 := HL24.out
        omega
      rcases Nat.eq_zero_or_pos N with hN | hN
      · have hk0 : kk = 0 := by rw [hkl, hN]; rfl
        have HEND := Lib.hid ((Q1.out.zero_iff hab).1 hN)
        clear hkl
        subst hk0
        obtain ⟨o0, o1, o2, o3, o4, o5, o6⟩ := cells_pk RW5.out
        have p0 := RW5.out.free 0; have p1 := RW5.out.free 1; have p2 := RW5.out.free 2; have p3 := RW5.out.free 3; have p4 := RW5.out.free 4; have p5 := RW5.out.free 5; have p6 := RW5.out.free 6
        go_wp2
        obtain ⟨dq, hdq⟩ := underamd_parts
        refine bodyPost_ret (results_three rfl _ _ (w.heap.size + 1) 24 #[.bool false, .int .i64 0, .int .i64 0, .bool false, .bool false, .int .i64 0, .slice none 0 0] dq rfl (row_set7 RW5.out) hdq Try.infoamd) rfl ?_
        exact .inl ⟨by rw [HHE.out]; exact HEND.out, rfl, below_set7 HB5.out (by omega)⟩
      · have hk0 : ((kk : Int) == 0) = false := by have := pcs_pos ls a hN; simp; omega
        have HN := Lib.hid hN
        have HBQ := Lib.hid (show ((q : Int) == (ls.sum : Int)) = decide (a + N = ls.sum) by rw [← HQ.out]; by_cases h : q = ls.sum <;> simp [h]; omega)
        have HFQ := Lib.hid (show fiC ls fi a q = fiC ls fi a (a + N) by rw [HQ.out])
        have HFI5 := Lib.hid (fun W (hb : Below w.heap.size w W) => HFI.out q W (by omega) hb)
        have HCP := Lib.hid (fun W (hb : Below w5.heap.size w5 W) => copy_any (A := A5) (L := M5) kk c5 W HK.out.symm (by omega) (Q6.out.later hb) (fun l hl => by
          rw [Q2.out] at hl
          obtain ⟨j, hj⟩ := List.getElem?_of_mem hl
          have h1 := HSM.out N j l (by have := HQ.out; omega) hj
          have h2 := le_sum_mem hl
          have h3 := HSS.out N
          have h4 := HQ.out
          omega))
        generalize hbq : decide (a + N = ls.sum) = bq at *
        generalize hfq : fiC ls fi a q = fq at *
        have hb1 := HBQ.out
        have HB5D := Lib.hid (bl_drew HB5.out)
        have HBE := Lib.hid hbq
        clear hkl hN hbq hfq
        go_wp2
        go_region_held3 (fun w' => w'.cell? ⟨w.heap.size, 0, none⟩ = some (.bool poll) ∧ w'.cell? ⟨w.heap.size, 1, none⟩ = some (.int .i64 fi) ∧ w'.cell? ⟨w.heap.size, 2, none⟩ = some (.int .i64 sn) ∧ w'.cell? ⟨w.heap.size, 3, none⟩ = some (.bool false) ∧ w'.cell? ⟨w.heap.size, 4, none⟩ = some (.bool last) ∧ w'.cell? ⟨w.heap.size, 5, none⟩ = some (.int .i64 off) ∧ w'.cell? ⟨w.heap.size, 6, none⟩ = some (.slice A n cap)) (first | with_reducible exact ⟨l0, l1, l2, l3, l4, l5, l6⟩ | with_reducible exact ⟨m0, m1, m2, m3, m4, m5, m6⟩ | with_reducible exact ⟨r0, r1, r2, r3, r4, r5, r6⟩ | with_reducible exact ⟨s0, s1, s2, s3, s4, s5, s6⟩ | with_reducible exact ⟨t0, t1, t2, t3, t4, t5, t6⟩ | go_keep) (first
          | (go_at_call 209; (with_reducible refine (HFI5.out _ HB5D.out).mono ?_); rintro e w6 ⟨rfl, hb6⟩; (have RP6 := Lib.hid ((RP5.out.later (bl_drew (Below.refl _ _))).later hb6)); (have RW6 := Lib.hid ((RW5.out.later (bl_drew (Below.refl _ _))).later hb6)); (have HB56 := Lib.hid (bl_step (bl_drew (Below.refl w5.heap.size w5)) hb6)); (have HB6 := Lib.hid (HB5D.out.trans (hb6.mono HB5D.out.size))); obtain ⟨m0, m1, m2, m3, m4, m5, m6⟩ := cells_pk RP6.out; clear hb6)
          | (go_at_call 206; (with_reducible refine (HZ.out _ HB6.out).mono ?_); rintro e w7 ⟨rfl, hb7⟩; (have RP7 := Lib.hid (RP6.out.later hb7)); (have RW7 := Lib.hid (RW6.out.later hb7)); (have HB57 := Lib.hid (HB56.out.trans (hb7.mono HB56.out.size))); (have HB7 := Lib.hid (HB6.out.trans (hb7.mono HB6.out.size))); obtain ⟨r0, r1, r2, r3, r4, r5, r6⟩ := cells_pk RP7.out; clear hb7)
          | (go_at_call 207; (with_reducible refine (HCP.out _ HB57.out).mono ?_); rintro e w8 ⟨g, M, rfl, y1, y2, y3, hb8⟩; (have Y1 := Lib.hid y1); (have Y2 := Lib.hid y2); (have Y3 := Lib.hid y3); (have RP8 := Lib.hid (RP7.out.later hb8)); (have RW8 := Lib.hid (RW7.out.later hb8)); (have HB8 := Lib.hid (HB7.out.trans (hb8.mono HB7.out.size))); obtain ⟨s0, s1, s2, s3, s4, s5, s6⟩ := cells_pk RP8.out; obtain ⟨o0, o1, o2, o3, o4, o5, o6⟩ := cells_pk RW8.out; have p0 := RW8.out.free 0; have p1 := RW8.out.free 1; have p2 := RW8.out.free 2; have p3 := RW8.out.free 3; have p4 := RW8.out.free 4; have p5 := RW8.out.free 5; have p6 := RW8.out.free 6; (have RP9 := Lib.hid (RP8.out.only (only_set7 (a := .bool false) (b := .int .i64 fq) (c := .int .i64 sn) (d := .bool true) (e := .bool bq) (f := .int .i64 a) (s := .slice (some ⟨g, 0, none⟩) kk kk) (Only.refl (fun k => k = w.heap.size + 1) w8) rfl) (by omega))); obtain ⟨t0, t1, t2, t3, t4, t5, t6⟩ := cells_pk RP9.out; clear hb8 y1 y2 y3))
        go_wp2
        obtain ⟨dq, hdq⟩ := underamd_parts
        refine bodyPost_ret (results_three rfl _ _ (w.heap.size + 1) 24 #[.bool false, .int .i64 fq, .int .i64 sn, .bool true, .bool bq, .int .i64 a, .slice (some ⟨g, 0, none⟩) kk kk] dq rfl (row_set7 RW8.out) hdq Try.infoamd) rfl ?_
        refine .inr ⟨N, g, kk, M, HN.out, ?_, ?_, Y1.out, ?_, ?_, ?_, below_set7 HB8.out (by omega)⟩
        · rw [HHE.out, HLW.out]; exact Q1.out
        · rw [← HFQ.out, HBE.out, ← HQ.out]; rfl
        · rw [lens_texts, Y2.out, ← lens_texts]; exact Q2.out
        · rw [Y2.out]; exact Q3.out
        · have hin : w.heap.size + 1 < w7.heap.size := RW7.out.inside
          exact (Y3.out.old (S := fun k => k = w.heap.size + 1) (only_set7 (Only.refl _ _) rfl) (fun k hk => by omega)).down (by omega)
end Go.Proofs.Ytfgjlhklioijmaa
namespace Go.Proofs.Ytfgjlhklioijmaa
open Go.RowKit

section
variable {W : World} {g1 g2 g3 : Nat}
/-- the fields ab and cd -/
def abcd (g1 g2 : Nat) : List RowB := [⟨some ⟨g1, 0, none⟩, 2, [97, 98]⟩, ⟨some ⟨g2, 0, none⟩, 2, [99, 100]⟩]
theorem abcd_src (h1 : Row W g1 5 #[.int .u8 97, .int .u8 98]) (h2 : Row W g2 5 #[.int .u8 99, .int .u8 100]) (h3 : Row W g3 30 #[.slice (some ⟨g1, 0, none⟩) 2 2, .slice (some ⟨g2, 0, none⟩) 2 2]) : RSrc W (some ⟨g3, 0, none⟩) (abcd g1 g2) := rsrc_of h3 (fun r hr => by
    unfold abcd at hr
    rw [List.mem_cons, List.mem_singleton] at hr
    rcases hr with rfl | rfl
    · exact ok_of_row (l := [97, 98]) h1 (by decide) (by decide)
    · exact ok_of_row (l := [99, 100]) h2 (by decide) (by decide))
theorem ral1 (hs : RSrc W (some ⟨g3, 0, none⟩) (abcd g1 g2)) :
    Calls Try.prog 107 #[.agg #[.bool false, .int .i64 0, .int .i64 3, .bool false, .bool false, .int .i64 0, .slice (some ⟨g3, 0, none⟩) 2 2], .int .i64 1, .int .i64 4, .int .i64 9, .int .i64 10] W fun e w' => ∃ g c r, e = .returned (.tuple #[.agg #[.bool false, .int .i64 2, .int .i64 3, .bool true, .bool true, .int .i64 1, .slice (some ⟨g, 0, none⟩) 2 2], .int .i64 4, .int .i64 0]) ∧ w'.cell? ⟨g, 0, none⟩ = some (.slice r 1 c) ∧ (∀ W', Below w'.heap.size w' W' → (convert 30 9 (.slice r 1 c)).run Try.prog W' = .ok (.string ⟨#[98]⟩) W') ∧ W.heap.size ≤ g ∧ Below W.heap.size W w' := by
  refine (rsc_part false false false 0 3 0 2 2 1 4 9 10 W rfl hs (by show faultR false false 0 3 0 [2, 2] 1 4 9 10 = 0; decide +kernel) (.inl (by decide))).mono ?_
  rintro e w' (⟨h, _⟩ | ⟨N, g, k, M, hN, hC, he, hk, hl, ht, ho, hb⟩)
  · exact absurd h (by decide +kernel)
  · have h3 : CutN (lens (abcd g1 g2)) 1 4 (min 9 4000 - headA true 10) (lwA 10) 3 := by
      show CutN [2, 2] 1 4 (min 9 4000 - headA true 10) (lwA 10) 3
      exact ⟨by decide, .inr (by decide +kernel), .inl rfl⟩
    have e3 := CutN.only (by show ∀ l ∈ [2, 2], 0 < l; decide) (by show [2, 2].length ≤ 24; decide) (by show 4 ≤ [2, 2].sum; decide) hC h3
    subst e3
    have ht2 : texts M = [[98], [99, 100]] := ht
    have hkk : k = 2 := by rw [← hk, ← length_texts, ht2]; rfl
    subst hkk
    obtain ⟨ad, e1, hc⟩ := ho.src (by rw [hk]; omega)
    injection e1 with e1
    subst e1
    obtain ⟨r0, hr0⟩ : ∃ r, M[0]? = some r := ⟨_, List.getElem?_eq_getElem (by rw [hk]; omega)⟩
    have hx := texts_at hr0
    rw [ht2] at hx
    have hb0 : r0.bs = [98] := by simpa using hx.symm
    have hc0 := (hc 0 r0 hr0).1
    have hok := (hc 0 r0 hr0).2
    unfold RowB.v at hc0
    rw [hb0] at hc0
    rw [addr_zero] at hc0
    refine ⟨g, r0.cap, r0.A, ?_, hc0, fun W' hW => conv_src (l := [98]) 1 r0.cap rfl (src_later (by have := hok.1; rw [hb0] at this; exact this) hW) (by decide), (ho.own.lt g rfl).1, hb⟩
    rw [he]
    congr 1
theorem ral2 (hs : RSrc W (some ⟨g3, 0, none⟩) (abcd g1 g2)) :
    Calls Try.prog 107 #[.agg #[.bool false, .int .i64 0, .int .i64 3, .bool false, .bool false, .int .i64 0, .slice (some ⟨g3, 0, none⟩) 2 2], .int .i64 0, .int .i64 4, .int .i64 8, .int .i64 10] W fun e w' => ∃ g, e = .returned (.tuple #[.agg #[.bool false, .int .i64 0, .int .i64 3, .bool false, .bool false, .int .i64 0, .slice (some ⟨g, 0, none⟩) 2 2], .int .i64 4, .int .i64 0]) ∧ Below W.heap.size W w' := by
  refine (rsc_whole false false false 0 3 0 2 2 4 8 10 W rfl hs (by show faultR false false 0 3 0 [2, 2] 0 4 8 10 = 0; decide +kernel) rfl (by show amdF false false 0 3 0 [2, 2] 10 ≤ 8; decide +kernel)).mono ?_
  rintro e w' ⟨g, M, rfl, _, _, _, hb⟩
  exact ⟨g, rfl, hb⟩
theorem ral3 (hs : RSrc W (some ⟨g3, 0, none⟩) (abcd g1 g2)) :
    Calls Try.prog 107 #[.agg #[.bool false, .int .i64 0, .int .i64 3, .bool false, .bool false, .int .i64 0, .slice (some ⟨g3, 0, none⟩) 2 2], .int .i64 1, .int .i64 4, .int .i64 4, .int .i64 10] W fun e w' => e = .returned (.tuple #[.agg #[.bool false, .int .i64 0, .int .i64 0, .bool false, .bool false, .int .i64 0, .slice none 0 0], .int .i64 0, .int .i64 16]) ∧ Below W.heap.size W w' := by
  refine (rsc_part false false false 0 3 0 2 2 1 4 4 10 W rfl hs (by show faultR false false 0 3 0 [2, 2] 1 4 4 10 = 0; decide +kernel) (.inl (by decide))).mono ?_
  rintro e w' (⟨_, he, hb⟩ | ⟨N, g, k, M, hN, hC, _⟩)
  · exact ⟨he, hb⟩
  · have := (hC.zero_iff (by decide)).2 (by decide +kernel)
    omega
theorem ral4 (hs : RSrc W (some ⟨g3, 0, none⟩) (abcd g1 g2)) :
    Calls Try.prog 107 #[.agg #[.bool false, .int .i64 0, .int .i64 3, .bool false, .bool false, .int .i64 0, .slice (some ⟨g3, 0, none⟩) 2 2], .int .i64 4, .int .i64 4, .int .i64 9, .int .i64 10] W fun e w' => e = .returned (.tuple #[.agg #[.bool false, .int .i64 0, .int .i64 0, .bool false, .bool false, .int .i64 0, .slice none 0 0], .int .i64 0, .int .i64 1]) ∧ Below W.heap.size W w' := by
  have h := rsc_bad false false false 0 3 0 2 2 4 4 9 10 W rfl (by omega) hs (by show ∀ m ∈ [2, 2], m ≤ 9223372036854775807; decide) (by show [2, 2].sum ≤ 1000000; decide) (by show faultR false false 0 3 0 [2, 2] 4 4 9 10 ≠ 0; decide +kernel)
  have e : faultR false false 0 3 0 (lens (abcd g1 g2)) 4 4 9 10 = 1 := by
    show faultR false false 0 3 0 [2, 2] 4 4 9 10 = 1
    decide +kernel
  rw [e] at h
  exact h
end
theorem src_const (w : World) (l : List Nat) (fr : Nat × Nat) : Src (w.alloc (.cells (bts l).toArray 5 fr)) (some ⟨w.heap.size, 0, none⟩) (bts l) := fun _ => ⟨_, rfl, fun j u hu => by
  rw [add_zero_addr]
  have h := heap_alloc_new w (.cells (bts l).toArray 5 fr)
  exact (cell_of_row _ _ j _ 5 fr h).trans (by rw [List.getElem?_toArray]; exact hu)⟩
theorem abcd_made (w : World) (pk : Obj) : RSrc ((((w.alloc (.cells #[.int .u8 97, .int .u8 98] 5 (2, 3))).alloc (.cells #[.int .u8 99, .int .u8 100] 5 (2, 3))).alloc (.cells #[.slice (some ⟨w.heap.size, 0, none⟩) 2 2, .slice (some ⟨w.heap.size + 1, 0, none⟩) 2 2] 30)).alloc pk) (some ⟨w.heap.size + 1 + 1, 0, none⟩) (abcd w.heap.size (w.heap.size + 1)) := by
  have s1 := src_const w [97, 98] (2, 3)
  have s2 := src_const (w.alloc (.cells #[.int .u8 97, .int .u8 98] 5 (2, 3))) [99, 100] (2, 3)
  rw [show (w.alloc (.cells #[.int .u8 97, .int .u8 98] 5 (2, 3))).heap.size = w.heap.size + 1 by simp] at s2
  refine RSrc.later (rsrc_of (row2 w _ _ _ _) (fun r hr => ?_)) (bl_alloc (Below.refl _ _) _)
  unfold abcd at hr
  rw [List.mem_cons, List.mem_singleton] at hr
  rcases hr with rfl | rfl
  · exact ⟨src_later s1 (bl_alloc (bl_alloc (Below.refl _ _) _) _), by simp, by simp, by simp⟩
  · exact ⟨src_later s2 (bl_alloc (by first | exact Below.refl _ _ | (have := Below.refl ((w.alloc (.cells #[.int .u8 97, .int .u8 98] 5 (2, 3))).alloc (.cells #[.int .u8 99, .int .u8 100] 5 (2, 3))).heap.size _; exact this)) _), by simp, by simp, by simp⟩
set_option maxRecDepth 100000 in
set_option maxHeartbeats 3200000 in
theorem rsalive_any (w : World) : Calls Try.prog 106 #[] w fun e w' => e = .returned (.bool true) ∧ Below w.heap.size w w' := by
  have HLE := Lib.hid (fun W => (by have h := rsleast_any 16 W; rw [show leastR 16 = 6 by decide] at h; exact h : Calls Try.prog 108 #[.int .i64 16] W fun e w' => e = .returned (.int .i64 6) ∧ W = w'))
  have kc1 := Lib.run_convert_bytes_const (P := Try.prog) w 30 5 #[.int .u8 97, .int .u8 98] 2 2 Try.underlying30 Try.underlying5
  have kc2 := Lib.run_convert_bytes_const (P := Try.prog) (w.alloc (.cells #[.int .u8 97, .int .u8 98] 5 (2, 3))) 30 5 #[.int .u8 99, .int .u8 100] 2 2 Try.underlying30 Try.underlying5
  rw [show (w.alloc (.cells #[.int .u8 97, .int .u8 98] 5 (2, 3))).heap.size = w.heap.size + 1 by simp] at kc2
  have HP0 := Lib.hid (Row.made (((w.alloc (.cells #[.int .u8 97, .int .u8 98] 5 (2, 3))).alloc (.cells #[.int .u8 99, .int .u8 100] 5 (2, 3))).alloc (.cells #[.slice (some ⟨w.heap.size, 0, none⟩) 2 2, .slice (some ⟨w.heap.size + 1, 0, none⟩) 2 2] 30)) 24 #[.bool false, .int .i64 0, .int .i64 3, .bool false, .bool false, .int .i64 0, .slice (some ⟨w.heap.size + 1 + 1, 0, none⟩) 2 2])
  rw [show (((w.alloc (.cells #[.int .u8 97, .int .u8 98] 5 (2, 3))).alloc (.cells #[.int .u8 99, .int .u8 100] 5 (2, 3))).alloc (.cells #[.slice (some ⟨w.heap.size, 0, none⟩) 2 2, .slice (some ⟨w.heap.size + 1, 0, none⟩) 2 2] 30)).heap.size = w.heap.size + 1 + 1 + 1 by simp] at HP0
  have HS0 := Lib.hid (abcd_made w (.cells #[.bool false, .int .i64 0, .int .i64 3, .bool false, .bool false, .int .i64 0, .slice (some ⟨w.heap.size + 1 + 1, 0, none⟩) 2 2] 24))
  go_enter Try.func106, Try.ntmps106
  go_wp2_with (first
    | (go_at_call 107; (with_reducible refine (ral1 HS0.out).mono ?_); rintro e w1 ⟨ga, ca, ra, rfl, x1, x2, x3, hb1⟩; (have X1 := Lib.hid x1); (have X2 := Lib.hid x2); (have HB1 := Lib.hid (bl_alloc (bl_step (bl_alloc (bl_alloc (bl_alloc (bl_alloc (Below.refl w.heap.size w) _) _) _) _) hb1) (.cells #[.bool false, .int .i64 2, .int .i64 3, .bool true, .bool true, .int .i64 1, .slice (some ⟨ga, 0, none⟩) 2 2] 24))); (have HS1 := Lib.hid ((HS0.out.later hb1).later (bl_alloc (Below.refl _ _) (.cells #[.bool false, .int .i64 2, .int .i64 3, .bool true, .bool true, .int .i64 1, .slice (some ⟨ga, 0, none⟩) 2 2] 24)))); (have HP1 := Lib.hid ((HP0.out.later hb1).more (.cells #[.bool false, .int .i64 2, .int .i64 3, .bool true, .bool true, .int .i64 1, .slice (some ⟨ga, 0, none⟩) 2 2] 24))); (have HX1 := Lib.hid (Row.made w1 24 #[.bool false, .int .i64 2, .int .i64 3, .bool true, .bool true, .int .i64 1, .slice (some ⟨ga, 0, none⟩) 2 2])); obtain ⟨c0, c1, c2, c3, c4, c5, c6⟩ := cells_pk HP1.out; clear hb1 x1 x2 x3)
    | (go_at_call 107; (with_reducible refine (ral2 HS1.out).mono ?_); rintro e w2 ⟨gb, rfl, hb2⟩; (have HB2 := Lib.hid (bl_alloc (bl_step HB1.out hb2) (.cells #[.bool false, .int .i64 0, .int .i64 3, .bool false, .bool false, .int .i64 0, .slice (some ⟨gb, 0, none⟩) 2 2] 24))); (have HS2 := Lib.hid ((HS1.out.later hb2).later (bl_alloc (Below.refl _ _) (.cells #[.bool false, .int .i64 0, .int .i64 3, .bool false, .bool false, .int .i64 0, .slice (some ⟨gb, 0, none⟩) 2 2] 24)))); (have HP2 := Lib.hid ((HP1.out.later hb2).more (.cells #[.bool false, .int .i64 0, .int .i64 3, .bool false, .bool false, .int .i64 0, .slice (some ⟨gb, 0, none⟩) 2 2] 24))); (have HX2 := Lib.hid ((HX1.out.later hb2).more (.cells #[.bool false, .int .i64 0, .int .i64 3, .bool false, .bool false, .int .i64 0, .slice (some ⟨gb, 0, none⟩) 2 2] 24))); (have HL2 := Lib.hid ((bl_alloc (Below.refl w1.heap.size w1) (.cells #[.bool false, .int .i64 2, .int .i64 3, .bool true, .bool true, .int .i64 1, .slice (some ⟨ga, 0, none⟩) 2 2] 24)).trans ((bl_alloc hb2 (.cells #[.bool false, .int .i64 0, .int .i64 3, .bool false, .bool false, .int .i64 0, .slice (some ⟨gb, 0, none⟩) 2 2] 24)).mono (by simp)))); (have HY2 := Lib.hid (Row.made w2 24 #[.bool false, .int .i64 0, .int .i64 3, .bool false, .bool false, .int .i64 0, .slice (some ⟨gb, 0, none⟩) 2 2])); obtain ⟨d0, d1, d2, d3, d4, d5, d6⟩ := cells_pk HP2.out; clear hb2)
    | (go_at_call 107; (with_reducible refine (ral3 HS2.out).mono ?_); rintro e w3 ⟨rfl, hb3⟩; (have HB3 := Lib.hid (bl_alloc (bl_step HB2.out hb3) (.cells #[.bool false, .int .i64 0, .int .i64 0, .bool false, .bool false, .int .i64 0, .slice none 0 0] 24))); (have HS3 := Lib.hid ((HS2.out.later hb3).later (bl_alloc (Below.refl _ _) (.cells #[.bool false, .int .i64 0, .int .i64 0, .bool false, .bool false, .int .i64 0, .slice none 0 0] 24)))); (have HP3 := Lib.hid ((HP2.out.later hb3).more (.cells #[.bool false, .int .i64 0, .int .i64 0, .bool false, .bool false, .int .i64 0, .slice none 0 0] 24))); (have HX3 := Lib.hid ((HX2.out.later hb3).more (.cells #[.bool false, .int .i64 0, .int .i64 0, .bool false, .bool false, .int .i64 0, .slice none 0 0] 24))); (have HL3 := Lib.hid (HL2.out.trans ((bl_alloc hb3 (.cells #[.bool false, .int .i64 0, .int .i64 0, .bool false, .bool false, .int .i64 0, .slice none 0 0] 24)).mono HL2.out.size))); (have HY3 := Lib.hid ((HY2.out.later hb3).more (.cells #[.bool false, .int .i64 0, .int .i64 0, .bool false, .bool false, .int .i64 0, .slice none 0 0] 24))); obtain ⟨e0, e1, e2, e3, e4, e5, e6⟩ := cells_pk HP3.out; clear hb3)
    | (go_at_call 107; (with_reducible refine (ral4 HS3.out).mono ?_); rintro e w4 ⟨rfl, hb4⟩; (have HB4 := Lib.hid (bl_alloc (bl_step HB3.out hb4) (.cells #[.bool false, .int .i64 0, .int .i64 0, .bool false, .bool false, .int .i64 0, .slice none 0 0] 24))); (have HX4 := Lib.hid ((HX3.out.later hb4).more (.cells #[.bool false, .int .i64 0, .int .i64 0, .bool false, .bool false, .int .i64 0, .slice none 0 0] 24))); (have HL4 := Lib.hid (HL3.out.trans ((bl_alloc hb4 (.cells #[.bool false, .int .i64 0, .int .i64 0, .bool false, .bool false, .int .i64 0, .slice none 0 0] 24)).mono HL3.out.size))); (have HY4 := Lib.hid ((HY3.out.later hb4).more (.cells #[.bool false, .int .i64 0, .int .i64 0, .bool false, .bool false, .int .i64 0, .slice none 0 0] 24))); obtain ⟨f0, f1, f2, f3, f4, f5, f6⟩ := cells_pk HX4.out; obtain ⟨g0, g1, g2, g3, g4, g5, g6⟩ := cells_pk HY4.out; have y1 := cell_below HL4.out X1.out; have y2 := X2.out _ HL4.out; clear hb4)
    | (go_at_call 108; (with_reducible refine (HLE.out _).mono ?_); rintro e w5 ⟨rfl, rfl⟩))
  go_ret
  exact ⟨rfl, HB4.out⟩
end Go.Proofs.Ytfgjlhklioijmaa
namespace Go.Proofs.Ytfgjlhklioijmaa
open Go.RowKit

theorem pcs_all {ls : List Nat} (hp : ∀ l ∈ ls, 0 < l) : pcs ls 0 ls.sum = ls := by
  have key : ∀ j, j ≤ ls.length → pcs ls 0 (sumTo ls j) = ls.take j := by
    intro j hj
    induction j with
    | zero => simp [sumTo, pcs]
    | succ j ih =>
      have hm : ls[j]? = some ls[j] := List.getElem?_eq_getElem (by omega)
      have h0 : 0 < ls[j] := hp _ (List.getElem_mem _)
      rw [sumTo_succ hm, List.take_succ_eq_append_getElem (by omega), ← ih (by omega)]
      have he := endF_to (p := sumTo ls j) hm (Nat.le_refl _) (by omega)
      have hs : sumTo ls j + ls[j] ≤ ls.sum := by rw [← sumTo_succ hm]; exact sumTo_le _ _
      have hi := (endF_in (ls := ls) (p := sumTo ls j) (by omega)).2.2.2
      rw [he] at hi
      exact pcs_jump h0 (.inr (by rw [Nat.zero_add]; exact edgeF_to)) (fun x h1 h2 => hi x (by omega) (by omega))
  have := key ls.length (Nat.le_refl _)
  rwa [sumTo_all, List.take_length] at this
theorem headA_two {wd : Int} (h : wd = 10 ∨ wd = 16) : headA true wd = headA false wd + 2 := by
  rcases h with rfl | rfl <;> rfl
theorem cut_less {ls : List Nat} {room wd : Int} {N : Nat} (hp : ∀ l ∈ ls, 0 < l) (h : CutN ls 0 ls.sum room wd N) (h0 : 0 < ls.sum) (hr : room < ls.sum + sizeF ((ls.length : Int) - 1) wd) : N < ls.sum := by
  obtain ⟨h1, h2, _⟩ := h
  rcases Nat.lt_or_ge N ls.sum with h3 | h3
  · exact h3
  · have e : N = ls.sum := by omega
    rcases h2 with h2 | h2
    · omega
    · unfold costP at h2
      rw [e, pcs_all hp] at h2
      omega
end Go.Proofs.Ytfgjlhklioijmaa
