/-
  What the calls of package seqnum answer: Far, Go, In, Less.
-/
import Derived.Test.YtjilmgbjbkidnaaSeq
namespace Go.Proofs.Ytjilmgbjbkidnaa
open Go.RowKit

theorem flt_ok {b : Int} {xs : List Int} (hr : rt b = true) (h : xs.all (okn b) = true) : flt b xs = 0 := by
  unfold flt; rw [hr, h]; rfl
theorem flt_ne {b : Int} {xs : List Int} (h : (rt b && xs.all (okn b)) = false) : flt b xs = 1 ∨ flt b xs = 3 := by
  unfold flt
  cases hr : rt b
  · right; rfl
  · left
    rw [hr, Bool.true_and] at h
    rw [h]; rfl
theorem all2 {p : Int → Bool} (a c : Int) : [a, c].all p = (p a && p c) := by simp
theorem all3 {p : Int → Bool} (x a c : Int) : [x, a, c].all p = (p x && (p a && p c)) := by simp
theorem all1 {p : Int → Bool} (a : Int) : [a].all p = p a := by simp

/-- how far, or 0 -/
def FarV (b a c : Int) : Int := if rt b && [a, c].all (okn b) then farV b a c else 0

theorem cells1 {w : World} {a : Int} (i : Nat) (hi : i < [a].length) : (w.alloc (.cells #[.int .i64 a] 3)).cell? ⟨w.heap.size, i, none⟩ = some (.int .i64 [a][i]) := by
  match i, hi with
  | 0, _ => simp
theorem cells2 {w : World} {a c : Int} (i : Nat) (hi : i < [a, c].length) : (w.alloc (.cells #[.int .i64 a, .int .i64 c] 3)).cell? ⟨w.heap.size, i, none⟩ = some (.int .i64 [a, c][i]) := by
  match i, hi with
  | 0, _ => simp
  | 1, _ => simp
theorem cells3 {w : World} {x a c : Int} (i : Nat) (hi : i < [x, a, c].length) : (w.alloc (.cells #[.int .i64 x, .int .i64 a, .int .i64 c] 3)).cell? ⟨w.heap.size, i, none⟩ = some (.int .i64 [x, a, c][i]) := by
  match i, hi with
  | 0, _ => simp
  | 1, _ => simp
  | 2, _ => simp

theorem fault1 (b a : Int) (w : World) (g : Nat) (hg : w.heap.size = g) : Calls Try.prog 47 #[.agg #[.int .i64 b], .slice (some ⟨g, 0, none⟩) 1 1] (w.alloc (.cells #[.int .i64 a] 3)) fun e w' => e = .returned (.int .i64 (flt b [a])) ∧ Below (w.alloc (.cells #[.int .i64 a] 3)).heap.size (w.alloc (.cells #[.int .i64 a] 3)) w' := by
  subst hg
  exact fault_any b [a] w.heap.size _ cells1 (by simp) (by simp)
theorem fault2 (b a c : Int) (w : World) (g : Nat) (hg : w.heap.size = g) : Calls Try.prog 47 #[.agg #[.int .i64 b], .slice (some ⟨g, 0, none⟩) 2 2] (w.alloc (.cells #[.int .i64 a, .int .i64 c] 3)) fun e w' => e = .returned (.int .i64 (flt b [a, c])) ∧ Below (w.alloc (.cells #[.int .i64 a, .int .i64 c] 3)).heap.size (w.alloc (.cells #[.int .i64 a, .int .i64 c] 3)) w' := by
  subst hg
  exact fault_any b [a, c] w.heap.size _ cells2 (by simp) (by simp)
theorem fault3 (b x a c : Int) (w : World) (g : Nat) (hg : w.heap.size = g) : Calls Try.prog 47 #[.agg #[.int .i64 b], .slice (some ⟨g, 0, none⟩) 3 3] (w.alloc (.cells #[.int .i64 x, .int .i64 a, .int .i64 c] 3)) fun e w' => e = .returned (.int .i64 (flt b [x, a, c])) ∧ Below (w.alloc (.cells #[.int .i64 x, .int .i64 a, .int .i64 c] 3)).heap.size (w.alloc (.cells #[.int .i64 x, .int .i64 a, .int .i64 c] 3)) w' := by
  subst hg
  exact fault_any b [x, a, c] w.heap.size _ cells3 (by simp) (by simp)

set_option maxHeartbeats 400000 in
theorem Far_any (b a c : Int) (w : World) :
    Calls Try.prog 29 #[.agg #[.int .i64 b], .int .i64 a, .int .i64 c] w fun e w' => e = .returned (.tuple #[.int .i64 (FarV b a c), .int .i64 (flt b [a, c])]) ∧ Below w.heap.size w w' := by
  cases hq : rt b && [a, c].all (okn b)
  · have hv : FarV b a c = 0 := by unfold FarV; rw [hq]; rfl
    have hn' : (flt b [a, c] != 0) = true := by have := flt_ne hq; simp; omega
    have HV := Lib.hid hv
    clear hv hq
    rw [HV.out]
    go_enter Try.func29, Try.ntmps29
    go_wp2_with (go_at_call 47; refine (fault2 b a c _ _ ?_).mono ?_; simp; rintro e w1 ⟨rfl, hb1⟩)
    go_ret2
    exact ⟨rfl, by repeat (first | exact Below.refl _ _ | refine bl_alloc ?_ _ | refine bl_drew ?_ | refine bl_step ?_ (by assumption))⟩
  · have hv : FarV b a c = farV b a c := by unfold FarV; rw [hq]; rfl
    rw [all2, Bool.and_eq_true, Bool.and_eq_true] at hq
    obtain ⟨hr, h1, h2⟩ := hq
    have he : flt b [a, c] = 0 := flt_ok hr (by rw [all2, h1, h2]; rfl)
    have HV := Lib.hid hv
    have HE := Lib.hid he
    have HR := Lib.hid hr
    have H1 := Lib.hid h1
    have H2 := Lib.hid h2
    clear hv he hr h1 h2
    rw [HV.out, HE.out]
    go_enter Try.func29, Try.ntmps29
    go_wp2_with (first
      | (go_at_call 47; refine (fault2 b a c _ _ ?_).mono ?_; simp; rintro e w1 ⟨rfl, hb1⟩; obtain ⟨hc1, hf1⟩ := bcell hb1; rw [HE.out])
      | (go_at_call 49; refine (far_any _ _ _ _ HR.out H1.out H2.out).mono ?_; rintro e w2 ⟨rfl, hb2⟩))
    go_ret2
    exact ⟨rfl, by repeat (first | exact Below.refl _ _ | refine bl_alloc ?_ _ | refine bl_drew ?_ | refine bl_step ?_ (by assumption))⟩

def GoE (b n c : Int) : Int := if rt b && [n].all (okn b) then (if c < -65536 ∨ 65536 < c then 1 else 0) else flt b [n]
def GoV (b n c : Int) : Int := if rt b && [n].all (okn b) then (if c < -65536 ∨ 65536 < c then 0 else (n + c) % sz b) else 0

theorem sz_dvd {b : Int} (hr : rt b = true) (x : Int) : (x + 65536) % sz b = x % sz b := by
  obtain h | h | h | h | h | h | h | h | h | h | h | h | h | h | h | h := sz_cases hr <;> rw [h] <;> omega

set_option maxHeartbeats 800000 in
theorem Go_any (b n c : Int) (w : World) :
    Calls Try.prog 27 #[.agg #[.int .i64 b], .int .i64 n, .int .i64 c] w fun e w' => e = .returned (.tuple #[.int .i64 (GoV b n c), .int .i64 (GoE b n c)]) ∧ Below w.heap.size w w' := by
  cases hq : rt b && [n].all (okn b)
  · have hv : GoV b n c = 0 := by unfold GoV; rw [hq]; rfl
    have he : GoE b n c = flt b [n] := by unfold GoE; rw [hq]; rfl
    have hn' : (flt b [n] != 0) = true := by have := flt_ne hq; simp; omega
    have HV := Lib.hid hv
    have HE := Lib.hid he
    clear hv hq he
    rw [HV.out, HE.out]
    go_enter Try.func27, Try.ntmps27
    go_wp2
    go_step3
    go_wp2_with (go_at_call 47; refine (fault1 b n _ _ ?_).mono ?_; simp; rintro e w1 ⟨rfl, hb1⟩)
    rw [Exit.noGoto_ret]
    go_ret2
    exact ⟨rfl, by repeat (first | exact Below.refl _ _ | refine bl_alloc ?_ _ | refine bl_drew ?_ | refine bl_step ?_ (by assumption))⟩
  · have hv : GoV b n c = if c < -65536 ∨ 65536 < c then 0 else (n + c) % sz b := by unfold GoV; rw [hq]; rfl
    have hge : GoE b n c = if c < -65536 ∨ 65536 < c then 1 else 0 := by unfold GoE; rw [hq]; rfl
    rw [all1, Bool.and_eq_true] at hq
    obtain ⟨hr, h1⟩ := hq
    have he : flt b [n] = 0 := flt_ok hr (by rw [all1, h1])
    have hs := sz_cases hr
    have hz : 2 ≤ sz b ∧ sz b ≤ 65536 := by omega
    obtain ⟨hz1, hz2⟩ := hz
    obtain ⟨ha1, ha2⟩ := okn_true h1
    have HV := Lib.hid hv
    have HG := Lib.hid hge
    have HE := Lib.hid he
    have HR := Lib.hid hr
    clear hv he hr h1 hge hs
    rw [HV.out, HG.out]
    by_cases c1 : c < -65536
    · rw [if_pos (Or.inl c1), if_pos (Or.inl c1)]
      go_enter Try.func27, Try.ntmps27
      go_wp2
      go_step3
      go_wp2_with (go_at_call 47; refine (fault1 b n _ _ ?_).mono ?_; simp; rintro e w1 ⟨rfl, hb1⟩; obtain ⟨hc1, hf1⟩ := bcell hb1; rw [HE.out])
      rw [Exit.noGoto_ret]
      go_ret2
      exact ⟨rfl, by repeat (first | exact Below.refl _ _ | refine bl_alloc ?_ _ | refine bl_drew ?_ | refine bl_step ?_ (by assumption))⟩
    · by_cases c2 : 65536 < c
      · rw [if_pos (Or.inr c2), if_pos (Or.inr c2)]
        go_enter Try.func27, Try.ntmps27
        go_wp2
        go_step3
        go_wp2_with (go_at_call 47; refine (fault1 b n _ _ ?_).mono ?_; simp; rintro e w1 ⟨rfl, hb1⟩; obtain ⟨hc1, hf1⟩ := bcell hb1; rw [HE.out])
        rw [Exit.noGoto_ret]
        go_ret2
        exact ⟨rfl, by repeat (first | exact Below.refl _ _ | refine bl_alloc ?_ _ | refine bl_drew ?_ | refine bl_step ?_ (by assumption))⟩
      · rw [if_neg (by omega), if_neg (by omega)]
        by_cases c3 : c < 0
        · go_enter Try.func27, Try.ntmps27
          go_wp2
          refine wp_scope_jumps 0 (fun a' w' => Fr [some (.agg #[.int .i64 b]), some (.int .i64 n), some (.int .i64 c), some (.pointer (some ⟨w.heap.size, 0, none⟩)), none, none, none, none, none, none, none, none, none, none, none, none, none, none, none, none, none, none, none, none, none, none, none, none, none, none, none, none, none, none, none, none, none, none, none] a' ∧ Below (w.alloc (.cells #[.int .i64 b] 55)).heap.size (w.alloc (.cells #[.int .i64 b] 55)) w') (fun _ _ => 0) rfl ?_ ?_
          · go_wp2_with (first
              | (go_at_call 47; refine (fault1 b n _ _ ?_).mono ?_; simp; rintro e w1 ⟨rfl, hb1⟩; obtain ⟨hc1, hf1⟩ := bcell hb1; rw [HE.out])
              | (go_at_call 35; refine (size_any _ _).mono ?_; rintro e w2 ⟨rfl, hb2⟩))
            go_step3
            refine ⟨rfl, ?_, ?_⟩
            · simp only [Fr, Holes]
              repeat apply Exists.intro
              rfl
            · exact ((Below.refl _ _).alloc (by simp) _).trans (hb1.mono (by simp))
          · rintro a' w' ⟨hfr, hbr⟩
            simp only [Fr, Holes] at hfr
            repeat (obtain ⟨_, hfr⟩ := hfr)
            have hbox : w'.cell? ⟨w.heap.size, 0, none⟩ = some (.int .i64 b) := (hbr.cell (p := ⟨w.heap.size, 0, none⟩) (by simp)).trans (by simp)
            have HB := Lib.hid hbr
            clear hbr
            go_wp2_with (go_at_call 35; refine (size_any _ _).mono ?_; rintro e w2 ⟨rfl, hb2⟩)
            simp only [Exit.jump]
            go_ret2
            exact ⟨ret_ints (sz_dvd HR.out _) rfl, bl_step (((Below.refl _ _).alloc (Nat.le_refl _) _).trans (HB.out.mono (by simp))) hb2⟩
        · go_enter Try.func27, Try.ntmps27
          go_wp2
          go_step3
          go_wp2_with (first
            | (go_at_call 47; refine (fault1 b n _ _ ?_).mono ?_; simp; rintro e w1 ⟨rfl, hb1⟩; obtain ⟨hc1, hf1⟩ := bcell hb1; rw [HE.out])
            | (go_at_call 35; refine (size_any _ _).mono ?_; rintro e w2 ⟨rfl, hb2⟩))
          rw [Exit.noGoto_ret]
          go_ret2
          exact ⟨rfl, by repeat (first | exact Below.refl _ _ | refine bl_alloc ?_ _ | refine bl_drew ?_ | refine bl_step ?_ (by assumption))⟩
def InV (b base size n : Int) : Bool := if rt b && [base, n].all (okn b) then decide (1 ≤ size ∧ size ≤ sz b / 2 ∧ farV b base n < size) else false
def InE (b base size n : Int) : Int := if rt b && [base, n].all (okn b) then (if size < 1 ∨ sz b / 2 < size then 1 else 0) else flt b [base, n]

set_option maxHeartbeats 800000 in
theorem In_any (b base size n : Int) (w : World) :
    Calls Try.prog 31 #[.agg #[.int .i64 b], .int .i64 base, .int .i64 size, .int .i64 n] w fun e w' => e = .returned (.tuple #[.bool (InV b base size n), .int .i64 (InE b base size n)]) ∧ Below w.heap.size w w' := by
  cases hq : rt b && [base, n].all (okn b)
  · have hv : InV b base size n = false := by unfold InV; rw [hq]; rfl
    have he : InE b base size n = flt b [base, n] := by unfold InE; rw [hq]; rfl
    have hn' : (flt b [base, n] != 0) = true := by have := flt_ne hq; simp; omega
    have HV := Lib.hid hv
    have HE := Lib.hid he
    clear hv hq he
    rw [HV.out, HE.out]
    go_enter Try.func31, Try.ntmps31
    go_wp2_with (go_at_call 47; refine (fault2 b base n _ _ ?_).mono ?_; simp; rintro e w1 ⟨rfl, hb1⟩)
    go_ret2
    exact ⟨rfl, by repeat (first | exact Below.refl _ _ | refine bl_alloc ?_ _ | refine bl_drew ?_ | refine bl_step ?_ (by assumption))⟩
  · have hv : InV b base size n = decide (1 ≤ size ∧ size ≤ sz b / 2 ∧ farV b base n < size) := by unfold InV; rw [hq]; rfl
    have he : InE b base size n = if size < 1 ∨ sz b / 2 < size then 1 else 0 := by unfold InE; rw [hq]; rfl
    rw [all2, Bool.and_eq_true, Bool.and_eq_true] at hq
    obtain ⟨hr, h1, h2⟩ := hq
    have hf : flt b [base, n] = 0 := flt_ok hr (by rw [all2, h1, h2]; rfl)
    have hs := sz_bd b
    obtain ⟨hz1, hz2⟩ := hs
    have HV := Lib.hid hv
    have HE := Lib.hid he
    have HF := Lib.hid hf
    have HR := Lib.hid hr
    have H1 := Lib.hid h1
    have H2 := Lib.hid h2
    clear hv he hf hr h1 h2
    rw [HV.out, HE.out]
    by_cases c1 : size < 1
    · rw [if_pos (Or.inl c1), decide_eq_false (by omega)]
      go_enter Try.func31, Try.ntmps31
      go_wp2_with (go_at_call 47; refine (fault2 b base n _ _ ?_).mono ?_; simp; rintro e w1 ⟨rfl, hb1⟩; obtain ⟨hc1, hf1⟩ := bcell hb1; have hz3 : w.heap.size < w1.heap.size := (by have := hb1.size; simp at this; omega); rw [HF.out])
      go_ret2
      exact ⟨rfl, by repeat (first | exact Below.refl _ _ | refine bl_alloc ?_ _ | refine bl_drew ?_ | refine bl_step ?_ (by assumption))⟩
    · by_cases c2 : sz b / 2 < size
      · rw [if_pos (Or.inr c2), decide_eq_false (by omega)]
        go_enter Try.func31, Try.ntmps31
        go_wp2_with (first
          | (go_at_call 47; refine (fault2 b base n _ _ ?_).mono ?_; simp; rintro e w1 ⟨rfl, hb1⟩; obtain ⟨hc1, hf1⟩ := bcell hb1; have hz3 : w.heap.size < w1.heap.size := (by have := hb1.size; simp at this; omega); rw [HF.out])
          | (go_at_call 35; refine (size_any _ _).mono ?_; rintro e w2 ⟨rfl, hb2⟩))
        go_ret2
        exact ⟨rfl, by repeat (first | exact Below.refl _ _ | refine bl_alloc ?_ _ | refine bl_drew ?_ | refine bl_step ?_ (by assumption))⟩
      · have hd : decide (1 ≤ size ∧ size ≤ sz b / 2 ∧ farV b base n < size) = decide (farV b base n < size) := by
          rw [decide_eq_decide]; omega
        have HD := Lib.hid hd
        clear hd
        rw [if_neg (by omega), HD.out]
        go_enter Try.func31, Try.ntmps31
        go_wp2_with (first
          | (go_at_call 47; refine (fault2 b base n _ _ ?_).mono ?_; simp; rintro e w1 ⟨rfl, hb1⟩; obtain ⟨hc1, hf1⟩ := bcell hb1; have hz3 : w.heap.size < w1.heap.size := (by have := hb1.size; simp at this; omega); rw [HF.out])
          | (go_at_call 35; refine (size_any _ _).mono ?_; rintro e w2 ⟨rfl, hb2⟩; obtain ⟨hc2, hf2⟩ := bcell hb2)
          | (go_at_call 49; refine (far_any _ _ _ _ HR.out H1.out H2.out).mono ?_; rintro e w3 ⟨rfl, hb3⟩))
        go_ret2
        exact ⟨rfl, by repeat (first | exact Below.refl _ _ | refine bl_alloc ?_ _ | refine bl_drew ?_ | refine bl_step ?_ (by assumption))⟩


end Go.Proofs.Ytjilmgbjbkidnaa
