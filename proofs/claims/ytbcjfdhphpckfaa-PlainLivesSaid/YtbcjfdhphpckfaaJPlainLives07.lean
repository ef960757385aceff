/-
  What Read answers.
-/
import Derived.Test.YtbcjfdhphpckfaaJPlainLives06
import Derived.Test.YtbcjfdhphpckfaaJPlainLives05
namespace Go.Proofs.Ytbcjfdhphpckfaa
open Go.RowKit

def sliceLen : Value → Nat
  | .slice _ n _ => n
  | _ => 0
/-- lengths as values -/
def insN (l : List Nat) : List Value := (l.map (fun n : Nat => (n : Int))).map (fun x => Value.int .i64 x)
theorem length_insN (l : List Nat) : (insN l).length = l.length := by simp [insN]

/-- what Read answers -/
def RdAns (w : World) (bs : List Nat) (wd : Nat) (e : Ending) (w' : World) : Prop :=
  (((readF bs wd).2.2 = 0 ∧ ∃ u, e = .returned (.tuple #[u, .int .i64 ((readF bs wd).2.1 : Nat), .int .i64 0]) ∧ Ints w.heap.size w' u ((readF bs wd).1.map (fun n : Nat => (n : Int)))) ∨
   ((readF bs wd).2.2 ≠ 0 ∧ e = .returned (.tuple #[.slice none 0 0, .int .i64 0, .int .i64 (readF bs wd).2.2]))) ∧ Below w.heap.size w w'
theorem bl_step' {B : Nat} {w a b : World} (h : Below B w a) (k : Below B a b) : Below B w b := h.trans k
theorem rd_bad {w w' : World} {bs : List Nat} {wd : Nat} {er : Int} (h : prs wd 23 (bitsOf bs) = ([], 0, er)) (h0 : er ≠ 0) (hb : Below w.heap.size w w') : RdAns w bs wd (.returned (.tuple #[.slice none 0 0, .int .i64 0, .int .i64 er])) w' := by
  have h1 : readF bs wd = ([], 0, er) := by
    unfold readF
    rw [h]
    simp [h0]
  unfold RdAns
  rw [h1]
  exact ⟨.inr ⟨h0, rfl⟩, hb⟩

/-- at a jump: the lengths so far, and where the reader stands -/
structure RdInv (B wd p g : Nat) (bs acc : List Nat) (v : Value) (w w' : World) : Prop where
  rd : RRep w' p g bs (acc.length * (wd + 1))
  own : w'.ownsRow B 3 1 v acc.length (insN acc)
  below : Below B w w'
  above : B ≤ p
  size : B ≤ w'.heap.size
/-- the lengths, when the reader is done -/
structure RdAfter (B : Nat) (acc : List Nat) (v : Value) (w w' : World) : Prop where
  own : w'.ownsRow B 3 1 v acc.length (insN acc)
  below : Below B w w'
theorem RdInv.start (wd : Nat) {p g : Nat} {bs : List Nat} {w w' : World} (hr : RRep w' p g bs 0) (hb : Below w.heap.size w w') (hp : w.heap.size ≤ p) : RdInv w.heap.size wd p g bs [] (.slice none 0 0) w w' :=
  ⟨by simpa using hr, World.ownsRow_nil _ _ _ _, hb, hp, hb.size⟩
section
variable {B wd p g : Nat} {bs acc : List Nat} {v : Value} {w w' w1 : World}
theorem RdInv.form (h : RdInv B wd p g bs acc v w w') : ∃ A c, v = .slice A acc.length c := by
  rcases h.own.2 with ⟨rfl, h0⟩ | ⟨g, c, cur, rfl, _⟩
  · exact ⟨none, 0, by rw [h0]⟩
  · exact ⟨_, c, rfl⟩
/-- one length more -/
theorem RdInv.next (h : RdInv B wd p g bs acc v w w') (m : Nat) (hr : RRep w1 p g bs (acc.length * (wd + 1) + (wd + 1))) (ho : Only (fun k => k = p) w' w1) : RRep w1 p g bs ((acc.length + 1) * (wd + 1)) ∧
    ∃ g3 c3 w3, (Builtin.append_ #[30, 30] 30 #[v, .slice (some ⟨w1.heap.size, 0, none⟩) 1 1]).run Try.prog (w1.alloc (.cells #[.int .i64 m] 3)) = .ok (.slice (some ⟨g3, 0, none⟩) (acc.length + 1) c3) w3 ∧
      RdInv B wd p g bs (acc ++ [m]) (.slice (some ⟨g3, 0, none⟩) (acc.length + 1) c3) w w3 := by
  have h2 : RRep w1 p g bs ((acc.length + 1) * (wd + 1)) := by rw [Nat.add_mul, Nat.one_mul]; exact hr
  have hl : acc.length ≤ 1000000 := by
    have h3 := h.rd.2.2.1
    have h4 := h.rd.2.2.2.1
    have h5 : acc.length * 1 ≤ acc.length * (wd + 1) := Nat.mul_le_mul_left _ (by omega)
    omega
  have hown : w1.ownsRow B 3 1 v acc.length (insN acc) := own_only h.own ho (fun k hk e => by subst e; exact own_apart h.own h.rd.1 (by decide) hk)
  have hbl : Below B w w1 := h.below.trans (get_below ho h.above h.size)
  have hB1 : B ≤ w1.heap.size := Nat.le_trans h.size ho.size
  obtain ⟨g3, c3, w3, hrun, hown3, ho3⟩ := int_tail hown hB1 m hl
  refine ⟨h2, g3, c3, w3, hrun, ?_, ?_, ?_, h.above, Nat.le_trans hB1 ho3.size⟩
  · have e : (acc ++ [m]).length = acc.length + 1 := by simp
    rw [e]
    exact h2.only ho3 (own_apart hown h2.1 (by decide)) (own_apart hown h2.2.1 (by decide))
  · rw [List.length_append, List.length_singleton]
    have e : insN (acc ++ [m]) = insN acc ++ [.int .i64 m] := by simp [insN]
    rw [e]
    exact hown3
  · exact hbl.trans (ho3.below hB1 fun k hk hk' => by have := (hown.lt k hk').1; omega)
theorem RdInv.rest_yes {p g : Nat} {m : Nat} (h : RdInv B wd p g bs (acc ++ [m]) v w w') (hq : quiet (bitsOf bs) ((acc.length + 1) * (wd + 1)) = true) :
    Calls Try.prog 239 #[.pointer (some ⟨p, 0, none⟩)] w' fun e w'' => ∃ x, e = .returned (.tuple #[x, .int .i64 0]) ∧ RdAfter B (acc ++ [m]) v w w'' := by
  have e : (acc ++ [m]).length = acc.length + 1 := by simp
  have h1 := h.rd
  rw [e] at h1
  have h2 := rest_er w' h1
  rw [hq] at h2
  refine h2.mono ?_
  rintro e w'' ⟨x, rfl, ho⟩
  refine ⟨x, rfl, ?_, h.below.trans (get_below ho h.above h.size)⟩
  exact own_only h.own ho (fun k hk e => by subst e; exact own_apart h.own h.rd.1 (by decide) hk)
theorem RdInv.rest_no {p g : Nat} {m : Nat} (h : RdInv B wd p g bs (acc ++ [m]) v w w') (hq : quiet (bitsOf bs) ((acc.length + 1) * (wd + 1)) = false) :
    Calls Try.prog 239 #[.pointer (some ⟨p, 0, none⟩)] w' fun e w'' => ∃ x, e = .returned (.tuple #[x, .int .i64 3]) ∧ RdAfter B (acc ++ [m]) v w w'' := by
  have e : (acc ++ [m]).length = acc.length + 1 := by simp
  have h1 := h.rd
  rw [e] at h1
  have h2 := rest_er w' h1
  rw [hq] at h2
  refine h2.mono ?_
  rintro e w'' ⟨x, rfl, ho⟩
  refine ⟨x, rfl, ?_, h.below.trans (get_below ho h.above h.size)⟩
  exact own_only h.own ho (fun k hk e => by subst e; exact own_apart h.own h.rd.1 (by decide) hk)
end
theorem rd_form {w w' : World} {bs l : List Nat} {wd a : Nat} (h : prs wd 23 (bitsOf bs) = (l, a, 0)) (hq : quiet (bitsOf bs) a = false) (hb : Below w.heap.size w w') : RdAns w bs wd (.returned (.tuple #[.slice none 0 0, .int .i64 0, .int .i64 3])) w' := by
  have h1 : readF bs wd = ([], 0, 3) := by
    unfold readF
    rw [h]
    simp [hq]
  unfold RdAns
  rw [h1]
  exact ⟨.inr ⟨by decide, rfl⟩, hb⟩
theorem rd_good {w w' : World} {bs l : List Nat} {wd a : Nat} {u : Value} (h : prs wd 23 (bitsOf bs) = (l, a, 0)) (hq : quiet (bitsOf bs) a = true) (hu : Ints w.heap.size w' u (l.map (fun n : Nat => (n : Int)))) (hb : Below w.heap.size w w') :
    RdAns w bs wd (.returned (.tuple #[u, .int .i64 ((up a : Nat) : Int), .int .i64 0])) w' := by
  have h1 : readF bs wd = (l, up a, 0) := by
    unfold readF
    rw [h]
    simp [hq]
  unfold RdAns
  rw [h1]
  exact ⟨.inl ⟨rfl, u, rfl, hu⟩, hb⟩
theorem size_up_11 (k : Nat) (h1 : 1 ≤ k) (h2 : k ≤ 23) : ∀ W, Calls Try.prog 121 #[.int .i64 (k : Int), .int .i64 11] W fun e w' => e = .returned (.int .i64 ((up (k * (11 + 1)) : Nat) : Int)) ∧ W = w' := fun W => by
  have h := size_any k 11 W
  have e : sizeF k 11 = ((up (k * (11 + 1)) : Nat) : Int) := by
    unfold sizeF
    rw [show okW 11 = true from rfl, decide_eq_true (show (1 : Int) ≤ k by omega), decide_eq_true (show (k : Int) ≤ 23 by omega)]
    simp only [Bool.and_self, if_true, up]
    omega
  rw [e] at h
  exact h
theorem size_up_15 (k : Nat) (h1 : 1 ≤ k) (h2 : k ≤ 23) : ∀ W, Calls Try.prog 121 #[.int .i64 (k : Int), .int .i64 15] W fun e w' => e = .returned (.int .i64 ((up (k * (15 + 1)) : Nat) : Int)) ∧ W = w' := fun W => by
  have h := size_any k 15 W
  have e : sizeF k 15 = ((up (k * (15 + 1)) : Nat) : Int) := by
    unfold sizeF
    rw [show okW 15 = true from rfl, decide_eq_true (show (1 : Int) ≤ k by omega), decide_eq_true (show (k : Int) ≤ 23 by omega)]
    simp only [Bool.and_self, if_true, up]
    omega
  rw [e] at h
  exact h

set_option maxRecDepth 100000 in
set_option maxHeartbeats 6400000 in
theorem read_11 {A : Option Addr} {bs : List Nat} (n cap : Nat) (w : World) (hn : bs.length = n) (hm : n ≤ 8192) (hc : n ≤ cap) (hs : Src w A (bts bs)) (hb : ∀ b ∈ bs, b < 256) :
    Calls Try.prog 264 #[.slice A n cap, .int .i64 11] w (RdAns w bs 11) := by
  have HM := Lib.hid (fun W => lmay_any 11 W)
  have HRD := Lib.hid (read_any A cap bs w (by omega) (by omega) hs hb)
  rw [hn] at HRD
  have HN := Lib.hid hn
  clear hs hb hn
  go_enter Try.func264, Try.ntmps264
  go_wp2
  refine wp_scope_jumps 0 (fun a' w' => ∃ (p g : Nat) (acc : List Nat) (v : Value), Fr [some (.slice A n cap), some (.int .i64 11), none, none, some (.slice none 0 0), some (.int .i64 0), some (.int .i64 0), some (.pointer (some ⟨p, 0, none⟩)), some (v), none, none, none, none, none, none, none, none, none, none, none, none, none, none, none, none, none, none, none, none, none, none, none, none, none, none, none, none, none, none, none, none, none, none, none, none, none, none, none, none, none, none, none, none, none, none, none] a' ∧ sliceLen v = acc.length ∧ Hid (LInv 11 (bitsOf bs) acc) ∧ Hid (RdInv w.heap.size 11 p g bs acc v w w')) (fun a' _ => 23 - sliceLen (a'.tmps.getD 8 undef)) rfl ?_ ?_
  · go_wp2_with (first
      | (go_at_call 183; refine (HM.out _).mono ?_; rintro e w1 ⟨rfl, rfl⟩; rw [show okW 11 = true from rfl])
      | (go_at_call 229; refine HRD.out.mono ?_; rintro e w0 ⟨p, g, rfl, hp, hg, hr0, hb0⟩; have HI0 := Lib.hid (LInv.start 11 (bitsOf bs)); have HR0 := Lib.hid (RdInv.start 11 hr0 hb0 hp); clear hr0 hb0))
    go_step3
    rcases Nat.lt_or_ge (8 * bs.length - ([] : List Nat).length * 12) 12 with hsh | hsh
    · have HE := Lib.hid (HI0.out.short (by rw [length_bitsOf]; exact hsh))
      go_wp2_with (go_at_call 278; refine (one_short_11 w0 HR0.out.rd hsh).mono ?_; rintro e w1 ⟨rfl, hb1⟩)
      simp only [Exit.jump]
      refine bodyPost_ret (v := .tuple #[.slice none 0 0, .int .i64 0, .int .i64 8]) (by simp [results, Try.results264, go_sem]) rfl ?_
      exact rd_bad (HE.out) (by decide) (bl_step HR0.out.below hb1)
    · have hle : ([] : List Nat).length * 12 + 12 ≤ 8 * bs.length := by omega
      have hns : ¬ (bitsOf bs).length - ([] : List Nat).length * (11 + 1) < 11 + 1 := by rw [length_bitsOf]; omega
      have HO := Lib.hid (one_ok_11 w0 HR0.out.rd hle)
      have HBT := Lib.hid (show bitAt bs (([] : List Nat).length * 12) = (bitsOf bs).getD (([] : List Nat).length * (11 + 1)) false from rfl)
      by_cases hz : val (seg bs (([] : List Nat).length * 12 + 1) 11) = 0
      · have HE := Lib.hid (HI0.out.nought hns hz)
        rw [if_pos hz] at HO
        clear hz
        go_wp2_with (go_at_call 278; refine HO.out.mono ?_; rintro e w1 ⟨rfl, hr1, ho1⟩)
        simp only [Exit.jump]
        refine bodyPost_ret (v := .tuple #[.slice none 0 0, .int .i64 0, .int .i64 3]) (by simp [results, Try.results264, go_sem]) rfl ?_
        exact rd_bad (HE.out) (by decide) (bl_step' HR0.out.below (get_below ho1 HR0.out.above HR0.out.size))
      · rw [if_neg hz] at HO
        have HZ := Lib.hid hz
        have HV := Lib.hid (show val (seg bs (([] : List Nat).length * 12 + 1) 11) = val (((bitsOf bs).drop (([] : List Nat).length * (11 + 1) + 1)).take 11) from rfl)
        have hnl : val (seg bs (([] : List Nat).length * 12 + 1) 11) < 32768 := by
          have h9 := val_lt (seg bs (([] : List Nat).length * 12 + 1) 11)
          rw [length_seg (by omega)] at h9
          omega
        generalize val (seg bs (([] : List Nat).length * 12 + 1) 11) = m at *
        generalize bitAt bs (([] : List Nat).length * 12) = bit at *
        clear hz
        have hl22 := HI0.out.1
        cases bit
        · have HE := Lib.hid (HI0.out.last hns (by rw [← HV.out]; exact HZ.out) HBT.out.symm)
          rw [← HV.out] at HE
          have HSZ := Lib.hid (size_up_11 (([] : List Nat).length + 1) (by omega) (by omega))
          have hcast : ((([] : List Nat).length + 1 : Nat) : Int) = (([] : List Nat).length : Int) + 1 := by omega
          rw [hcast] at HSZ
          clear hsh hle hns hl22
          cases hq : quiet (bitsOf bs) ((([] : List Nat).length + 1) * (11 + 1))
          · have HQ := Lib.hid hq
            clear hq
            go_wp2_with (first
          | (go_at_call 278; refine HO.out.mono ?_; rintro e w1 ⟨rfl, hr1, ho1⟩; obtain ⟨h2, g3, c3, w3, hr3, hinv⟩ := HR0.out.next m hr1 ho1; have HR3 := Lib.hid hr3; have HI3 := Lib.hid hinv; clear hr1 ho1 hr3 hinv h2)
          | (at_builtin; refine wpList_run rfl (.tmp 29) (.tmp 31) 30 rfl (.slice none 0 0) (.slice (some ⟨w1.heap.size, 0, none⟩) 1 1) (by rfl) (by rfl) HR3.out ?_)
              | (go_at_call 239; refine (HI3.out.rest_no HQ.out).mono ?_; rintro e w4 ⟨x4, rfl, hi4⟩))
            simp only [Exit.jump]
            refine bodyPost_ret (v := .tuple #[.slice none 0 0, .int .i64 0, .int .i64 3]) (by simp [results, Try.results264, go_sem]) rfl ?_
            exact rd_form HE.out HQ.out hi4.below
          · have HQ := Lib.hid hq
            clear hq
            go_wp2_with (first
          | (go_at_call 278; refine HO.out.mono ?_; rintro e w1 ⟨rfl, hr1, ho1⟩; obtain ⟨h2, g3, c3, w3, hr3, hinv⟩ := HR0.out.next m hr1 ho1; have HR3 := Lib.hid hr3; have HI3 := Lib.hid hinv; clear hr1 ho1 hr3 hinv h2)
          | (at_builtin; refine wpList_run rfl (.tmp 29) (.tmp 31) 30 rfl (.slice none 0 0) (.slice (some ⟨w1.heap.size, 0, none⟩) 1 1) (by rfl) (by rfl) HR3.out ?_)
              | (go_at_call 239; refine (HI3.out.rest_yes HQ.out).mono ?_; rintro e w4 ⟨x4, rfl, hi4⟩; have HI4 := Lib.hid hi4; clear hi4)
              | (go_at_call 221; refine (clip_t HI4.out.own).mono ?_; rintro e w5 ⟨⟨u, rfl, hu⟩, rfl⟩; have HU := Lib.hid hu; clear hu)
              | (go_at_call 121; refine (HSZ.out _).mono ?_; rintro e w6 ⟨rfl, rfl⟩))
            simp only [Exit.jump]
            refine bodyPost_ret (v := .tuple #[u, .int .i64 ((up ((([] : List Nat).length + 1) * (11 + 1)) : Nat) : Int), .int .i64 0]) (by simp [results, Try.results264, go_sem]) rfl ?_
            exact rd_good HE.out HQ.out HU.out HI4.out.below
    
        · rcases Nat.lt_or_ge ([] : List Nat).length 22 with h22 | h22
          · have HM2 := Lib.hid (HI0.out.more hns (by rw [← HV.out]; exact HZ.out) HBT.out.symm h22)
            rw [← HV.out] at HM2
            have hcnt : ((([] : List Nat).length : Int) + 1 == 23) = false := by first | (simp; done) | (simp; omega)
            clear hsh hle hns
            go_wp2_with (first
          | (go_at_call 278; refine HO.out.mono ?_; rintro e w1 ⟨rfl, hr1, ho1⟩; obtain ⟨h2, g3, c3, w3, hr3, hinv⟩ := HR0.out.next m hr1 ho1; have HR3 := Lib.hid hr3; have HI3 := Lib.hid hinv; clear hr1 ho1 hr3 hinv h2)
          | (at_builtin; refine wpList_run rfl (.tmp 29) (.tmp 31) 30 rfl (.slice none 0 0) (.slice (some ⟨w1.heap.size, 0, none⟩) 1 1) (by rfl) (by rfl) HR3.out ?_))
            go_step3
            refine ⟨rfl, p, g, ([] : List Nat) ++ [m], _, ?_, ?_, HM2, HI3⟩
            · simp only [Fr, Holes]
              repeat apply Exists.intro
              rfl
            · simp [sliceLen]
        
          · exact absurd h22 (by simp)
  · rintro a' w' ⟨p, g, acc, v, hfr, hsl, HI, HR⟩
    simp only [Fr, Holes] at hfr
    repeat (obtain ⟨_, hfr⟩ := hfr)
    clear HRD
    obtain ⟨Av, cv, rfl⟩ := HR.out.form
    clear hsl
    rcases Nat.lt_or_ge (8 * bs.length - acc.length * 12) 12 with hsh | hsh
    · have HE := Lib.hid (HI.out.short (by rw [length_bitsOf]; exact hsh))
      go_wp2_with (go_at_call 278; refine (one_short_11 w' HR.out.rd hsh).mono ?_; rintro e w1 ⟨rfl, hb1⟩)
      simp only [Exit.jump]
      refine bodyPost_ret (v := .tuple #[.slice none 0 0, .int .i64 0, .int .i64 8]) (by simp [results, Try.results264, go_sem]) rfl ?_
      exact rd_bad (HE.out) (by decide) (bl_step HR.out.below hb1)
    · have hle : acc.length * 12 + 12 ≤ 8 * bs.length := by omega
      have hns : ¬ (bitsOf bs).length - acc.length * (11 + 1) < 11 + 1 := by rw [length_bitsOf]; omega
      have HO := Lib.hid (one_ok_11 w' HR.out.rd hle)
      have HBT := Lib.hid (show bitAt bs (acc.length * 12) = (bitsOf bs).getD (acc.length * (11 + 1)) false from rfl)
      by_cases hz : val (seg bs (acc.length * 12 + 1) 11) = 0
      · have HE := Lib.hid (HI.out.nought hns hz)
        rw [if_pos hz] at HO
        clear hz
        go_wp2_with (go_at_call 278; refine HO.out.mono ?_; rintro e w1 ⟨rfl, hr1, ho1⟩)
        simp only [Exit.jump]
        refine bodyPost_ret (v := .tuple #[.slice none 0 0, .int .i64 0, .int .i64 3]) (by simp [results, Try.results264, go_sem]) rfl ?_
        exact rd_bad (HE.out) (by decide) (bl_step' HR.out.below (get_below ho1 HR.out.above HR.out.size))
      · rw [if_neg hz] at HO
        have HZ := Lib.hid hz
        have HV := Lib.hid (show val (seg bs (acc.length * 12 + 1) 11) = val (((bitsOf bs).drop (acc.length * (11 + 1) + 1)).take 11) from rfl)
        have hnl : val (seg bs (acc.length * 12 + 1) 11) < 32768 := by
          have h9 := val_lt (seg bs (acc.length * 12 + 1) 11)
          rw [length_seg (by omega)] at h9
          omega
        generalize val (seg bs (acc.length * 12 + 1) 11) = m at *
        generalize bitAt bs (acc.length * 12) = bit at *
        clear hz
        have hl22 := HI.out.1
        cases bit
        · have HE := Lib.hid (HI.out.last hns (by rw [← HV.out]; exact HZ.out) HBT.out.symm)
          rw [← HV.out] at HE
          have HSZ := Lib.hid (size_up_11 (acc.length + 1) (by omega) (by omega))
          have hcast : ((acc.length + 1 : Nat) : Int) = (acc.length : Int) + 1 := by omega
          rw [hcast] at HSZ
          clear hsh hle hns hl22
          cases hq : quiet (bitsOf bs) ((acc.length + 1) * (11 + 1))
          · have HQ := Lib.hid hq
            clear hq
            go_wp2_with (first
          | (go_at_call 278; refine HO.out.mono ?_; rintro e w1 ⟨rfl, hr1, ho1⟩; obtain ⟨h2, g3, c3, w3, hr3, hinv⟩ := HR.out.next m hr1 ho1; have HR3 := Lib.hid hr3; have HI3 := Lib.hid hinv; clear hr1 ho1 hr3 hinv h2)
          | (at_builtin; refine wpList_run rfl (.tmp 29) (.tmp 31) 30 rfl (.slice Av acc.length cv) (.slice (some ⟨w1.heap.size, 0, none⟩) 1 1) (by rfl) (by rfl) HR3.out ?_)
              | (go_at_call 239; refine (HI3.out.rest_no HQ.out).mono ?_; rintro e w4 ⟨x4, rfl, hi4⟩))
            simp only [Exit.jump]
            refine bodyPost_ret (v := .tuple #[.slice none 0 0, .int .i64 0, .int .i64 3]) (by simp [results, Try.results264, go_sem]) rfl ?_
            exact rd_form HE.out HQ.out hi4.below
          · have HQ := Lib.hid hq
            clear hq
            go_wp2_with (first
          | (go_at_call 278; refine HO.out.mono ?_; rintro e w1 ⟨rfl, hr1, ho1⟩; obtain ⟨h2, g3, c3, w3, hr3, hinv⟩ := HR.out.next m hr1 ho1; have HR3 := Lib.hid hr3; have HI3 := Lib.hid hinv; clear hr1 ho1 hr3 hinv h2)
          | (at_builtin; refine wpList_run rfl (.tmp 29) (.tmp 31) 30 rfl (.slice Av acc.length cv) (.slice (some ⟨w1.heap.size, 0, none⟩) 1 1) (by rfl) (by rfl) HR3.out ?_)
              | (go_at_call 239; refine (HI3.out.rest_yes HQ.out).mono ?_; rintro e w4 ⟨x4, rfl, hi4⟩; have HI4 := Lib.hid hi4; clear hi4)
              | (go_at_call 221; refine (clip_t HI4.out.own).mono ?_; rintro e w5 ⟨⟨u, rfl, hu⟩, rfl⟩; have HU := Lib.hid hu; clear hu)
              | (go_at_call 121; refine (HSZ.out _).mono ?_; rintro e w6 ⟨rfl, rfl⟩))
            simp only [Exit.jump]
            refine bodyPost_ret (v := .tuple #[u, .int .i64 ((up ((acc.length + 1) * (11 + 1)) : Nat) : Int), .int .i64 0]) (by simp [results, Try.results264, go_sem]) rfl ?_
            exact rd_good HE.out HQ.out HU.out HI4.out.below
    
        · rcases Nat.lt_or_ge acc.length 22 with h22 | h22
          · have HM2 := Lib.hid (HI.out.more hns (by rw [← HV.out]; exact HZ.out) HBT.out.symm h22)
            rw [← HV.out] at HM2
            have hcnt : ((acc.length : Int) + 1 == 23) = false := by first | (simp; done) | (simp; omega)
            clear hsh hle hns
            go_wp2_with (first
          | (go_at_call 278; refine HO.out.mono ?_; rintro e w1 ⟨rfl, hr1, ho1⟩; obtain ⟨h2, g3, c3, w3, hr3, hinv⟩ := HR.out.next m hr1 ho1; have HR3 := Lib.hid hr3; have HI3 := Lib.hid hinv; clear hr1 ho1 hr3 hinv h2)
          | (at_builtin; refine wpList_run rfl (.tmp 29) (.tmp 31) 30 rfl (.slice Av acc.length cv) (.slice (some ⟨w1.heap.size, 0, none⟩) 1 1) (by rfl) (by rfl) HR3.out ?_))
            go_step3
            refine ⟨rfl, ⟨p, g, acc ++ [m], _, ?_, ?_, HM2, HI3⟩, ?_⟩
            · simp only [Fr, Holes]
              repeat apply Exists.intro
              rfl
            · simp [sliceLen]
            · show 23 - sliceLen _ < 23 - sliceLen _
              simp [sliceLen]
              omega
    
          · have HE := Lib.hid (HI.out.long hns (by rw [← HV.out]; exact HZ.out) HBT.out.symm (by omega))
            have hcnt : ((acc.length : Int) + 1 == 23) = true := by simp; omega
            clear hsh hle hns
            go_wp2_with (first
          | (go_at_call 278; refine HO.out.mono ?_; rintro e w1 ⟨rfl, hr1, ho1⟩; obtain ⟨h2, g3, c3, w3, hr3, hinv⟩ := HR.out.next m hr1 ho1; have HR3 := Lib.hid hr3; have HI3 := Lib.hid hinv; clear hr1 ho1 hr3 hinv h2)
          | (at_builtin; refine wpList_run rfl (.tmp 29) (.tmp 31) 30 rfl (.slice Av acc.length cv) (.slice (some ⟨w1.heap.size, 0, none⟩) 1 1) (by rfl) (by rfl) HR3.out ?_))
            simp only [Exit.jump]
            refine bodyPost_ret (v := .tuple #[.slice none 0 0, .int .i64 0, .int .i64 2]) (by simp [results, Try.results264, go_sem]) rfl ?_
            exact rd_bad HE.out (by decide) HI3.out.below

set_option maxRecDepth 100000 in
set_option maxHeartbeats 6400000 in
theorem read_15 {A : Option Addr} {bs : List Nat} (n cap : Nat) (w : World) (hn : bs.length = n) (hm : n ≤ 8192) (hc : n ≤ cap) (hs : Src w A (bts bs)) (hb : ∀ b ∈ bs, b < 256) :
    Calls Try.prog 264 #[.slice A n cap, .int .i64 15] w (RdAns w bs 15) := by
  have HM := Lib.hid (fun W => lmay_any 15 W)
  have HRD := Lib.hid (read_any A cap bs w (by omega) (by omega) hs hb)
  rw [hn] at HRD
  have HN := Lib.hid hn
  clear hs hb hn
  go_enter Try.func264, Try.ntmps264
  go_wp2
  refine wp_scope_jumps 0 (fun a' w' => ∃ (p g : Nat) (acc : List Nat) (v : Value), Fr [some (.slice A n cap), some (.int .i64 15), none, none, some (.slice none 0 0), some (.int .i64 0), some (.int .i64 0), some (.pointer (some ⟨p, 0, none⟩)), some (v), none, none, none, none, none, none, none, none, none, none, none, none, none, none, none, none, none, none, none, none, none, none, none, none, none, none, none, none, none, none, none, none, none, none, none, none, none, none, none, none, none, none, none, none, none, none, none] a' ∧ sliceLen v = acc.length ∧ Hid (LInv 15 (bitsOf bs) acc) ∧ Hid (RdInv w.heap.size 15 p g bs acc v w w')) (fun a' _ => 23 - sliceLen (a'.tmps.getD 8 undef)) rfl ?_ ?_
  · go_wp2_with (first
      | (go_at_call 183; refine (HM.out _).mono ?_; rintro e w1 ⟨rfl, rfl⟩; rw [show okW 15 = true from rfl])
      | (go_at_call 229; refine HRD.out.mono ?_; rintro e w0 ⟨p, g, rfl, hp, hg, hr0, hb0⟩; have HI0 := Lib.hid (LInv.start 15 (bitsOf bs)); have HR0 := Lib.hid (RdInv.start 15 hr0 hb0 hp); clear hr0 hb0))
    go_step3
    rcases Nat.lt_or_ge (8 * bs.length - ([] : List Nat).length * 16) 16 with hsh | hsh
    · have HE := Lib.hid (HI0.out.short (by rw [length_bitsOf]; exact hsh))
      go_wp2_with (go_at_call 278; refine (one_short_15 w0 HR0.out.rd hsh).mono ?_; rintro e w1 ⟨rfl, hb1⟩)
      simp only [Exit.jump]
      refine bodyPost_ret (v := .tuple #[.slice none 0 0, .int .i64 0, .int .i64 8]) (by simp [results, Try.results264, go_sem]) rfl ?_
      exact rd_bad (HE.out) (by decide) (bl_step HR0.out.below hb1)
    · have hle : ([] : List Nat).length * 16 + 16 ≤ 8 * bs.length := by omega
      have hns : ¬ (bitsOf bs).length - ([] : List Nat).length * (15 + 1) < 15 + 1 := by rw [length_bitsOf]; omega
      have HO := Lib.hid (one_ok_15 w0 HR0.out.rd hle)
      have HBT := Lib.hid (show bitAt bs (([] : List Nat).length * 16) = (bitsOf bs).getD (([] : List Nat).length * (15 + 1)) false from rfl)
      by_cases hz : val (seg bs (([] : List Nat).length * 16 + 1) 15) = 0
      · have HE := Lib.hid (HI0.out.nought hns hz)
        rw [if_pos hz] at HO
        clear hz
        go_wp2_with (go_at_call 278; refine HO.out.mono ?_; rintro e w1 ⟨rfl, hr1, ho1⟩)
        simp only [Exit.jump]
        refine bodyPost_ret (v := .tuple #[.slice none 0 0, .int .i64 0, .int .i64 3]) (by simp [results, Try.results264, go_sem]) rfl ?_
        exact rd_bad (HE.out) (by decide) (bl_step' HR0.out.below (get_below ho1 HR0.out.above HR0.out.size))
      · rw [if_neg hz] at HO
        have HZ := Lib.hid hz
        have HV := Lib.hid (show val (seg bs (([] : List Nat).length * 16 + 1) 15) = val (((bitsOf bs).drop (([] : List Nat).length * (15 + 1) + 1)).take 15) from rfl)
        have hnl : val (seg bs (([] : List Nat).length * 16 + 1) 15) < 32768 := by
          have h9 := val_lt (seg bs (([] : List Nat).length * 16 + 1) 15)
          rw [length_seg (by omega)] at h9
          omega
        generalize val (seg bs (([] : List Nat).length * 16 + 1) 15) = m at *
        generalize bitAt bs (([] : List Nat).length * 16) = bit at *
        clear hz
        have hl22 := HI0.out.1
        cases bit
        · have HE := Lib.hid (HI0.out.last hns (by rw [← HV.out]; exact HZ.out) HBT.out.symm)
          rw [← HV.out] at HE
          have HSZ := Lib.hid (size_up_15 (([] : List Nat).length + 1) (by omega) (by omega))
          have hcast : ((([] : List Nat).length + 1 : Nat) : Int) = (([] : List Nat).length : Int) + 1 := by omega
          rw [hcast] at HSZ
          clear hsh hle hns hl22
          cases hq : quiet (bitsOf bs) ((([] : List Nat).length + 1) * (15 + 1))
          · have HQ := Lib.hid hq
            clear hq
            go_wp2_with (first
          | (go_at_call 278; refine HO.out.mono ?_; rintro e w1 ⟨rfl, hr1, ho1⟩; obtain ⟨h2, g3, c3, w3, hr3, hinv⟩ := HR0.out.next m hr1 ho1; have HR3 := Lib.hid hr3; have HI3 := Lib.hid hinv; clear hr1 ho1 hr3 hinv h2)
          | (at_builtin; refine wpList_run rfl (.tmp 29) (.tmp 31) 30 rfl (.slice none 0 0) (.slice (some ⟨w1.heap.size, 0, none⟩) 1 1) (by rfl) (by rfl) HR3.out ?_)
              | (go_at_call 239; refine (HI3.out.rest_no HQ.out).mono ?_; rintro e w4 ⟨x4, rfl, hi4⟩))
            simp only [Exit.jump]
            refine bodyPost_ret (v := .tuple #[.slice none 0 0, .int .i64 0, .int .i64 3]) (by simp [results, Try.results264, go_sem]) rfl ?_
            exact rd_form HE.out HQ.out hi4.below
          · have HQ := Lib.hid hq
            clear hq
            go_wp2_with (first
          | (go_at_call 278; refine HO.out.mono ?_; rintro e w1 ⟨rfl, hr1, ho1⟩; obtain ⟨h2, g3, c3, w3, hr3, hinv⟩ := HR0.out.next m hr1 ho1; have HR3 := Lib.hid hr3; have HI3 := Lib.hid hinv; clear hr1 ho1 hr3 hinv h2)
          | (at_builtin; refine wpList_run rfl (.tmp 29) (.tmp 31) 30 rfl (.slice none 0 0) (.slice (some ⟨w1.heap.size, 0, none⟩) 1 1) (by rfl) (by rfl) HR3.out ?_)
              | (go_at_call 239; refine (HI3.out.rest_yes HQ.out).mono ?_; rintro e w4 ⟨x4, rfl, hi4⟩; have HI4 := Lib.hid hi4; clear hi4)
              | (go_at_call 221; refine (clip_t HI4.out.own).mono ?_; rintro e w5 ⟨⟨u, rfl, hu⟩, rfl⟩; have HU := Lib.hid hu; clear hu)
              | (go_at_call 121; refine (HSZ.out _).mono ?_; rintro e w6 ⟨rfl, rfl⟩))
            simp only [Exit.jump]
            refine bodyPost_ret (v := .tuple #[u, .int .i64 ((up ((([] : List Nat).length + 1) * (15 + 1)) : Nat) : Int), .int .i64 0]) (by simp [results, Try.results264, go_sem]) rfl ?_
            exact rd_good HE.out HQ.out HU.out HI4.out.below
    
        · rcases Nat.lt_or_ge ([] : List Nat).length 22 with h22 | h22
          · have HM2 := Lib.hid (HI0.out.more hns (by rw [← HV.out]; exact HZ.out) HBT.out.symm h22)
            rw [← HV.out] at HM2
            have hcnt : ((([] : List Nat).length : Int) + 1 == 23) = false := by first | (simp; done) | (simp; omega)
            clear hsh hle hns
            go_wp2_with (first
          | (go_at_call 278; refine HO.out.mono ?_; rintro e w1 ⟨rfl, hr1, ho1⟩; obtain ⟨h2, g3, c3, w3, hr3, hinv⟩ := HR0.out.next m hr1 ho1; have HR3 := Lib.hid hr3; have HI3 := Lib.hid hinv; clear hr1 ho1 hr3 hinv h2)
          | (at_builtin; refine wpList_run rfl (.tmp 29) (.tmp 31) 30 rfl (.slice none 0 0) (.slice (some ⟨w1.heap.size, 0, none⟩) 1 1) (by rfl) (by rfl) HR3.out ?_))
            go_step3
            refine ⟨rfl, p, g, ([] : List Nat) ++ [m], _, ?_, ?_, HM2, HI3⟩
            · simp only [Fr, Holes]
              repeat apply Exists.intro
              rfl
            · simp [sliceLen]
        
          · exact absurd h22 (by simp)
  · rintro a' w' ⟨p, g, acc, v, hfr, hsl, HI, HR⟩
    simp only [Fr, Holes] at hfr
    repeat (obtain ⟨_, hfr⟩ := hfr)
    clear HRD
    obtain ⟨Av, cv, rfl⟩ := HR.out.form
    clear hsl
    rcases Nat.lt_or_ge (8 * bs.length - acc.length * 16) 16 with hsh | hsh
    · have HE := Lib.hid (HI.out.short (by rw [length_bitsOf]; exact hsh))
      go_wp2_with (go_at_call 278; refine (one_short_15 w' HR.out.rd hsh).mono ?_; rintro e w1 ⟨rfl, hb1⟩)
      simp only [Exit.jump]
      refine bodyPost_ret (v := .tuple #[.slice none 0 0, .int .i64 0, .int .i64 8]) (by simp [results, Try.results264, go_sem]) rfl ?_
      exact rd_bad (HE.out) (by decide) (bl_step HR.out.below hb1)
    · have hle : acc.length * 16 + 16 ≤ 8 * bs.length := by omega
      have hns : ¬ (bitsOf bs).length - acc.length * (15 + 1) < 15 + 1 := by rw [length_bitsOf]; omega
      have HO := Lib.hid (one_ok_15 w' HR.out.rd hle)
      have HBT := Lib.hid (show bitAt bs (acc.length * 16) = (bitsOf bs).getD (acc.length * (15 + 1)) false from rfl)
      by_cases hz : val (seg bs (acc.length * 16 + 1) 15) = 0
      · have HE := Lib.hid (HI.out.nought hns hz)
        rw [if_pos hz] at HO
        clear hz
        go_wp2_with (go_at_call 278; refine HO.out.mono ?_; rintro e w1 ⟨rfl, hr1, ho1⟩)
        simp only [Exit.jump]
        refine bodyPost_ret (v := .tuple #[.slice none 0 0, .int .i64 0, .int .i64 3]) (by simp [results, Try.results264, go_sem]) rfl ?_
        exact rd_bad (HE.out) (by decide) (bl_step' HR.out.below (get_below ho1 HR.out.above HR.out.size))
      · rw [if_neg hz] at HO
        have HZ := Lib.hid hz
        have HV := Lib.hid (show val (seg bs (acc.length * 16 + 1) 15) = val (((bitsOf bs).drop (acc.length * (15 + 1) + 1)).take 15) from rfl)
        have hnl : val (seg bs (acc.length * 16 + 1) 15) < 32768 := by
          have h9 := val_lt (seg bs (acc.length * 16 + 1) 15)
          rw [length_seg (by omega)] at h9
          omega
        generalize val (seg bs (acc.length * 16 + 1) 15) = m at *
        generalize bitAt bs (acc.length * 16) = bit at *
        clear hz
        have hl22 := HI.out.1
        cases bit
        · have HE := Lib.hid (HI.out.last hns (by rw [← HV.out]; exact HZ.out) HBT.out.symm)
          rw [← HV.out] at HE
          have HSZ := Lib.hid (size_up_15 (acc.length + 1) (by omega) (by omega))
          have hcast : ((acc.length + 1 : Nat) : Int) = (acc.length : Int) + 1 := by omega
          rw [hcast] at HSZ
          clear hsh hle hns hl22
          cases hq : quiet (bitsOf bs) ((acc.length + 1) * (15 + 1))
          · have HQ := Lib.hid hq
            clear hq
            go_wp2_with (first
          | (go_at_call 278; refine HO.out.mono ?_; rintro e w1 ⟨rfl, hr1, ho1⟩; obtain ⟨h2, g3, c3, w3, hr3, hinv⟩ := HR.out.next m hr1 ho1; have HR3 := Lib.hid hr3; have HI3 := Lib.hid hinv; clear hr1 ho1 hr3 hinv h2)
          | (at_builtin; refine wpList_run rfl (.tmp 29) (.tmp 31) 30 rfl (.slice Av acc.length cv) (.slice (some ⟨w1.heap.size, 0, none⟩) 1 1) (by rfl) (by rfl) HR3.out ?_)
              | (go_at_call 239; refine (HI3.out.rest_no HQ.out).mono ?_; rintro e w4 ⟨x4, rfl, hi4⟩))
            simp only [Exit.jump]
            refine bodyPost_ret (v := .tuple #[.slice none 0 0, .int .i64 0, .int .i64 3]) (by simp [results, Try.results264, go_sem]) rfl ?_
            exact rd_form HE.out HQ.out hi4.below
          · have HQ := Lib.hid hq
            clear hq
            go_wp2_with (first
          | (go_at_call 278; refine HO.out.mono ?_; rintro e w1 ⟨rfl, hr1, ho1⟩; obtain ⟨h2, g3, c3, w3, hr3, hinv⟩ := HR.out.next m hr1 ho1; have HR3 := Lib.hid hr3; have HI3 := Lib.hid hinv; clear hr1 ho1 hr3 hinv h2)
          | (at_builtin; refine wpList_run rfl (.tmp 29) (.tmp 31) 30 rfl (.slice Av acc.length cv) (.slice (some ⟨w1.heap.size, 0, none⟩) 1 1) (by rfl) (by rfl) HR3.out ?_)
              | (go_at_call 239; refine (HI3.out.rest_yes HQ.out).mono ?_; rintro e w4 ⟨x4, rfl, hi4⟩; have HI4 := Lib.hid hi4; clear hi4)
              | (go_at_call 221; refine (clip_t HI4.out.own).mono ?_; rintro e w5 ⟨⟨u, rfl, hu⟩, rfl⟩; have HU := Lib.hid hu; clear hu)
              | (go_at_call 121; refine (HSZ.out _).mono ?_; rintro e w6 ⟨rfl, rfl⟩))
            simp only [Exit.jump]
            refine bodyPost_ret (v := .tuple #[u, .int .i64 ((up ((acc.length + 1) * (15 + 1)) : Nat) : Int), .int .i64 0]) (by simp [results, Try.results264, go_sem]) rfl ?_
            exact rd_good HE.out HQ.out HU.out HI4.out.below
    
        · rcases Nat.lt_or_ge acc.length 22 with h22 | h22
          · have HM2 := Lib.hid (HI.out.more hns (by rw [← HV.out]; exact HZ.out) HBT.out.symm h22)
            rw [← HV.out] at HM2
            have hcnt : ((acc.length : Int) + 1 == 23) = false := by first | (simp; done) | (simp; omega)
            clear hsh hle hns
            go_wp2_with (first
          | (go_at_call 278; refine HO.out.mono ?_; rintro e w1 ⟨rfl, hr1, ho1⟩; obtain ⟨h2, g3, c3, w3, hr3, hinv⟩ := HR.out.next m hr1 ho1; have HR3 := Lib.hid hr3; have HI3 := Lib.hid hinv; clear hr1 ho1 hr3 hinv h2)
          | (at_builtin; refine wpList_run rfl (.tmp 29) (.tmp 31) 30 rfl (.slice Av acc.length cv) (.slice (some ⟨w1.heap.size, 0, none⟩) 1 1) (by rfl) (by rfl) HR3.out ?_))
            go_step3
            refine ⟨rfl, ⟨p, g, acc ++ [m], _, ?_, ?_, HM2, HI3⟩, ?_⟩
            · simp only [Fr, Holes]
              repeat apply Exists.intro
              rfl
            · simp [sliceLen]
            · show 23 - sliceLen _ < 23 - sliceLen _
              simp [sliceLen]
              omega
    
          · have HE := Lib.hid (HI.out.long hns (by rw [← HV.out]; exact HZ.out) HBT.out.symm (by omega))
            have hcnt : ((acc.length : Int) + 1 == 23) = true := by simp; omega
            clear hsh hle hns
            go_wp2_with (first
          | (go_at_call 278; refine HO.out.mono ?_; rintro e w1 ⟨rfl, hr1, ho1⟩; obtain ⟨h2, g3, c3, w3, hr3, hinv⟩ := HR.out.next m hr1 ho1; have HR3 := Lib.hid hr3; have HI3 := Lib.hid hinv; clear hr1 ho1 hr3 hinv h2)
          | (at_builtin; refine wpList_run rfl (.tmp 29) (.tmp 31) 30 rfl (.slice Av acc.length cv) (.slice (some ⟨w1.heap.size, 0, none⟩) 1 1) (by rfl) (by rfl) HR3.out ?_))
            simp only [Exit.jump]
            refine bodyPost_ret (v := .tuple #[.slice none 0 0, .int .i64 0, .int .i64 2]) (by simp [results, Try.results264, go_sem]) rfl ?_
            exact rd_bad HE.out (by decide) HI3.out.below

set_option maxHeartbeats 400000 in
theorem read_kind (A : Option Addr) (n cap : Nat) {x : Int} (w : World) (h : okW x = false) :
    Calls Try.prog 264 #[.slice A n cap, .int .i64 x] w fun e w' => e = .returned (.tuple #[.slice none 0 0, .int .i64 0, .int .i64 9]) ∧ w = w' := by
  have HM := Lib.hid (lmay_any x w)
  rw [h] at HM
  clear h
  go_enter Try.func264, Try.ntmps264
  go_wp2
  refine wp_scope_jumps 0 (fun _ _ => False) (fun _ _ => 0) rfl ?_ ?_
  · go_wp2_with (go_at_call 183; refine HM.out.mono ?_; rintro e w1 ⟨rfl, rfl⟩)
    simp only [Exit.jump]
    exact bodyPost_ret (v := .tuple #[.slice none 0 0, .int .i64 0, .int .i64 9]) (by simp [results, Try.results264, go_sem]) rfl ⟨rfl, rfl⟩
  · rintro a' w' h
    exact h.elim
end Go.Proofs.Ytbcjfdhphpckfaa
