/-
  What Rest tells of the bits up to the next byte; lists of ints by append; Clip.
-/
import Derived.Test.YtbcjfdhphpckfaaJPlainLives05
namespace Go.Proofs.Ytbcjfdhphpckfaa
open Go.RowKit

theorem first_one (f : Nat → Bool) : ∀ (d i : Nat), (∀ k, i ≤ k → k < i + d → f k = false) ∨ ∃ j, i ≤ j ∧ j < i + d ∧ f j = true ∧ ∀ k, i ≤ k → k < j → f k = false
  | 0, i => .inl fun k h1 h2 => by omega
  | d + 1, i => by
    rcases first_one f d i with h | ⟨j, h1, h2, h3, h4⟩
    · cases hf : f (i + d)
      · refine .inl fun k h1 h2 => ?_
        rcases Nat.lt_or_ge k (i + d) with h3 | h3
        · exact h k h1 h3
        · obtain rfl : k = i + d := by omega
          exact hf
      · exact .inr ⟨i + d, by omega, by omega, hf, fun k h1 h2 => h k h1 h2⟩
    · exact .inr ⟨j, h1, by omega, h3, h4⟩

set_option maxRecDepth 100000 in
set_option maxHeartbeats 1600000 in
theorem rest_form {p g : Nat} {bs : List Nat} {i : Nat} (w : World) (hr : RRep w p g bs i) (j : Nat) (hj1 : i ≤ j) (hj2 : j < 8 * up i) (hj3 : bitAt bs j = true) (h : ∀ k, i ≤ k → k < j → bitAt bs k = false) :
    Calls Try.prog 239 #[.pointer (some ⟨p, 0, none⟩)] w fun e w' => e = .returned (.tuple #[.slice none 0 0, .int .i64 3]) ∧ w = w' := by
  have hi := hr.2.2.1
  have hn := hr.2.2.2.1
  have hup : up i ≤ bs.length := by unfold up; omega
  have hc0 : w.cell? ⟨p, 0, none⟩ = some (.slice (some ⟨g, 0, none⟩) bs.length bs.length) := hr.1.read rfl
  have hc1 : w.cell? ⟨p, 1, none⟩ = some (.int .i64 i) := hr.1.read rfl
  have HR := Lib.hid hr
  have HH := Lib.hid h
  have HJ := Lib.hid hj3
  clear hr h hj3
  go_enter Try.func239, Try.ntmps239
  go_wp2
  refine wp_scope_jumps 0 (fun a' w' => ∃ k : Nat, i ≤ k ∧ k ≤ j ∧ Fr [some (.pointer (some ⟨p, 0, none⟩)), none, none, none, some (.int .i64 k), none, none, none, none, none, none, none, none, none, none, none, none, none, none, none, none, none, none, none, none, none, none, none, none, none, none, none, none, none, none, none, none] a' ∧ w' = w) (fun a' _ => 8 * up i - (intOf (a'.tmps.getD 4 undef)).toNat) rfl ?_ ?_
  · go_wp2
    go_step3
    have hb8 : ((i : Int) % 8 != 0) = true := by
      unfold up at hj2
      simp
      omega
    have hkl : i < 8 * bs.length := by omega
    rcases Nat.lt_or_ge i j with hlt | hge
    · have hbit := HH.out i (Nat.le_refl _) hlt
      go_wp2_with (go_at_call 262; refine (bit_any HR.out hkl).mono ?_; rintro e w1 ⟨rfl, rfl⟩; rw [hbit])
      go_step3
      refine ⟨rfl, i + 1, by omega, by omega, ?_, rfl⟩
      simp only [Fr, Holes]
      repeat apply Exists.intro
      rfl
    · obtain rfl : i = j := by omega
      have hbit := HJ.out
      go_wp2_with (go_at_call 262; refine (bit_any HR.out hkl).mono ?_; rintro e w1 ⟨rfl, rfl⟩; rw [hbit])
      simp only [Exit.jump]
      exact bodyPost_ret (v := .tuple #[.slice none 0 0, .int .i64 3]) (by simp [results, Try.results239, go_sem]) rfl ⟨rfl, rfl⟩
  · rintro a' w' ⟨k, hk0, hk1, hfr, rfl⟩
    simp only [Fr, Holes] at hfr
    repeat (obtain ⟨_, hfr⟩ := hfr)
    have hb8 : ((k : Int) % 8 != 0) = true := by
      unfold up at hj2
      simp
      omega
    have hkl : k < 8 * bs.length := by omega
    rcases Nat.lt_or_ge k j with hlt | hge
    · have hbit := HH.out k hk0 hlt
      go_wp2_with (go_at_call 262; refine (bit_any HR.out hkl).mono ?_; rintro e w1 ⟨rfl, rfl⟩; rw [hbit])
      go_step3
      refine ⟨rfl, ⟨k + 1, by omega, by omega, ?_, rfl⟩, ?_⟩
      · simp only [Fr, Holes]
        repeat apply Exists.intro
        rfl
      · simp [intOf]
        omega
    · obtain rfl : k = j := by omega
      have hbit := HJ.out
      go_wp2_with (go_at_call 262; refine (bit_any HR.out hkl).mono ?_; rintro e w1 ⟨rfl, rfl⟩; rw [hbit])
      simp only [Exit.jump]
      exact bodyPost_ret (v := .tuple #[.slice none 0 0, .int .i64 3]) (by simp [results, Try.results239, go_sem]) rfl ⟨rfl, rfl⟩

/-- Rest's error: are there only noughts up to the next byte? -/
theorem rest_er {p g : Nat} {bs : List Nat} {i : Nat} (w : World) (hr : RRep w p g bs i) :
    Calls Try.prog 239 #[.pointer (some ⟨p, 0, none⟩)] w fun e w' => ∃ x, e = .returned (.tuple #[x, .int .i64 (if quiet (bitsOf bs) i then 0 else 3)]) ∧ Only (fun k => k = p) w w' := by
  have hup : 8 * up i - i + i = 8 * up i := by unfold up; omega
  rcases first_one (bitAt bs) (8 * up i - i) i with h | ⟨j, h1, h2, h3, h4⟩
  · have h' : ∀ k, i ≤ k → k < 8 * up i → bitAt bs k = false := fun k hk1 hk2 => h k hk1 (by omega)
    have hq : quiet (bitsOf bs) i = true := quiet_iff.2 h'
    rw [hq]
    refine (rest_ok w hr h').mono ?_
    rintro e w' ⟨g', rfl, _, _, _, ho⟩
    exact ⟨_, rfl, ho⟩
  · have hq : quiet (bitsOf bs) i = false := by
      rw [← Bool.not_eq_true, quiet_iff]
      intro hh
      have := hh j h1 (by omega)
      rw [show (bitsOf bs).getD j false = bitAt bs j from rfl, h3] at this
      cases this
    rw [hq]
    refine (rest_form w hr j h1 (by omega) h3 h4).mono ?_
    rintro e w' ⟨rfl, rfl⟩
    exact ⟨_, rfl, Only.refl _ _⟩

/-- an append, at a plain region's list, whose run is known -/
theorem wpList_run {P : Program} {ops : Array Oper} {rest : List Oper} {o : Oper} {a : Act} {w : World} {Q : Exit → Act → World → Prop} (hgd : o.guard = none) (s x : Operand) (t : TypeId)
    (ho : o.op = .call { callee := .builtin .append, args := #[s, x], argTypes := #[t, t] }) (v u : Value) (hs : a.eval s = v) (hx : a.eval x = u) {v' : Value} {w' : World}
    (hr : (Builtin.append_ #[t, t] o.type #[v, u]).run P w = .ok v' w') (h : wpList P ops Q rest (a.put o.dst v') w') : wpList P ops Q (o :: rest) a w :=
  wpList_plain hgd fun _ hK => by
    unfold Oper.wp execOp
    simp only [ho, resolve, invoke, builtin, Sem.run_bind, Sem.run_pure, Result.andThen_ok, List.map_toArray, List.map_cons, List.map_nil, hs, hx, hr]
    exact hK _ _ h

theorem Try.info3 : (Try.prog.info? 3).map (fun i => (i.zero, i.size, i.bytes)) = some (some (.int .i64 0), 1, 8) := by kernel_rfl
theorem Try.under30 : Try.prog.underlying 30 = some (.slice 3) := by kernel_rfl

theorem int_tail {B : Nat} {W : World} {v : Value} {n : Nat} {xs : List Value} (hown : W.ownsRow B 3 1 v n xs) (hB : B ≤ W.heap.size) (x : Int) (hn : n ≤ 1000000) :
    ∃ g cap W', (Builtin.append_ #[30, 30] 30 #[v, .slice (some ⟨W.heap.size, 0, none⟩) 1 1]).run Try.prog (W.alloc (.cells #[.int .i64 x] 3)) = .ok (.slice (some ⟨g, 0, none⟩) (n + 1) cap) W' ∧
      W'.ownsRow B 3 1 (.slice (some ⟨g, 0, none⟩) (n + 1) cap) (n + 1) (xs ++ [.int .i64 x]) ∧ Only (fun k => v.ownBlock = some k) W W' := by
  obtain ⟨i0, hi, hi0, hi1, hi2⟩ := info_parts Try.info3
  obtain ⟨g, cap, w3, hr3, h2, h3, _, _⟩ := run_append_lies (P := Try.prog) (W.alloc (.cells #[.int .i64 x] 3)) 30 30 B 3 i0 _ 1 8 Try.under30 hi hi0 hi1 hi2 rfl (by omega) v n xs (hown.alloc _) ⟨W.heap.size, 0, none⟩ 1 1 [.int .i64 x] rfl
    (World.news_of_block (cs := #[.int .i64 x]) (heap_alloc_new W _)) (by intro u hu; simp at hu; rw [hu]; rfl) (by omega) (by unfold maxLen; omega) (by omega) (by simp; omega) _ rfl
  exact ⟨g, cap, w3, hr3, h2, ((Only.refl _ W).alloc (.cells #[.int .i64 x] 3)).grown h3 (fun k hk => .inl hk)⟩

/-- a list of ints of its own, without room behind -/
def Ints (B : Nat) (w : World) (v : Value) (l : List Int) : Prop :=
  ∃ A, v = .slice A l.length l.length ∧ ((A = none ∧ l = []) ∨ ∃ g cs, A = some ⟨g, 0, none⟩ ∧ B ≤ g ∧ Row w g 3 cs ∧ ∀ (i : Nat) (x : Int), l[i]? = some x → cs[i]? = some (Value.int .i64 x))

section
variable {B : Nat} {w v : World} {u : Value} {l : List Int}
theorem Ints.later (h : Ints B w u l) (hb : Below w.heap.size w v) : Ints B v u l := by
  obtain ⟨A, h1, h2⟩ := h
  refine ⟨A, h1, ?_⟩
  rcases h2 with h2 | ⟨g, cs, h3, h4, h5, h6⟩
  · exact .inl h2
  · exact .inr ⟨g, cs, h3, h4, h5.later hb, h6⟩
theorem Ints.down {B' : Nat} (h : Ints B w u l) (hb : B' ≤ B) : Ints B' w u l := by
  obtain ⟨A, h1, h2⟩ := h
  refine ⟨A, h1, ?_⟩
  rcases h2 with h2 | ⟨g, cs, h3, h4, h5, h6⟩
  · exact .inl h2
  · exact .inr ⟨g, cs, h3, by omega, h5, h6⟩
theorem Ints.read (h : Ints B w u l) : ∃ A, u = .slice A l.length l.length ∧ ∀ (i : Nat) (x : Int), l[i]? = some x → ∃ g, A = some ⟨g, 0, none⟩ ∧ B ≤ g ∧ w.cell? ⟨g, i, none⟩ = some (Value.int .i64 x) := by
  obtain ⟨A, h1, h2⟩ := h
  refine ⟨A, h1, fun i x hx => ?_⟩
  rcases h2 with ⟨_, rfl⟩ | ⟨g, cs, h3, h4, h5, h6⟩
  · simp at hx
  · exact ⟨g, h3, h4, h5.read (h6 i x hx)⟩
end

theorem clip_t {B : Nat} {W : World} {v : Value} {n : Nat} {l : List Int} (hown : W.ownsRow B 3 1 v n (l.map (fun x => Value.int .i64 x))) :
    Calls Try.prog 221 #[v] W fun e w' => (∃ u, e = .returned u ∧ Ints B W u l) ∧ W = w' := by
  have hn : l.length = n := by have := hown.1; simpa using this
  rcases hown.2 with ⟨rfl, h0⟩ | ⟨g, cap, cur, rfl, hb, hh, hc, hm, hsz, htk⟩
  · have hl : l = [] := List.eq_nil_of_length_eq_zero (by omega)
    subst hl
    clear hown hn h0
    go_enter Try.func221, Try.ntmps221
    go_wp2
    go_ret
    exact ⟨⟨_, rfl, none, rfl, .inl ⟨rfl, rfl⟩⟩, rfl⟩
  · have HI := Lib.hid (show Ints B W (.slice (some ⟨g, 0, none⟩) n n) l from ⟨_, by rw [hn], .inr ⟨g, cur, rfl, hb, hh, fun i x hx => by
      have h1 : (l.map (fun x => Value.int .i64 x))[i]? = some (.int .i64 x) := by rw [List.getElem?_map, hx]; rfl
      rw [← htk, List.getElem?_take] at h1
      split at h1
      · simpa using h1
      · cases h1⟩⟩)
    unfold maxLen at hm
    clear hown hn hh hsz htk hb
    go_enter Try.func221, Try.ntmps221
    go_wp2
    go_ret
    exact ⟨⟨_, rfl, HI.out⟩, rfl⟩
end Go.Proofs.Ytbcjfdhphpckfaa
