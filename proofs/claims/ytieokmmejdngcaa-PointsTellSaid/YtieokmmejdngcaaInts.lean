/-
  Lists of ints that a call makes by append; cut without room behind.
-/
import Derived.Test.YtieokmmejdngcaaTimerOps
namespace Go.Proofs.Ytieokmmejdngcaa
open Go.RowKit

/-- an append, at a plain region's list, whose run is known -/
theorem wpList_run {P : Program} {ops : Array Oper} {rest : List Oper} {o : Oper} {a : Act} {w : World} {Q : Exit → Act → World → Prop} (hgd : o.guard = none) (s x : Operand) (t : TypeId)
    (ho : o.op = .call { callee := .builtin .append, args := #[s, x], argTypes := #[t, t] }) (v u : Value) (hs : a.eval s = v) (hx : a.eval x = u) {v' : Value} {w' : World}
    (hr : (Builtin.append_ #[t, t] o.type #[v, u]).run P w = .ok v' w') (h : wpList P ops Q rest (a.put o.dst v') w') : wpList P ops Q (o :: rest) a w :=
  wpList_plain hgd fun _ hK => by
    unfold Oper.wp execOp
    simp only [ho, resolve, invoke, builtin, Sem.run_bind, Sem.run_pure, Result.andThen_ok, List.map_toArray, List.map_cons, List.map_nil, hs, hx, hr]
    exact hK _ _ h

theorem Try.info3 : (Try.prog.info? 3).map (fun i => (i.zero, i.size, i.bytes)) = some (some (.int .i64 0), 1, 8) := by kernel_rfl
theorem info_parts {P : Program} {e : TypeId} {z : Value} {size bytes : Nat} (h : (P.info? e).map (fun i => (i.zero, i.size, i.bytes)) = some (some z, size, bytes)) : ∃ i, P.info? e = some i ∧ i.zero = some z ∧ i.size = size ∧ i.bytes = bytes := by
  obtain ⟨i, hi, h⟩ := Option.map_eq_some_iff.1 h
  injection h with h1 h2
  injection h2 with h2 h3
  exact ⟨i, hi, h1, h2, h3⟩
theorem Try.under35 : Try.prog.underlying 35 = some (.slice 3) := by kernel_rfl

theorem int_tail {B : Nat} {W : World} {v : Value} {n : Nat} {xs : List Value} (hown : W.ownsRow B 3 1 v n xs) (hB : B ≤ W.heap.size) (x : Int) (hn : n ≤ 1000000) :
    ∃ g cap W', (Builtin.append_ #[35, 35] 35 #[v, .slice (some ⟨W.heap.size, 0, none⟩) 1 1]).run Try.prog (W.alloc (.cells #[.int .i64 x] 3)) = .ok (.slice (some ⟨g, 0, none⟩) (n + 1) cap) W' ∧
      W'.ownsRow B 3 1 (.slice (some ⟨g, 0, none⟩) (n + 1) cap) (n + 1) (xs ++ [.int .i64 x]) ∧ Only (fun k => v.ownBlock = some k) W W' := by
  obtain ⟨i0, hi, hi0, hi1, hi2⟩ := info_parts Try.info3
  obtain ⟨g, cap, w3, hr3, h2, h3, _, _⟩ := run_append_lies (P := Try.prog) (W.alloc (.cells #[.int .i64 x] 3)) 35 35 B 3 i0 _ 1 8 Try.under35 hi hi0 hi1 hi2 rfl (by omega) v n xs (hown.alloc _) ⟨W.heap.size, 0, none⟩ 1 1 [.int .i64 x] rfl
    (World.news_of_block (cs := #[.int .i64 x]) (heap_alloc_new W _)) (by intro u hu; simp at hu; rw [hu]; rfl) (by omega) (by unfold maxLen; omega) (by omega) (by simp; omega) _ rfl
  exact ⟨g, cap, w3, hr3, h2, ((Only.refl _ W).alloc (.cells #[.int .i64 x] 3)).grown h3 (fun k hk => .inl hk)⟩

/-- a list of ints of its own, without room behind -/
def Ints (B : Nat) (w : World) (v : Value) (l : List Int) : Prop :=
  ∃ A, v = .slice A l.length l.length ∧ ((A = none ∧ l = []) ∨ ∃ g cs, A = some ⟨g, 0, none⟩ ∧ B ≤ g ∧ Row w g 3 cs ∧ ∀ (i : Nat) (x : Int), l[i]? = some x → cs[i]? = some (Value.int .i64 x))

section
variable {B p : Nat} {w v : World} {u : Value} {l L : List Int}
theorem Ints.later (h : Ints B w u l) (hb : Below w.heap.size w v) : Ints B v u l := by
  obtain ⟨A, h1, h2⟩ := h
  refine ⟨A, h1, ?_⟩
  rcases h2 with h2 | ⟨g, cs, h3, h4, h5, h6⟩
  · exact .inl h2
  · exact .inr ⟨g, cs, h3, h4, h5.later hb, h6⟩
theorem Ints.down {B' : Nat} (h : Ints B w u l) (hb : B' ≤ B) : Ints B' w u l := by
  obtain ⟨A, h1, h2⟩ := h
  refine ⟨A, h1, ?_⟩
  rcases h2 with h2 | ⟨g, cs, h3, h4, h5, h6⟩
  · exact .inl h2
  · exact .inr ⟨g, cs, h3, by omega, h5, h6⟩
/-- what changes a block of another type leaves it -/
theorem Ints.only {t : TypeId} {cs : Array Value} (h : Ints B w u l) (ho : Only (isP p) w v) (hp : Row w p t cs) (ht : t ≠ 3) : Ints B v u l := by
  obtain ⟨A, h1, h2⟩ := h
  refine ⟨A, h1, ?_⟩
  rcases h2 with h2 | ⟨g, cs, h3, h4, h5, h6⟩
  · exact .inl h2
  · exact .inr ⟨g, cs, h3, h4, h5.only ho (fun e => by unfold isP at e; subst e; exact h5.apart hp (fun e => ht e.symm) rfl), h6⟩
theorem Ints.read (h : Ints B w u l) : ∃ A, u = .slice A l.length l.length ∧ ∀ (i : Nat) (x : Int), l[i]? = some x → ∃ g, A = some ⟨g, 0, none⟩ ∧ B ≤ g ∧ w.cell? ⟨g, i, none⟩ = some (Value.int .i64 x) := by
  obtain ⟨A, h1, h2⟩ := h
  refine ⟨A, h1, fun i x hx => ?_⟩
  rcases h2 with ⟨_, rfl⟩ | ⟨g, cs, h3, h4, h5, h6⟩
  · simp at hx
  · exact ⟨g, h3, h4, h5.read (h6 i x hx)⟩
end

theorem clip_t {B : Nat} {W : World} {v : Value} {n : Nat} {l : List Int} (hown : W.ownsRow B 3 1 v n (l.map (fun x => Value.int .i64 x))) :
    Calls Try.prog 38 #[v] W fun e w' => (∃ u, e = .returned u ∧ Ints B W u l) ∧ W = w' := by
  have hn : l.length = n := by have := hown.1; simpa using this
  rcases hown.2 with ⟨rfl, h0⟩ | ⟨g, cap, cur, rfl, hb, hh, hc, hm, hsz, htk⟩
  · have hl : l = [] := List.eq_nil_of_length_eq_zero (by omega)
    subst hl
    clear hown hn h0
    go_enter Try.func38, Try.ntmps38
    go_wp2
    go_ret
    exact ⟨⟨_, rfl, none, rfl, .inl ⟨rfl, rfl⟩⟩, rfl⟩
  · have HI := Lib.hid (show Ints B W (.slice (some ⟨g, 0, none⟩) n n) l from ⟨_, by rw [hn], .inr ⟨g, cur, rfl, hb, hh, fun i x hx => by
      have h1 : (l.map (fun x => Value.int .i64 x))[i]? = some (.int .i64 x) := by rw [List.getElem?_map, hx]; rfl
      rw [← htk, List.getElem?_take] at h1
      split at h1
      · simpa using h1
      · cases h1⟩⟩)
    unfold maxLen at hm
    clear hown hn hh hsz htk hb
    go_enter Try.func38, Try.ntmps38
    go_wp2
    go_ret
    exact ⟨⟨_, rfl, HI.out⟩, rfl⟩
end Go.Proofs.Ytieokmmejdngcaa
