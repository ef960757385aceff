/-
  queue: the code's waiting texts and the document's entries, plain: which texts wait, of the entries. The document's queue: a text that is not pushed. queue: the code's queue and the document's one together. queue: the code's queue and the document's one together: a text discarded, all cleared, the bytes, the numbers. queue: the code's queue and the document's one together: all cleared. queue: the code's queue and the document's one together: the first text, and its bytes taken. queue: the code's queue and the document's one together: the bytes that wait, and the numbers. law04: same, of two lists of numbers that hold the same. glue: what is held, what is lost, what is told: plain lists. glue: a glue in memory; its small calls. glue: a field comes. glue: a field comes, and what is whole is told. glue: what one field of a packet does. glue: all fields of a packet, one by one. glue: what may not be. glue: fields are put together. glue: what was told stays; literal fields. What a config is, and bytes that a queue keeps. queue: the code's queue and the document's one together: made; what an entry's bytes read as.
-/
import Derived.Test.YtjonkpdjhjobfaaJUmtxLives17
import Derived.Test.YtjonkpdjhjobfaaJUmtxLives15
import Derived.Test.YtjonkpdjhjobfaaJUmtxLives16
import Derived.Test.YtjonkpdjhjobfaaJUmtxLives09
import Derived.Test.YtjonkpdjhjobfaaJUmtxLives14
import Derived.Test.YtjonkpdjhjobfaaJUmtxLives08
import Derived.Test.YtjonkpdjhjobfaaJUmtxLives01
import Derived.Test.YtjonkpdjhjobfaaJUmtxLives06
namespace Go.Proofs.Ytjonkpdjhjobfaa
open Go.RowKit

/-- the entries that wait, each with its number, what of it is left, and whether some of it was taken -/
def live (k : Nat) : List Ent → List (Nat × List Nat × Bool)
  | [] => []
  | e :: r => if e.gone then live (k + 1) r else (k + 1, e.bs.drop e.tk, decide (0 < e.tk)) :: live (k + 1) r
def tx (ts : List Txt) : List (Nat × List Nat × Bool) := ts.map fun t => (t.id, t.bs, t.bg)
section
variable {E F : List Ent} {e : Ent} {k i n : Nat} {ts : List Txt}
theorem live_cons : live k (e :: E) = if e.gone then live (k + 1) E else (k + 1, e.bs.drop e.tk, decide (0 < e.tk)) :: live (k + 1) E := rfl
theorem live_app : ∀ (E F : List Ent) (k : Nat), live k (E ++ F) = live k E ++ live (k + E.length) F
  | [], F, k => by simp [live]
  | e :: r, F, k => by
    have ih := live_app r F (k + 1)
    have h1 : k + 1 + r.length = k + (r.length + 1) := by omega
    rw [List.cons_append, live_cons, live_cons, ih, List.length_cons, h1]
    split <;> rfl
theorem live_snoc (l : List Nat) (g c : Nat) : live k (E ++ [⟨g, c, l, 0, false⟩]) = live k E ++ [(k + E.length + 1, l, false)] := by
  rw [live_app]
  simp [live]
theorem live_gone (h : ∀ e ∈ E, e.gone = true) : ∀ k, live k E = [] := by
  induction E with
  | nil => intro k; rfl
  | cons e r ih =>
    intro k
    unfold live
    rw [if_pos (h e List.mem_cons_self)]
    exact ih (fun e' he => h e' (List.mem_cons_of_mem _ he)) (k + 1)
theorem live_drop : ∀ (E : List Ent) (i k : Nat), (∀ j e, j < i → E[j]? = some e → e.gone = true) → i ≤ E.length → live k E = live (k + i) (E.drop i)
  | E, 0, k, _, _ => by simp
  | [], i + 1, k, _, h => by simp at h
  | e :: r, i + 1, k, h, hl => by
    have h0 := h 0 e (by omega) rfl
    have ih := live_drop r i (k + 1) (fun j e' hj he => h (j + 1) e' (by omega) he) (by simp at hl; omega)
    rw [List.drop_succ_cons, show k + (i + 1) = k + 1 + i by omega, ← ih]
    show (if e.gone then live (k + 1) r else _) = _
    rw [if_pos h0]
theorem fE_ahead : ∀ j e, j < fE E → E[j]? = some e → e.gone = true := by
  intro j e hj he
  unfold fE at hj
  have h1 := List.not_of_lt_findIdx hj
  obtain ⟨a, b⟩ := List.getElem?_eq_some_iff.1 he
  rw [b] at h1
  simpa using h1
theorem fE_open (h : E[fE E]? = some e) : e.gone = false := by
  obtain ⟨a, b⟩ := List.getElem?_eq_some_iff.1 h
  have a2 : List.findIdx (fun e : Ent => !e.gone) E < E.length := a
  have h1 := List.findIdx_getElem (w := a2)
  have h2 : E[List.findIdx (fun e : Ent => !e.gone) E] = e := b
  rw [h2] at h1
  simpa using h1
theorem live_none (h : fE E = E.length) : live k E = [] :=
  live_gone (fun e he => by
    obtain ⟨j, hj, rfl⟩ := List.mem_iff_getElem.1 he
    exact fE_ahead j _ (by omega) (List.getElem?_eq_getElem hj)) k
theorem live_first (h : E[fE E]? = some e) : live k E = (k + fE E + 1, e.bs.drop e.tk, decide (0 < e.tk)) :: live (k + fE E + 1) (E.drop (fE E + 1)) := by
  obtain ⟨a, b⟩ := List.getElem?_eq_some_iff.1 h
  rw [live_drop E (fE E) k fE_ahead fE_le, List.drop_eq_getElem_cons a, b]
  show (if e.gone then _ else _) = _
  rw [fE_open h]
  rfl
theorem live_set (h : E[fE E]? = some e) (e' : Ent) : live k (E.set (fE E) e') = (if e'.gone then [] else [(k + fE E + 1, e'.bs.drop e'.tk, decide (0 < e'.tk))]) ++ live (k + fE E + 1) (E.drop (fE E + 1)) := by
  obtain ⟨a, b⟩ := List.getElem?_eq_some_iff.1 h
  have hset : E.set (fE E) e' = E.take (fE E) ++ e' :: E.drop (fE E + 1) := List.set_eq_take_append_cons_drop ▸ (by rw [if_pos a])
  rw [hset, live_app, live_gone (E := E.take (fE E)) (fun e he => by
    obtain ⟨j, hj, rfl⟩ := List.mem_iff_getElem.1 he
    rw [List.getElem_take]
    rw [List.length_take] at hj
    exact fE_ahead j _ (by omega) (List.getElem?_eq_getElem (by omega))), List.nil_append, List.length_take, Nat.min_eq_left (by omega)]
  show (if e'.gone then _ else _) = _
  split <;> rfl
theorem live_bytes : ∀ (E : List Ent) (k : Nat), ((live k E).map fun p => p.2.1.length).sum = (E.map fun e => if e.gone then 0 else e.bs.length - e.tk).sum
  | [], _ => rfl
  | e :: r, k => by
    have ih := live_bytes r (k + 1)
    rw [live_cons, List.map_cons, List.sum_cons]
    split
    · rw [ih]; omega
    · rw [List.map_cons, List.sum_cons, ih, List.length_drop]
theorem byk_live : byk E E.length = ((live 0 E).map fun p => p.2.1.length).sum := by
  rw [live_bytes]
  unfold byk
  rw [List.take_length]
theorem bytes_tx : bytesF ts = ((tx ts).map fun p => p.2.1.length).sum := by
  induction ts with
  | nil => rfl
  | cons t r ih =>
    rw [bytesF_cons, ih]
    simp [tx]
theorem idk_live : ∀ k, k ≤ E.length → idk E k = (live 0 (E.take k)).map Prod.fst
  | 0, _ => by simp [idk, live]
  | k + 1, h => by
    have he : E[k]? = some E[k] := List.getElem?_eq_getElem (by omega)
    rw [idk_succ he, idk_live k (by omega), List.take_add_one, he, Option.toList_some, live_app, List.map_append, live_cons]
    congr 1
    simp only [Nat.zero_add, List.length_take, Nat.min_eq_left (show k ≤ E.length by omega)]
    split
    · rfl
    · rfl
theorem ids_live : idk E E.length = (live 0 E).map Prod.fst := by
  rw [idk_live _ (Nat.le_refl _), List.take_length]
theorem live_id : ∀ (E : List Ent) (k : Nat) (p : Nat × List Nat × Bool), p ∈ live k E → k < p.1 ∧ p.1 ≤ k + E.length
  | [], _, _, h => by cases h
  | e :: r, k, p, h => by
    have ih := live_id r (k + 1) p
    rw [live_cons] at h
    rw [List.length_cons]
    split at h
    · have := ih h; omega
    · rcases List.mem_cons.1 h with rfl | h
      · exact ⟨by simp, by simp⟩
      · have := ih h; omega
theorem live_parts (hn : 1 ≤ n) (h : E[n - 1]? = some e) : live 0 E = live 0 (E.take (n - 1)) ++ ((if e.gone then [] else [(n, e.bs.drop e.tk, decide (0 < e.tk))]) ++ live n (E.drop n)) := by
  obtain ⟨a, b⟩ := List.getElem?_eq_some_iff.1 h
  have e1 : E = E.take (n - 1) ++ e :: E.drop n := by
    have h1 := List.take_append_drop (n - 1) E
    rw [List.drop_eq_getElem_cons a, b, show n - 1 + 1 = n by omega] at h1
    exact h1.symm
  have e2 : 0 + (E.take (n - 1)).length + 1 = n := by rw [List.length_take]; omega
  conv => lhs; rw [e1]
  rw [live_app, live_cons, e2]
  split <;> rfl
theorem live_erase (hn : 1 ≤ n) (h : E[n - 1]? = some e) (e' : Ent) (hg : e'.gone = true) : live 0 (E.set (n - 1) e') = live 0 (E.take (n - 1)) ++ live n (E.drop n) := by
  obtain ⟨a, b⟩ := List.getElem?_eq_some_iff.1 h
  have h1 := live_parts (E := E.set (n - 1) e') hn (e := e') (by rw [List.getElem?_set_self a])
  rw [if_pos hg, List.nil_append, List.take_set_of_le (Nat.le_refl _), List.drop_set_of_lt (by omega)] at h1
  exact h1
theorem placeF_tx (id : Nat) (ts : List Txt) : placeF id ts = (tx ts).findIdx fun p => p.1 == id := by
  unfold placeF tx
  rw [List.findIdx_map]
  rfl
theorem find_part {A C : List (Nat × List Nat × Bool)} {id : Nat} (h : ∀ p ∈ A, p.1 ≠ id) : (A ++ C).findIdx (fun p => p.1 == id) = A.length + C.findIdx (fun p => p.1 == id) := by
  induction A with
  | nil => simp
  | cons p r ih =>
    rw [List.cons_append, List.findIdx_cons]
    have h1 : (p.1 == id) = false := by simpa using h p List.mem_cons_self
    rw [h1, ih (fun q hq => h q (List.mem_cons_of_mem _ hq)), List.length_cons]
    simp
    omega
end
end Go.Proofs.Ytjonkpdjhjobfaa
namespace Go.Proofs.Ytjonkpdjhjobfaa
open Go.RowKit

section
variable {w v : World} {y B : Nat} {room : Int} {E : List Ent} {AL AT AG : Option Addr} {cL cT cG : Nat}
theorem rq_push_arg (A : Option Addr) (c : Nat) (w : World) : Calls Try.prog 19 #[.pointer (some ⟨y, 0, none⟩), .slice A 0 c] w fun e w' => e = .returned (.tuple #[.int .u64 0, .int .i64 1]) ∧ Below w.heap.size w w' := by
  go_enter Try.func19, Try.ntmps19
  go_wp2
  go_ret2
  exact ⟨rfl, Below.refl _ _⟩
theorem rq_push_long (A : Option Addr) (n c : Nat) (w : World) (hn : 1000 < n) : Calls Try.prog 19 #[.pointer (some ⟨y, 0, none⟩), .slice A n c] w fun e w' => e = .returned (.tuple #[.int .u64 0, .int .i64 2]) ∧ Below w.heap.size w w' := by
  have h0 : ((n : Int) == 0) = false := by simp; omega
  have h1 : (1000 : Int) < n := by omega
  go_enter Try.func19, Try.ntmps19
  go_wp2
  go_ret2
  exact ⟨rfl, Below.refl _ _⟩
set_option maxRecDepth 100000 in
set_option maxHeartbeats 3200000 in
theorem rq_push_many (A : Option Addr) (n c : Nat) (h : RQ w y B room E) (hn : n ≤ 1000) (hn0 : 0 < n) (hm : 64 ≤ (idk E E.length).length) : Calls Try.prog 19 #[.pointer (some ⟨y, 0, none⟩), .slice A n c] w fun e w' => e = .returned (.tuple #[.int .u64 0, .int .i64 5]) ∧ Below w.heap.size w w' := by
  have HI : Hid (Calls Try.prog 92 #[.pointer (some ⟨y, 0, none⟩)] w.drew fun e w' => ∃ A1 c1, e = .returned (.slice A1 (idk E E.length).length c1) ∧ Below w.drew.heap.size w.drew w') := Lib.hid ((rq_ids (h.later (bl_drew (Below.refl _ _)))).mono fun e w' => by
    rintro ⟨A1, c1, h1, _, h2⟩
    exact ⟨A1, c1, h1, h2⟩)
  have h0 : ((n : Int) == 0) = false := by simp; omega
  have h1 : decide ((1000 : Int) < n) = false := by simp; omega
  have h6 : (64 : Int) ≤ ((idk E E.length).length : Int) := by omega
  generalize (idk E E.length).length = q at *
  clear h hm hn hn0
  go_enter Try.func19, Try.ntmps19
  go_wp2
  refine wp_of_frame [some (.pointer (some ⟨y, 0, none⟩)), some (.slice A n c), none, none, none, none, none, none, none, none, none, none, none, none, none, none, none, none, none, none, none, none, none, none, none, none, none, none, none, none, none, none, none, none, none, none, none, none, none, none, none, none, none, none, none, none, none, none, none, none, none, none, none, none, none, none, none, none, none, none, none, none, none, none, none] (by
    simp only [Fr, Holes]
    repeat apply Exists.intro
    rfl) ?_
  intro a' hfr
  simp only [Fr, Holes] at hfr
  repeat (obtain ⟨_, hfr⟩ := hfr)
  refine wp_region_noPanic ?_
  refine wp_region_held_drew (S := fun W => Below w.heap.size w W) (by kernel_rfl) (bl_drew (Below.refl _ _)) (fun hS => ?_)
  refine take_at 0 13 (v := ?v0) (by simp only [List.getElem?_toArray, List.getElem?_cons_zero]; rfl) rfl (by kernel_rfl) (by kernel_rfl) (by kernel_rfl) (fun _ _ _ h => h) (Or.inl ⟨by rfl, ?y0⟩) hS ?_
  case y0 =>
    intro W hSW
    (try dsimp only at hSW)
    go_simp
    first | done | with_reducible rfl
  simp only [Act.put, List.setIfInBounds_toArray, List.set_cons_zero, List.set_cons_succ]
  refine wpAnyH_ready (rs := [1]) (by kernel_rfl) (by simp) ?_
  refine AllReadyH.cons rfl (fun K hK => ?_) AllReadyH.nil
  go_simp
  refine ((HI.out)).mono ?_
  rintro e v1 ⟨A1, c1, rfl, hv1⟩
  try go_simp
  refine hK.out _ _ (bl_step hS hv1) (fun hS => ?_)
  clear hK K
  try simp only [Act.put, List.setIfInBounds_toArray, List.set_cons_zero, List.set_cons_succ]
  have hBv1 : Below w.heap.size w v1 := hS
  refine wpAnyH_more (S' := fun W => Below v1.heap.size v1 W) ?_ (fun _ h => bl_step hBv1 h)
  clear hS
  have hS : (fun W => Below v1.heap.size v1 W) v1 := Below.refl _ _
  refine take_at 2 15 (v := ?v2) (by simp only [List.getElem?_toArray, List.getElem?_cons_succ, List.getElem?_cons_zero]; rfl) rfl (by kernel_rfl) (by kernel_rfl) (by kernel_rfl) (fun _ _ _ h => h) (Or.inl ⟨by rfl, ?y2⟩) hS ?_
  case y2 =>
    intro W hSW
    (try dsimp only at hSW)
    go_simp
    first | done | with_reducible rfl
  simp only [Act.put, List.setIfInBounds_toArray, List.set_cons_zero, List.set_cons_succ]
  refine take_at 3 16 (v := ?v3) (by simp only [List.getElem?_toArray, List.getElem?_cons_succ, List.getElem?_cons_zero]; rfl) rfl (by kernel_rfl) (by kernel_rfl) (by kernel_rfl) (fun _ _ _ h => h) (Or.inl ⟨by rfl, ?y3⟩) hS ?_
  case y3 =>
    intro W hSW
    (try dsimp only at hSW)
    go_simp
    first | done | with_reducible rfl
  simp only [Act.put, List.setIfInBounds_toArray, List.set_cons_zero, List.set_cons_succ]
  refine take_at 4 17 (v := ?v4) (by simp only [List.getElem?_toArray, List.getElem?_cons_succ, List.getElem?_cons_zero]; rfl) rfl (by kernel_rfl) (by kernel_rfl) (by kernel_rfl) (fun _ _ _ h => h) (Or.inl ⟨by rfl, ?y4⟩) hS ?_
  case y4 =>
    intro W hSW
    (try dsimp only at hSW)
    go_simp
    first | done | with_reducible rfl
  simp only [Act.put, List.setIfInBounds_toArray, List.set_cons_zero, List.set_cons_succ]
  refine take_at 5 18 (v := undef) (by simp only [List.getElem?_toArray, List.getElem?_cons_succ, List.getElem?_cons_zero]; rfl) rfl (by kernel_rfl) (by kernel_rfl) (by kernel_rfl) (fun _ _ _ h => h) (Or.inr ⟨by rfl, rfl⟩) hS ?_
  simp only [Act.put, List.setIfInBounds_toArray, List.set_cons_zero, List.set_cons_succ]
  refine take_at 6 19 (v := undef) (by simp only [List.getElem?_toArray, List.getElem?_cons_succ, List.getElem?_cons_zero]; rfl) rfl (by kernel_rfl) (by kernel_rfl) (by kernel_rfl) (fun _ _ _ h => h) (Or.inr ⟨by rfl, rfl⟩) hS ?_
  simp only [Act.put, List.setIfInBounds_toArray, List.set_cons_zero, List.set_cons_succ]
  refine take_at 7 20 (v := undef) (by simp only [List.getElem?_toArray, List.getElem?_cons_succ, List.getElem?_cons_zero]; rfl) rfl (by kernel_rfl) (by kernel_rfl) (by kernel_rfl) (fun _ _ _ h => h) (Or.inr ⟨by rfl, rfl⟩) hS ?_
  simp only [Act.put, List.setIfInBounds_toArray, List.set_cons_zero, List.set_cons_succ]
  refine take_at 8 21 (v := undef) (by simp only [List.getElem?_toArray, List.getElem?_cons_succ, List.getElem?_cons_zero]; rfl) rfl (by kernel_rfl) (by kernel_rfl) (by kernel_rfl) (fun _ _ _ h => h) (Or.inr ⟨by rfl, rfl⟩) hS ?_
  simp only [Act.put, List.setIfInBounds_toArray, List.set_cons_zero, List.set_cons_succ]
  refine take_at 9 22 (v := undef) (by simp only [List.getElem?_toArray, List.getElem?_cons_succ, List.getElem?_cons_zero]; rfl) rfl (by kernel_rfl) (by kernel_rfl) (by kernel_rfl) (fun _ _ _ h => h) (Or.inr ⟨by rfl, rfl⟩) hS ?_
  simp only [Act.put, List.setIfInBounds_toArray, List.set_cons_zero, List.set_cons_succ]
  refine take_at 10 23 (v := undef) (by simp only [List.getElem?_toArray, List.getElem?_cons_succ, List.getElem?_cons_zero]; rfl) rfl (by kernel_rfl) (by kernel_rfl) (by kernel_rfl) (fun _ _ _ h => h) (Or.inr ⟨by rfl, rfl⟩) hS ?_
  simp only [Act.put, List.setIfInBounds_toArray, List.set_cons_zero, List.set_cons_succ]
  refine take_at 11 24 (v := undef) (by simp only [List.getElem?_toArray, List.getElem?_cons_succ, List.getElem?_cons_zero]; rfl) rfl (by kernel_rfl) (by kernel_rfl) (by kernel_rfl) (fun _ _ _ h => h) (Or.inr ⟨by rfl, rfl⟩) hS ?_
  simp only [Act.put, List.setIfInBounds_toArray, List.set_cons_zero, List.set_cons_succ]
  refine take_at 12 25 (v := undef) (by simp only [List.getElem?_toArray, List.getElem?_cons_succ, List.getElem?_cons_zero]; rfl) rfl (by kernel_rfl) (by kernel_rfl) (by kernel_rfl) (fun _ _ _ h => h) (Or.inr ⟨by rfl, rfl⟩) hS ?_
  simp only [Act.put, List.setIfInBounds_toArray, List.set_cons_zero, List.set_cons_succ]
  refine take_at 13 26 (v := undef) (by simp only [List.getElem?_toArray, List.getElem?_cons_succ, List.getElem?_cons_zero]; rfl) rfl (by kernel_rfl) (by kernel_rfl) (by kernel_rfl) (fun _ _ _ h => h) (Or.inr ⟨by rfl, rfl⟩) hS ?_
  simp only [Act.put, List.setIfInBounds_toArray, List.set_cons_zero, List.set_cons_succ]
  refine take_at 14 27 (v := undef) (by simp only [List.getElem?_toArray, List.getElem?_cons_succ, List.getElem?_cons_zero]; rfl) rfl (by kernel_rfl) (by kernel_rfl) (by kernel_rfl) (fun _ _ _ h => h) (Or.inr ⟨by rfl, rfl⟩) hS ?_
  simp only [Act.put, List.setIfInBounds_toArray, List.set_cons_zero, List.set_cons_succ]
  refine take_at 15 28 (v := .bool true) (by simp only [List.getElem?_toArray, List.getElem?_cons_succ, List.getElem?_cons_zero]; rfl) rfl (by kernel_rfl) (by kernel_rfl) (by kernel_rfl) (fun _ _ _ h => h) (Or.inl ⟨by rfl, ?y15⟩) hS ?_
  case y15 =>
    intro W hSW
    (try dsimp only at hSW)
    go_simp
    first | done | with_reducible rfl | (simp; done)
  simp only [Act.put, List.setIfInBounds_toArray, List.set_cons_zero, List.set_cons_succ]
  refine wpAnyH_done (by kernel_rfl) ?_ _
  refine NoPanic.normal ?_
  go_wp2
  go_ret2
  exact ⟨rfl, hBv1⟩
theorem q0cellb {n : Nat} (hr : Row w y 52 #[.int .i64 room, .slice AL n cL, .slice AT n cT, .slice AG n cG]) : w.cell? ⟨y, 0, none⟩ = some (.int .i64 room) := hr.read rfl
set_option maxRecDepth 100000 in
set_option maxHeartbeats 3200000 in
theorem rq_push_full (A : Option Addr) (n c : Nat) (h : RQ w y B room E) (hn : n ≤ 1000) (hn0 : 0 < n) (hm : (idk E E.length).length < 64) (hf : room < ((byk E E.length + n : Nat) : Int)) : Calls Try.prog 19 #[.pointer (some ⟨y, 0, none⟩), .slice A n c] w fun e w' => e = .returned (.tuple #[.int .u64 0, .int .i64 5]) ∧ Below w.heap.size w w' := by
  have HI := Lib.hid (fun W (hb : Below w.heap.size w W) => rq_ids (h.later hb))
  have HY := Lib.hid (fun W (hb : Below w.heap.size w W) => rq_bytes (h.later hb))
  have hbl := byk_le (E := E) (fun e he => (h.ent e he).2.1) E.length
  have hmm := h.many
  obtain ⟨AL, cL, AT, cT, AG, cG, hr, hl⟩ := h.row
  have HR := Lib.hid hr
  have k0 := q0cellb HR.out.drawn
  have HB0 := Lib.hid (bl_drew (Below.refl w.heap.size w))
  have h0 : ((n : Int) == 0) = false := by simp; omega
  have h1 : decide ((1000 : Int) < n) = false := by simp; omega
  have h6 : decide ((64 : Int) ≤ ((idk E E.length).length : Int)) = false := by simp; omega
  have hbl2 : byk E E.length ≤ 200000 := by omega
  generalize (idk E E.length).length = q at *
  generalize byk E E.length = by' at *
  have hw : IntKind.i64.wrap ((by' : Int) + (n : Int)) = (by' : Int) + (n : Int) := IntWalk.i64_in _ (by omega)
  have h7 : room < (by' : Int) + (n : Int) := by omega
  clear h hr hl hm hn hn0 hf hbl
  go_enter Try.func19, Try.ntmps19
  go_wp2
  go_region_held3 (fun w' => w'.cell? ⟨y, 0, none⟩ = some (.int .i64 room)) (first | assumption | exact k0 | exact q0cellb HR1.out | exact q0cellb HR2.out | go_keep)
    (first
      | (go_at_call 92; (with_reducible refine (HI.out _ HB0.out).mono ?_); rintro e w1 ⟨A1, c1, rfl, _, hb⟩; (have HB1 := Lib.hid (bl_step HB0.out hb); have HR1 := Lib.hid (HR.out.later (bl_step HB0.out hb)); clear hb))
      | (go_at_call 25; (with_reducible refine (HY.out _ HB1.out).mono ?_); rintro e w2 ⟨rfl, hb⟩; (have HB2 := Lib.hid (bl_step HB1.out hb); have HR2 := Lib.hid (HR1.out.later hb); clear hb)))
  go_wp2
  go_ret2
  exact ⟨rfl, HB2.out⟩
end
end Go.Proofs.Ytjonkpdjhjobfaa
namespace Go.Proofs.Ytjonkpdjhjobfaa
open Go.RowKit

/-- what both queues' calls leave: all below B, and rows of other types -/
def XQ (t : TypeId) : Prop := t = 214 ∨ t = 217 ∨ t = 52 ∨ t = 38 ∨ t = 3 ∨ t = 4
structure QB (w : World) (p y B : Nat) (room : Int) (ts : List Txt) (E : List Ent) : Prop where
  c : QRep B w p room E.length ts
  r : RQ w y B room E
  hy : B ≤ y
  hB : B ≤ w.heap.size
  link : tx ts = live 0 E
  r0 : 0 < room
  r1 : room ≤ 20000
  bt : (bytesF ts : Int) ≤ room
  ln : ts.length ≤ 64
  b8 : ∀ e ∈ E, ∀ b ∈ e.bs, b < 256
section
variable {w v u : World} {p y B : Nat} {room : Int} {ts : List Txt} {E : List Ent}
theorem qlrow_same {g : Nat} {t t' : TypeId} {cs cs' : Array Value} (h : Row w g t cs) (h' : Row w g t' cs') : t = t' := by
  unfold Row at h h'
  rw [h] at h'
  have e := Option.some.inj h'
  cases e
  rfl
theorem QOnly.kr (h : QOnly B w v) (hB : B ≤ w.heap.size) : KR (fun t => t = 214 ∨ t = 217) B w v :=
  ⟨hB, h.below hB, h.size, fun _ _ _ hr hn => h.row hr (fun e => hn (.inl e)) (fun e => hn (.inr e))⟩
theorem QRep.kr {X : TypeId → Prop} {last : Nat} (h : QRep B w p room last ts) (hk : KR X B w v) (h1 : ¬ X 214) (h2 : ¬ X 217) (h3 : ¬ X 5) : QRep B v p room last ts := by
  obtain ⟨a1, a2, sv, a3, a4, a5⟩ := h
  refine ⟨a1, Nat.le_trans a2 hk.size, sv, hk.rows _ _ _ a3 h1, ⟨a4.1, ?_⟩, fun t ht => ?_⟩
  · rcases a4.2 with b | ⟨g, cap, cur, b1, b2, b3, b4⟩
    · exact .inl b
    · exact .inr ⟨g, cap, cur, b1, b2, hk.rows g 217 cur b3 h2, b4⟩
  · obtain ⟨b1, b2, b3, cs, b4, b5⟩ := a5 t ht
    exact ⟨b1, b2, b3, cs, hk.rows _ _ _ b4 h3, b5⟩
theorem KR.of34 (h : Only (S34 B w) w v) (hB : B ≤ w.heap.size) : KR (fun t => t = 3 ∨ t = 4) B w v :=
  ⟨hB, h.below hB (fun k hk hs => by have := hs.1; omega), h.size, fun g t cs hr hn => hr.only h (by
    rintro ⟨_, t', cs', hr', ht⟩
    have e := qlrow_same hr hr'
    subst e
    exact hn ht)⟩
theorem QB.later (h : QB w p y B room ts E) (hb : Below w.heap.size w v) : QB v p y B room ts E :=
  { h with c := h.c.later hb, r := h.r.later hb, hB := Nat.le_trans h.hB hb.size }
theorem b8_app (h : ∀ e ∈ E, ∀ b ∈ e.bs, b < 256) {l : List Nat} (hl : ∀ b ∈ l, b < 256) {g c tk : Nat} {gn : Bool} : ∀ e ∈ E ++ [⟨g, c, l, tk, gn⟩], ∀ b ∈ e.bs, b < 256 := by
  intro e he b hb
  rcases List.mem_append.1 he with q | q
  · exact h e q b hb
  · rw [List.mem_singleton] at q
    subst q
    exact hl b hb
theorem b8_set (h : ∀ e ∈ E, ∀ b ∈ e.bs, b < 256) {i : Nat} {e' : Ent} (h' : ∀ b ∈ e'.bs, b < 256) : ∀ e ∈ E.set i e', ∀ b ∈ e.bs, b < 256 := by
  intro e he b hb
  rcases List.mem_or_eq_of_mem_set he with q | q
  · exact h e q b hb
  · subst q
    exact h' b hb
theorem tx_len (ts : List Txt) : (tx ts).length = ts.length := by unfold tx; simp
theorem QB.ids (h : QB w p y B room ts E) : (idk E E.length).length = ts.length := by
  rw [ids_live, ← h.link, List.length_map, tx_len]
theorem QB.bytes (h : QB w p y B room ts E) : byk E E.length = bytesF ts := by
  rw [byk_live, ← h.link, ← bytes_tx]
end
end Go.Proofs.Ytjonkpdjhjobfaa
namespace Go.Proofs.Ytjonkpdjhjobfaa
open Go.RowKit

section
variable {w v u : World} {p y B : Nat} {room : Int} {ts : List Txt} {E : List Ent} {n : Nat}
theorem find_at {A C : List (Nat × List Nat × Bool)} {id : Nat} {q : List Nat × Bool} (h : ∀ p ∈ A, p.1 ≠ id) : (A ++ (id, q) :: C).findIdx (fun p => p.1 == id) = A.length := by
  rw [find_part h, List.findIdx_cons]
  simp
theorem eraseIdx_at {A C : List (Nat × List Nat × Bool)} {q : Nat × List Nat × Bool} : (A ++ q :: C).eraseIdx A.length = A ++ C := by
  rw [List.eraseIdx_append_of_length_le (Nat.le_refl _)]
  simp
theorem tx_erase : ∀ (ts : List Txt) (i : Nat), tx (ts.eraseIdx i) = (tx ts).eraseIdx i
  | [], _ => by simp [tx]
  | t :: r, 0 => by simp [tx]
  | t :: r, i + 1 => by
    have h := tx_erase r i
    unfold tx at h ⊢
    rw [List.eraseIdx_cons_succ, List.map_cons, List.map_cons, List.eraseIdx_cons_succ, h]
theorem tx_at (ts : List Txt) (i : Nat) : (tx ts)[i]? = ts[i]?.map fun t => (t.id, t.bs, t.bg) := by unfold tx; rw [List.getElem?_map]
/-- a number that does not wait is no text's -/
theorem disc_none (h : tx ts = live 0 E) (he : ∀ e, atN E n = some e → e.gone = true) : discE n ts = 4 ∧ discF n ts = ts := by
  have hno : ts[placeF n ts]? = none := by
    have h1 : (tx ts).findIdx (fun p => p.1 == n) = (tx ts).length := by
      refine List.findIdx_eq_length.2 fun p hp => ?_
      rw [h] at hp
      have hid := live_id E 0 p hp
      by_cases e : p.1 = n
      · exfalso
        have hn : 1 ≤ n := by omega
        have hl : n - 1 < E.length := by omega
        have hg := he E[n - 1] (by unfold atN; rw [if_neg (by omega)]; exact List.getElem?_eq_getElem hl)
        rw [live_parts hn (List.getElem?_eq_getElem hl), if_pos hg, List.nil_append, List.mem_append] at hp
        rcases hp with hp | hp
        · have := live_id _ 0 p hp
          rw [List.length_take] at this
          omega
        · have := live_id _ n p hp
          omega
      · simpa using e
    rw [List.getElem?_eq_none]
    rw [placeF_tx, h1, tx_len]
    exact Nat.le_refl _
  unfold discE discF
  rw [hno]
  exact ⟨rfl, rfl⟩
theorem disc_some {e : Ent} (h : tx ts = live 0 E) (hn : 1 ≤ n) (he : E[n - 1]? = some e) (hg : e.gone = false) : discE n ts = (if 0 < e.tk then 7 else 0) ∧ tx (discF n ts) = if 0 < e.tk then tx ts else live 0 (E.take (n - 1)) ++ live n (E.drop n) := by
  have hp := live_parts hn he
  rw [if_neg (by rw [hg]; exact Bool.false_ne_true), ← h] at hp
  have hA : ∀ p ∈ live 0 (E.take (n - 1)), p.1 ≠ n := fun p hp => by
    have := live_id _ 0 p hp
    rw [List.length_take] at this
    omega
  have hpl : placeF n ts = (live 0 (E.take (n - 1))).length := by
    rw [placeF_tx, hp]
    exact find_at hA
  have hat : (tx ts)[placeF n ts]? = some (n, e.bs.drop e.tk, decide (0 < e.tk)) := by
    rw [hpl, hp, List.getElem?_append_right (Nat.le_refl _)]
    simp
  rw [tx_at] at hat
  obtain ⟨t, ht, hte⟩ := Option.map_eq_some_iff.1 hat
  injection hte with _ hte
  injection hte with _ hbg
  unfold discE discF
  rw [ht]
  simp only [hbg]
  by_cases h0 : 0 < e.tk
  · rw [decide_eq_true h0, if_pos h0, if_pos h0]
    exact ⟨rfl, rfl⟩
  · rw [decide_eq_false h0, if_neg h0, if_neg h0]
    refine ⟨rfl, ?_⟩
    rw [if_neg (by simp), tx_erase, hpl, hp]
    exact eraseIdx_at
end
end Go.Proofs.Ytjonkpdjhjobfaa
namespace Go.Proofs.Ytjonkpdjhjobfaa
open Go.RowKit

section
variable {w v u : World} {p y B : Nat} {room : Int} {ts : List Txt} {E : List Ent} {n : Nat}
theorem live_all : ∀ (E : List Ent) (k : Nat), live k (allGone E E.length) = [] := fun E => live_gone (fun e he => by
  unfold allGone at he
  rw [List.take_length, List.drop_length, List.append_nil] at he
  obtain ⟨e', _, rfl⟩ := List.mem_map.1 he
  rfl)
end
end Go.Proofs.Ytjonkpdjhjobfaa
namespace Go.Proofs.Ytjonkpdjhjobfaa
open Go.RowKit

section
variable {w v u : World} {p y B : Nat} {room : Int} {ts r : List Txt} {t : Txt} {E : List Ent} {n : Nat}
theorem QB.empty (h : QB w p y B room [] E) : fE E = E.length := by
  have hl := h.link
  have h1 : fE E ≤ E.length := fE_le
  rcases Nat.lt_or_ge (fE E) E.length with q | q
  · rw [live_first (List.getElem?_eq_getElem q)] at hl
    cases hl
  · omega
theorem QB.head (h : QB w p y B room (t :: r) E) : ∃ e, E[fE E]? = some e ∧ t.id = fE E + 1 ∧ t.bs = e.bs.drop e.tk ∧ t.bg = decide (0 < e.tk) ∧ tx r = live (fE E + 1) (E.drop (fE E + 1)) := by
  have hl := h.link
  have h1 : fE E ≤ E.length := fE_le
  rcases Nat.lt_or_ge (fE E) E.length with q | q
  · rw [live_first (List.getElem?_eq_getElem q), Nat.zero_add] at hl
    unfold tx at hl ⊢
    rw [List.map_cons] at hl
    injection hl with h2 h3
    injection h2 with h4 h5
    injection h5 with h6 h7
    exact ⟨_, List.getElem?_eq_getElem q, h4, h6, h7, h3⟩
  · rw [live_none (by omega)] at hl
    cases hl
end
end Go.Proofs.Ytjonkpdjhjobfaa
namespace Go.Proofs.Ytjonkpdjhjobfaa
open Go.RowKit

section
variable {w v u : World} {p y B : Nat} {room : Int} {ts r : List Txt} {t : Txt} {E : List Ent} {n : Nat}
end
end Go.Proofs.Ytjonkpdjhjobfaa
namespace Go.Proofs.Ytjonkpdjhjobfaa
open Go.RowKit

section
theorem idv_u64 (ts : List Txt) : idv ts = u64v (ts.map Txt.id) := by unfold idv u64v; rw [List.map_map]; rfl
theorem row_slat {w : World} {g m E : Nat} {xs : List Value} (hm : m ≤ g) (h : Row w g E xs.toArray) : SlAt m E w (some ⟨g, 0, none⟩) xs :=
  fun _ => ⟨g, _, rfl, hm, h, fun i u hu => by simpa using hu⟩
end
end Go.Proofs.Ytjonkpdjhjobfaa
namespace Go.Proofs.Ytjonkpdjhjobfaa
open Go.RowKit

/-- what a glue holds, and how many it lost -/
structure GS where
  held : List Nat
  lost : Nat
def GS.lose (s : GS) : GS := if s.held = [] then s else ⟨[], s.lost + 1⟩
def GS.come (s : GS) (f : List Nat) (b e : Bool) : GS :=
  if b then (if f.length ≤ 1000 then ⟨f, s.lose.lost⟩ else ⟨[], s.lose.lost + 1⟩)
  else if s.held = [] then (if e then ⟨[], s.lost + 1⟩ else s)
  else if s.held.length + f.length ≤ 1000 then ⟨s.held ++ f, s.lost⟩ else ⟨[], s.lost + 1⟩
def GS.told (s : GS) (e : Bool) : GS × List (List Nat) := if e then (if s.held = [] then (s, []) else (⟨[], s.lost⟩, [s.held])) else (s, [])
def fin (fi : Nat) (n k : Nat) : Bool := decide (k + 1 < n) || (fi % 2 == 0)
end Go.Proofs.Ytjonkpdjhjobfaa
namespace Go.Proofs.Ytjonkpdjhjobfaa
open Go.RowKit

def GNext (w : World) (hv hv' : Value) : Prop := ∀ k, hv'.ownBlock = some k → hv.ownBlock = some k ∨ w.heap.size ≤ k
theorem GNext.refl (w : World) (hv : Value) : GNext w hv hv := fun _ h => .inl h
theorem GNext.nil (w : World) (hv : Value) : GNext w hv (.slice none 0 0) := fun _ h => by simp [Value.ownBlock] at h
end Go.Proofs.Ytjonkpdjhjobfaa
namespace Go.Proofs.Ytjonkpdjhjobfaa
open Go.RowKit

section
variable {B p : Nat} {w : World} {hv : Value} {s : GS}
end
section
variable {B p : Nat} {w : World} {hv : Value} {s : GS} {F : Option Addr} {f : List Nat}
end
end Go.Proofs.Ytjonkpdjhjobfaa
namespace Go.Proofs.Ytjonkpdjhjobfaa
open Go.RowKit

/-- a text that was told: its bytes lie in a block that is not the held one -/
def TOk (B : Nat) (w : World) (hv : Value) (r : RowB) : Prop := ∃ (g : Nat) (cs : Array Value), r.A = some ⟨g, 0, none⟩ ∧ B ≤ g ∧ hv.ownBlock ≠ some g ∧ r.bs.length ≤ r.cap ∧ r.cap ≤ 9223372036854775807 ∧ Row w g 5 cs ∧ ∀ (j b : Nat), r.bs[j]? = some b → cs[j]? = some (Value.int .u8 (b : Nat))
theorem add_pl (b o j : Nat) : (⟨b, o, none⟩ : Addr).add j = ⟨b, o + j, none⟩ := by
  unfold Addr.add
  split
  · rename_i h
    subst h
    rfl
  · rfl
theorem TOk.src {B : Nat} {w : World} {hv : Value} {r : RowB} (h : TOk B w hv r) : Src w r.A (bts r.bs) := by
  obtain ⟨g, cs, h1, _, _, _, _, h4, h5⟩ := h
  intro _
  refine ⟨⟨g, 0, none⟩, h1, fun j u hu => ?_⟩
  have hj : j < r.bs.length := by have := (List.getElem?_eq_some_iff.1 hu).1; rw [length_bts] at this; exact this
  have hb := bts_at (List.getElem?_eq_getElem hj)
  rw [hu] at hb
  injection hb with hb
  rw [hb, add_pl, Nat.zero_add]
  exact h4.read (h5 j _ (List.getElem?_eq_getElem hj))
theorem TOk.step {B : Nat} {w v : World} {hv hv' : Value} {r : RowB} {S : Nat → Prop} (h : TOk B w hv r) (ho : Only S w v) (hS : ∀ g cs, Row w g 5 cs → hv.ownBlock ≠ some g → ¬ S g) (hg : GNext w hv hv') : TOk B v hv' r := by
  obtain ⟨g, cs, h1, h2, h3, h4, h5, h6, h7⟩ := h
  refine ⟨g, cs, h1, h2, fun e => ?_, h4, h5, h6.only ho (hS g cs h6 h3), h7⟩
  have := h6.inside
  rcases hg g e with h9 | h9
  · exact h3 h9
  · omega
end Go.Proofs.Ytjonkpdjhjobfaa
namespace Go.Proofs.Ytjonkpdjhjobfaa
open Go.RowKit

end Go.Proofs.Ytjonkpdjhjobfaa
namespace Go.Proofs.Ytjonkpdjhjobfaa
open Go.RowKit

end Go.Proofs.Ytjonkpdjhjobfaa
namespace Go.Proofs.Ytjonkpdjhjobfaa
open Go.RowKit

end Go.Proofs.Ytjonkpdjhjobfaa
namespace Go.Proofs.Ytjonkpdjhjobfaa
open Go.RowKit

end Go.Proofs.Ytjonkpdjhjobfaa
namespace Go.Proofs.Ytjonkpdjhjobfaa
open Go.RowKit

/-- what was told lies in memory that the glue has left -/
def ToldIs (B : Nat) (w : World) (hv : Value) (A : Option Addr) (L : List RowB) : Prop :=
  (∃ C c, w.ownsRow C 38 1 (.slice A L.length c) L.length (L.map RowB.v)) ∧ ∀ r ∈ L, TOk B w hv r
theorem ToldIs.later {B : Nat} {w v : World} {hv : Value} {A : Option Addr} {L : List RowB} (h : ToldIs B w hv A L) (hb : Below w.heap.size w v) : ToldIs B v hv A L := by
  obtain ⟨⟨C, c, a4⟩, a5⟩ := h
  exact ⟨⟨C, c, own_later2 a4 hb⟩, fun r hr => (a5 r hr).step (S := fun _ => False) (.of_below hb) (fun _ _ _ _ h => h) (GNext.refl _ _)⟩
theorem ToldIs.src {B : Nat} {w : World} {hv : Value} {A : Option Addr} {L : List RowB} (h : ToldIs B w hv A L) (hb : ∀ t ∈ texts L, ∀ x ∈ t, x < 256) : RSrc w A L := by
  obtain ⟨⟨C, c, h4⟩, h5⟩ := h
  have hok : ∀ r ∈ L, r.ok w := fun r hr => by
    have h9 := h5 r hr
    obtain ⟨g, cs, _, _, _, k1, k2, _⟩ := id h9
    exact ⟨h9.src, k1, k2, hb r.bs (List.mem_map.2 ⟨r, hr, rfl⟩)⟩
  rcases h4.2 with ⟨e, h0⟩ | ⟨g, cap, cur, e, _, _, h1, _, _⟩
  · intro h9
    omega
  · injection e with e1 e2 e3
    subst e1
    exact fun _ => ⟨_, rfl, fun k r hr => ⟨h4.cells (g := g) rfl k _ (by rw [List.getElem?_map, hr]; rfl), hok r (List.mem_of_getElem? hr)⟩⟩
/-- a row, marked or not -/
def RowF (w : World) (g : Nat) (t : TypeId) (cs : Array Value) : Prop := ∃ fr, w.heap[g]? = some (.cells cs t fr)
theorem RowF.of {w : World} {g : Nat} {t : TypeId} {cs : Array Value} (h : Row w g t cs) : RowF w g t cs := ⟨_, h⟩
theorem RowF.inside {w : World} {g : Nat} {t : TypeId} {cs : Array Value} (h : RowF w g t cs) : g < w.heap.size := by
  obtain ⟨fr, h⟩ := h
  rcases Nat.lt_or_ge g w.heap.size with h1 | h1
  · exact h1
  · exfalso
    rw [Array.getElem?_eq_none h1] at h
    cases h
theorem RowF.made (w : World) (t : TypeId) (cs : Array Value) (fr : Nat × Nat) : RowF (w.alloc (.cells cs t fr)) w.heap.size t cs := ⟨fr, heap_alloc_new w _⟩
theorem RowF.only {S : Nat → Prop} {w v : World} {g : Nat} {t : TypeId} {cs : Array Value} (h : RowF w g t cs) (ho : Only S w v) (hg : ¬ S g) : RowF v g t cs := by
  have hi := h.inside
  obtain ⟨fr, h⟩ := h
  exact ⟨fr, (ho.same g hi hg).trans h⟩
theorem RowF.later {w v : World} {g : Nat} {t : TypeId} {cs : Array Value} (h : RowF w g t cs) (hb : Below w.heap.size w v) : RowF v g t cs := h.only (S := fun _ => False) (.of_below hb) (fun h => h)
theorem RowF.more {w : World} {g : Nat} {t : TypeId} {cs : Array Value} (h : RowF w g t cs) (o : Obj) : RowF (w.alloc o) g t cs := h.later (bl_alloc (Below.refl _ _) o)
theorem RowF.src {w : World} {g : Nat} {l : List Nat} (h : RowF w g 5 (bts l).toArray) : Src w (some ⟨g, 0, none⟩) (bts l) := fun _ => ⟨_, rfl, fun j u hu => by
  obtain ⟨fr, h⟩ := h
  rw [add_zero_addr]
  exact (cell_of_row w g j _ 5 fr h).trans (by rw [List.getElem?_toArray]; exact hu)⟩
end Go.Proofs.Ytjonkpdjhjobfaa
namespace Go.Proofs.Ytjonkpdjhjobfaa
open Go.RowKit

theorem RowF.q {B : Nat} {w v : World} {g : Nat} {t : TypeId} {cs : Array Value} (h : RowF w g t cs) (h1 : t ≠ 214) (h2 : t ≠ 217) (ho : QOnly B w v) : RowF v g t cs :=
  h.only ho (fun ⟨_, t', cs', hr, ht⟩ => by
    obtain ⟨fr, h⟩ := h
    unfold Row at hr
    rw [h] at hr
    injection hr with hr
    injection hr with _ hr
    subst hr
    rcases ht with ht | ht
    · exact h1 ht
    · exact h2 ht)
end Go.Proofs.Ytjonkpdjhjobfaa
namespace Go.Proofs.Ytjonkpdjhjobfaa
open Go.RowKit

section
variable {w v : World} {p y B : Nat} {room : Int} {ts r : List Txt} {t : Txt} {E : List Ent} {e : Ent}
theorem both_qnew (h : QRep B w p room 0 []) (h1 : 1 ≤ room) (h2 : room ≤ 20000) (hB : B ≤ w.heap.size) : QB (w.alloc (.cells #[.int .i64 room, .slice none 0 0, .slice none 0 0, .slice none 0 0] 52)) p w.heap.size B room [] [] := by
  have hb := bl_alloc (Below.refl w.heap.size w) (.cells #[.int .i64 room, .slice none 0 0, .slice none 0 0, .slice none 0 0] 52)
  refine ⟨h.later hb, ⟨⟨none, 0, none, 0, none, 0, Row.made w _ _, ⟨World.ownsRow_nil _ _ _ _, World.ownsRow_nil _ _ _ _, World.ownsRow_nil _ _ _ _⟩⟩, (fun e he => by cases he), by simp⟩, hB, Nat.le_trans hB hb.size, rfl, by omega, h2, by simp [bytesF]; omega, by simp, fun e he => by cases he⟩
/-- an entry's bytes from where it is taken on, the first n of them, as a string -/
theorem Ent.conv (h : e.ok B w) (hb : ∀ b ∈ e.bs, b < 256) (n c : Nat) (hn : e.tk + n ≤ e.bs.length) : (convert 38 9 (.slice (some ⟨e.g, e.tk, none⟩) n c)).run Try.prog w = .ok (.string (strOf ((e.bs.drop e.tk).take n))) w := by
  obtain ⟨e1, e2, e3, e4, e5, e6, e7, cs, e8, e9⟩ := h
  refine conv_src n c (by rw [List.length_take, List.length_drop]; omega) (qsrc_src fun _ => ⟨e.g, e.tk, rfl, fun j u hu => ?_⟩) (fun b hb' => hb b (List.mem_of_mem_drop (List.mem_of_mem_take hb')))
  unfold qbts at hu
  rw [List.getElem?_map] at hu
  obtain ⟨b, hb', rfl⟩ := Option.map_eq_some_iff.1 hu
  rw [List.getElem?_take] at hb'
  split at hb'
  · rw [List.getElem?_drop] at hb'
    exact e8.read (e9 _ _ hb')
  · cases hb'
/-- a row of no type of either queue's stays -/
theorem KR.other {X : TypeId → Prop} (h : KR X B w v) {g : Nat} {t : TypeId} {cs : Array Value} (hr : Row w g t cs) (ht : ¬ X t) : Row v g t cs := h.rows g t cs hr ht
end
end Go.Proofs.Ytjonkpdjhjobfaa
