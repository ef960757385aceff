/-
  queue: the code's waiting texts and the document's entries, plain: which texts wait, of the entries. The document's queue: a text that is not pushed. A law's own lists beside a queue: what the queue's calls do leaves them as they are, and what is appended to them leaves the queue as it is. queue: the code's queue and the document's one together. cut: which widths may be, how many bytes fields have, how many bytes the next field has.
-/
import Derived.Test.YtbcjfdhphpckfaaJPlainLives19
import Derived.Test.YtbcjfdhphpckfaaJPlainLives18
import Derived.Test.YtbcjfdhphpckfaaJPlainLives09
import Derived.Test.YtbcjfdhphpckfaaJPlainLives15
import Derived.Test.YtbcjfdhphpckfaaJPlainLives04
namespace Go.Proofs.Ytbcjfdhphpckfaa
open Go.RowKit

/-- the entries that wait, each with its number, what of it is left, and whether some of it was taken -/
def live (k : Nat) : List Ent → List (Nat × List Nat × Bool)
  | [] => []
  | e :: r => if e.gone then live (k + 1) r else (k + 1, e.bs.drop e.tk, decide (0 < e.tk)) :: live (k + 1) r
def tx (ts : List Txt) : List (Nat × List Nat × Bool) := ts.map fun t => (t.id, t.bs, t.bg)
section
variable {E F : List Ent} {e : Ent} {k i n : Nat} {ts : List Txt}
theorem live_cons : live k (e :: E) = if e.gone then live (k + 1) E else (k + 1, e.bs.drop e.tk, decide (0 < e.tk)) :: live (k + 1) E := rfl
theorem live_app : ∀ (E F : List Ent) (k : Nat), live k (E ++ F) = live k E ++ live (k + E.length) F
  | [], F, k => by simp [live]
  | e :: r, F, k => by
    have ih := live_app r F (k + 1)
    have h1 : k + 1 + r.length = k + (r.length + 1) := by omega
    rw [List.cons_append, live_cons, live_cons, ih, List.length_cons, h1]
    split <;> rfl
theorem live_snoc (l : List Nat) (g c : Nat) : live k (E ++ [⟨g, c, l, 0, false⟩]) = live k E ++ [(k + E.length + 1, l, false)] := by
  rw [live_app]
  simp [live]
theorem live_gone (h : ∀ e ∈ E, e.gone = true) : ∀ k, live k E = [] := by
  induction E with
  | nil => intro k; rfl
  | cons e r ih =>
    intro k
    unfold live
    rw [if_pos (h e List.mem_cons_self)]
    exact ih (fun e' he => h e' (List.mem_cons_of_mem _ he)) (k + 1)
theorem live_drop : ∀ (E : List Ent) (i k : Nat), (∀ j e, j < i → E[j]? = some e → e.gone = true) → i ≤ E.length → live k E = live (k + i) (E.drop i)
  | E, 0, k, _, _ => by simp
  | [], i + 1, k, _, h => by simp at h
  | e :: r, i + 1, k, h, hl => by
    have h0 := h 0 e (by omega) rfl
    have ih := live_drop r i (k + 1) (fun j e' hj he => h (j + 1) e' (by omega) he) (by simp at hl; omega)
    rw [List.drop_succ_cons, show k + (i + 1) = k + 1 + i by omega, ← ih]
    show (if e.gone then live (k + 1) r else _) = _
    rw [if_pos h0]
theorem fE_ahead : ∀ j e, j < fE E → E[j]? = some e → e.gone = true := by
  intro j e hj he
  unfold fE at hj
  have h1 := List.not_of_lt_findIdx hj
  obtain ⟨a, b⟩ := List.getElem?_eq_some_iff.1 he
  rw [b] at h1
  simpa using h1
theorem fE_open (h : E[fE E]? = some e) : e.gone = false := by
  obtain ⟨a, b⟩ := List.getElem?_eq_some_iff.1 h
  have a2 : List.findIdx (fun e : Ent => !e.gone) E < E.length := a
  have h1 := List.findIdx_getElem (w := a2)
  have h2 : E[List.findIdx (fun e : Ent => !e.gone) E] = e := b
  rw [h2] at h1
  simpa using h1
theorem live_none (h : fE E = E.length) : live k E = [] :=
  live_gone (fun e he => by
    obtain ⟨j, hj, rfl⟩ := List.mem_iff_getElem.1 he
    exact fE_ahead j _ (by omega) (List.getElem?_eq_getElem hj)) k
theorem live_first (h : E[fE E]? = some e) : live k E = (k + fE E + 1, e.bs.drop e.tk, decide (0 < e.tk)) :: live (k + fE E + 1) (E.drop (fE E + 1)) := by
  obtain ⟨a, b⟩ := List.getElem?_eq_some_iff.1 h
  rw [live_drop E (fE E) k fE_ahead fE_le, List.drop_eq_getElem_cons a, b]
  show (if e.gone then _ else _) = _
  rw [fE_open h]
  rfl
theorem live_set (h : E[fE E]? = some e) (e' : Ent) : live k (E.set (fE E) e') = (if e'.gone then [] else [(k + fE E + 1, e'.bs.drop e'.tk, decide (0 < e'.tk))]) ++ live (k + fE E + 1) (E.drop (fE E + 1)) := by
  obtain ⟨a, b⟩ := List.getElem?_eq_some_iff.1 h
  have hset : E.set (fE E) e' = E.take (fE E) ++ e' :: E.drop (fE E + 1) := List.set_eq_take_append_cons_drop ▸ (by rw [if_pos a])
  rw [hset, live_app, live_gone (E := E.take (fE E)) (fun e he => by
    obtain ⟨j, hj, rfl⟩ := List.mem_iff_getElem.1 he
    rw [List.getElem_take]
    rw [List.length_take] at hj
    exact fE_ahead j _ (by omega) (List.getElem?_eq_getElem (by omega))), List.nil_append, List.length_take, Nat.min_eq_left (by omega)]
  show (if e'.gone then _ else _) = _
  split <;> rfl
theorem live_bytes : ∀ (E : List Ent) (k : Nat), ((live k E).map fun p => p.2.1.length).sum = (E.map fun e => if e.gone then 0 else e.bs.length - e.tk).sum
  | [], _ => rfl
  | e :: r, k => by
    have ih := live_bytes r (k + 1)
    rw [live_cons, List.map_cons, List.sum_cons]
    split
    · rw [ih]; omega
    · rw [List.map_cons, List.sum_cons, ih, List.length_drop]
theorem byk_live : byk E E.length = ((live 0 E).map fun p => p.2.1.length).sum := by
  rw [live_bytes]
  unfold byk
  rw [List.take_length]
theorem bytes_tx : bytesF ts = ((tx ts).map fun p => p.2.1.length).sum := by
  induction ts with
  | nil => rfl
  | cons t r ih =>
    rw [bytesF_cons, ih]
    simp [tx]
theorem idk_live : ∀ k, k ≤ E.length → idk E k = (live 0 (E.take k)).map Prod.fst
  | 0, _ => by simp [idk, live]
  | k + 1, h => by
    have he : E[k]? = some E[k] := List.getElem?_eq_getElem (by omega)
    rw [idk_succ he, idk_live k (by omega), List.take_add_one, he, Option.toList_some, live_app, List.map_append, live_cons]
    congr 1
    simp only [Nat.zero_add, List.length_take, Nat.min_eq_left (show k ≤ E.length by omega)]
    split
    · rfl
    · rfl
theorem ids_live : idk E E.length = (live 0 E).map Prod.fst := by
  rw [idk_live _ (Nat.le_refl _), List.take_length]
theorem live_id : ∀ (E : List Ent) (k : Nat) (p : Nat × List Nat × Bool), p ∈ live k E → k < p.1 ∧ p.1 ≤ k + E.length
  | [], _, _, h => by cases h
  | e :: r, k, p, h => by
    have ih := live_id r (k + 1) p
    rw [live_cons] at h
    rw [List.length_cons]
    split at h
    · have := ih h; omega
    · rcases List.mem_cons.1 h with rfl | h
      · exact ⟨by simp, by simp⟩
      · have := ih h; omega
theorem live_parts (hn : 1 ≤ n) (h : E[n - 1]? = some e) : live 0 E = live 0 (E.take (n - 1)) ++ ((if e.gone then [] else [(n, e.bs.drop e.tk, decide (0 < e.tk))]) ++ live n (E.drop n)) := by
  obtain ⟨a, b⟩ := List.getElem?_eq_some_iff.1 h
  have e1 : E = E.take (n - 1) ++ e :: E.drop n := by
    have h1 := List.take_append_drop (n - 1) E
    rw [List.drop_eq_getElem_cons a, b, show n - 1 + 1 = n by omega] at h1
    exact h1.symm
  have e2 : 0 + (E.take (n - 1)).length + 1 = n := by rw [List.length_take]; omega
  conv => lhs; rw [e1]
  rw [live_app, live_cons, e2]
  split <;> rfl
theorem live_erase (hn : 1 ≤ n) (h : E[n - 1]? = some e) (e' : Ent) (hg : e'.gone = true) : live 0 (E.set (n - 1) e') = live 0 (E.take (n - 1)) ++ live n (E.drop n) := by
  obtain ⟨a, b⟩ := List.getElem?_eq_some_iff.1 h
  have h1 := live_parts (E := E.set (n - 1) e') hn (e := e') (by rw [List.getElem?_set_self a])
  rw [if_pos hg, List.nil_append, List.take_set_of_le (Nat.le_refl _), List.drop_set_of_lt (by omega)] at h1
  exact h1
theorem placeF_tx (id : Nat) (ts : List Txt) : placeF id ts = (tx ts).findIdx fun p => p.1 == id := by
  unfold placeF tx
  rw [List.findIdx_map]
  rfl
theorem find_part {A C : List (Nat × List Nat × Bool)} {id : Nat} (h : ∀ p ∈ A, p.1 ≠ id) : (A ++ C).findIdx (fun p => p.1 == id) = A.length + C.findIdx (fun p => p.1 == id) := by
  induction A with
  | nil => simp
  | cons p r ih =>
    rw [List.cons_append, List.findIdx_cons]
    have h1 : (p.1 == id) = false := by simpa using h p List.mem_cons_self
    rw [h1, ih (fun q hq => h q (List.mem_cons_of_mem _ hq)), List.length_cons]
    simp
    omega
end
end Go.Proofs.Ytbcjfdhphpckfaa
namespace Go.Proofs.Ytbcjfdhphpckfaa
open Go.RowKit

section
variable {w v : World} {y B : Nat} {room : Int} {E : List Ent} {AL AT AG : Option Addr} {cL cT cG : Nat}
theorem rq_push_arg (A : Option Addr) (c : Nat) (w : World) : Calls Try.prog 16 #[.pointer (some ⟨y, 0, none⟩), .slice A 0 c] w fun e w' => e = .returned (.tuple #[.int .u64 0, .int .i64 1]) ∧ Below w.heap.size w w' := by
  go_enter Try.func16, Try.ntmps16
  go_wp2
  go_ret2
  exact ⟨rfl, Below.refl _ _⟩
theorem rq_push_long (A : Option Addr) (n c : Nat) (w : World) (hn : 1000 < n) : Calls Try.prog 16 #[.pointer (some ⟨y, 0, none⟩), .slice A n c] w fun e w' => e = .returned (.tuple #[.int .u64 0, .int .i64 2]) ∧ Below w.heap.size w w' := by
  have h0 : ((n : Int) == 0) = false := by simp; omega
  have h1 : (1000 : Int) < n := by omega
  go_enter Try.func16, Try.ntmps16
  go_wp2
  go_ret2
  exact ⟨rfl, Below.refl _ _⟩
set_option maxRecDepth 100000 in
set_option maxHeartbeats 3200000 in
theorem rq_push_many (A : Option Addr) (n c : Nat) (h : RQ w y B room E) (hn : n ≤ 1000) (hn0 : 0 < n) (hm : 64 ≤ (idk E E.length).length) : Calls Try.prog 16 #[.pointer (some ⟨y, 0, none⟩), .slice A n c] w fun e w' => e = .returned (.tuple #[.int .u64 0, .int .i64 5]) ∧ Below w.heap.size w w' := by
  have HI : Hid (Calls Try.prog 29 #[.pointer (some ⟨y, 0, none⟩)] w.drew fun e w' => ∃ A1 c1, e = .returned (.slice A1 (idk E E.length).length c1) ∧ Below w.drew.heap.size w.drew w') := Lib.hid ((rq_ids (h.later (bl_drew (Below.refl _ _)))).mono fun e w' => by
    rintro ⟨A1, c1, h1, _, h2⟩
    exact ⟨A1, c1, h1, h2⟩)
  have h0 : ((n : Int) == 0) = false := by simp; omega
  have h1 : decide ((1000 : Int) < n) = false := by simp; omega
  have h6 : (64 : Int) ≤ ((idk E E.length).length : Int) := by omega
  generalize (idk E E.length).length = q at *
  clear h hm hn hn0
  go_enter Try.func16, Try.ntmps16
  go_wp2
  refine wp_of_frame [some (.pointer (some ⟨y, 0, none⟩)), some (.slice A n c), none, none, none, none, none, none, none, none, none, none, none, none, none, none, none, none, none, none, none, none, none, none, none, none, none, none, none, none, none, none, none, none, none, none, none, none, none, none, none, none, none, none, none, none, none, none, none, none, none, none, none, none, none, none, none, none, none, none, none, none, none, none, none] (by
    simp only [Fr, Holes]
    repeat apply Exists.intro
    rfl) ?_
  intro a' hfr
  simp only [Fr, Holes] at hfr
  repeat (obtain ⟨_, hfr⟩ := hfr)
  refine wp_region_noPanic ?_
  refine wp_region_held_drew (S := fun W => Below w.heap.size w W) (by kernel_rfl) (bl_drew (Below.refl _ _)) (fun hS => ?_)
  refine take_at 0 13 (v := ?v0) (by simp only [List.getElem?_toArray, List.getElem?_cons_zero]; rfl) rfl (by kernel_rfl) (by kernel_rfl) (by kernel_rfl) (fun _ _ _ h => h) (Or.inl ⟨by rfl, ?y0⟩) hS ?_
  case y0 =>
    intro W hSW
    (try dsimp only at hSW)
    go_simp
    first | done | with_reducible rfl
  simp only [Act.put, List.setIfInBounds_toArray, List.set_cons_zero, List.set_cons_succ]
  refine wpAnyH_ready (rs := [1]) (by kernel_rfl) (by simp) ?_
  refine AllReadyH.cons rfl (fun K hK => ?_) AllReadyH.nil
  go_simp
  refine ((HI.out)).mono ?_
  rintro e v1 ⟨A1, c1, rfl, hv1⟩
  try go_simp
  refine hK.out _ _ (bl_step hS hv1) (fun hS => ?_)
  clear hK K
  try simp only [Act.put, List.setIfInBounds_toArray, List.set_cons_zero, List.set_cons_succ]
  have hBv1 : Below w.heap.size w v1 := hS
  refine wpAnyH_more (S' := fun W => Below v1.heap.size v1 W) ?_ (fun _ h => bl_step hBv1 h)
  clear hS
  have hS : (fun W => Below v1.heap.size v1 W) v1 := Below.refl _ _
  refine take_at 2 15 (v := ?v2) (by simp only [List.getElem?_toArray, List.getElem?_cons_succ, List.getElem?_cons_zero]; rfl) rfl (by kernel_rfl) (by kernel_rfl) (by kernel_rfl) (fun _ _ _ h => h) (Or.inl ⟨by rfl, ?y2⟩) hS ?_
  case y2 =>
    intro W hSW
    (try dsimp only at hSW)
    go_simp
    first | done | with_reducible rfl
  simp only [Act.put, List.setIfInBounds_toArray, List.set_cons_zero, List.set_cons_succ]
  refine take_at 3 16 (v := ?v3) (by simp only [List.getElem?_toArray, List.getElem?_cons_succ, List.getElem?_cons_zero]; rfl) rfl (by kernel_rfl) (by kernel_rfl) (by kernel_rfl) (fun _ _ _ h => h) (Or.inl ⟨by rfl, ?y3⟩) hS ?_
  case y3 =>
    intro W hSW
    (try dsimp only at hSW)
    go_simp
    first | done | with_reducible rfl
  simp only [Act.put, List.setIfInBounds_toArray, List.set_cons_zero, List.set_cons_succ]
  refine take_at 4 17 (v := ?v4) (by simp only [List.getElem?_toArray, List.getElem?_cons_succ, List.getElem?_cons_zero]; rfl) rfl (by kernel_rfl) (by kernel_rfl) (by kernel_rfl) (fun _ _ _ h => h) (Or.inl ⟨by rfl, ?y4⟩) hS ?_
  case y4 =>
    intro W hSW
    (try dsimp only at hSW)
    go_simp
    first | done | with_reducible rfl
  simp only [Act.put, List.setIfInBounds_toArray, List.set_cons_zero, List.set_cons_succ]
  refine take_at 5 18 (v := undef) (by simp only [List.getElem?_toArray, List.getElem?_cons_succ, List.getElem?_cons_zero]; rfl) rfl (by kernel_rfl) (by kernel_rfl) (by kernel_rfl) (fun _ _ _ h => h) (Or.inr ⟨by rfl, rfl⟩) hS ?_
  simp only [Act.put, List.setIfInBounds_toArray, List.set_cons_zero, List.set_cons_succ]
  refine take_at 6 19 (v := undef) (by simp only [List.getElem?_toArray, List.getElem?_cons_succ, List.getElem?_cons_zero]; rfl) rfl (by kernel_rfl) (by kernel_rfl) (by kernel_rfl) (fun _ _ _ h => h) (Or.inr ⟨by rfl, rfl⟩) hS ?_
  simp only [Act.put, List.setIfInBounds_toArray, List.set_cons_zero, List.set_cons_succ]
  refine take_at 7 20 (v := undef) (by simp only [List.getElem?_toArray, List.getElem?_cons_succ, List.getElem?_cons_zero]; rfl) rfl (by kernel_rfl) (by kernel_rfl) (by kernel_rfl) (fun _ _ _ h => h) (Or.inr ⟨by rfl, rfl⟩) hS ?_
  simp only [Act.put, List.setIfInBounds_toArray, List.set_cons_zero, List.set_cons_succ]
  refine take_at 8 21 (v := undef) (by simp only [List.getElem?_toArray, List.getElem?_cons_succ, List.getElem?_cons_zero]; rfl) rfl (by kernel_rfl) (by kernel_rfl) (by kernel_rfl) (fun _ _ _ h => h) (Or.inr ⟨by rfl, rfl⟩) hS ?_
  simp only [Act.put, List.setIfInBounds_toArray, List.set_cons_zero, List.set_cons_succ]
  refine take_at 9 22 (v := undef) (by simp only [List.getElem?_toArray, List.getElem?_cons_succ, List.getElem?_cons_zero]; rfl) rfl (by kernel_rfl) (by kernel_rfl) (by kernel_rfl) (fun _ _ _ h => h) (Or.inr ⟨by rfl, rfl⟩) hS ?_
  simp only [Act.put, List.setIfInBounds_toArray, List.set_cons_zero, List.set_cons_succ]
  refine take_at 10 23 (v := undef) (by simp only [List.getElem?_toArray, List.getElem?_cons_succ, List.getElem?_cons_zero]; rfl) rfl (by kernel_rfl) (by kernel_rfl) (by kernel_rfl) (fun _ _ _ h => h) (Or.inr ⟨by rfl, rfl⟩) hS ?_
  simp only [Act.put, List.setIfInBounds_toArray, List.set_cons_zero, List.set_cons_succ]
  refine take_at 11 24 (v := undef) (by simp only [List.getElem?_toArray, List.getElem?_cons_succ, List.getElem?_cons_zero]; rfl) rfl (by kernel_rfl) (by kernel_rfl) (by kernel_rfl) (fun _ _ _ h => h) (Or.inr ⟨by rfl, rfl⟩) hS ?_
  simp only [Act.put, List.setIfInBounds_toArray, List.set_cons_zero, List.set_cons_succ]
  refine take_at 12 25 (v := undef) (by simp only [List.getElem?_toArray, List.getElem?_cons_succ, List.getElem?_cons_zero]; rfl) rfl (by kernel_rfl) (by kernel_rfl) (by kernel_rfl) (fun _ _ _ h => h) (Or.inr ⟨by rfl, rfl⟩) hS ?_
  simp only [Act.put, List.setIfInBounds_toArray, List.set_cons_zero, List.set_cons_succ]
  refine take_at 13 26 (v := undef) (by simp only [List.getElem?_toArray, List.getElem?_cons_succ, List.getElem?_cons_zero]; rfl) rfl (by kernel_rfl) (by kernel_rfl) (by kernel_rfl) (fun _ _ _ h => h) (Or.inr ⟨by rfl, rfl⟩) hS ?_
  simp only [Act.put, List.setIfInBounds_toArray, List.set_cons_zero, List.set_cons_succ]
  refine take_at 14 27 (v := undef) (by simp only [List.getElem?_toArray, List.getElem?_cons_succ, List.getElem?_cons_zero]; rfl) rfl (by kernel_rfl) (by kernel_rfl) (by kernel_rfl) (fun _ _ _ h => h) (Or.inr ⟨by rfl, rfl⟩) hS ?_
  simp only [Act.put, List.setIfInBounds_toArray, List.set_cons_zero, List.set_cons_succ]
  refine take_at 15 28 (v := .bool true) (by simp only [List.getElem?_toArray, List.getElem?_cons_succ, List.getElem?_cons_zero]; rfl) rfl (by kernel_rfl) (by kernel_rfl) (by kernel_rfl) (fun _ _ _ h => h) (Or.inl ⟨by rfl, ?y15⟩) hS ?_
  case y15 =>
    intro W hSW
    (try dsimp only at hSW)
    go_simp
    first | done | with_reducible rfl | (simp; done)
  simp only [Act.put, List.setIfInBounds_toArray, List.set_cons_zero, List.set_cons_succ]
  refine wpAnyH_done (by kernel_rfl) ?_ _
  refine NoPanic.normal ?_
  go_wp2
  go_ret2
  exact ⟨rfl, hBv1⟩
theorem q0cellb {n : Nat} (hr : Row w y 33 #[.int .i64 room, .slice AL n cL, .slice AT n cT, .slice AG n cG]) : w.cell? ⟨y, 0, none⟩ = some (.int .i64 room) := hr.read rfl
set_option maxRecDepth 100000 in
set_option maxHeartbeats 3200000 in
theorem rq_push_full (A : Option Addr) (n c : Nat) (h : RQ w y B room E) (hn : n ≤ 1000) (hn0 : 0 < n) (hm : (idk E E.length).length < 64) (hf : room < ((byk E E.length + n : Nat) : Int)) : Calls Try.prog 16 #[.pointer (some ⟨y, 0, none⟩), .slice A n c] w fun e w' => e = .returned (.tuple #[.int .u64 0, .int .i64 5]) ∧ Below w.heap.size w w' := by
  have HI := Lib.hid (fun W (hb : Below w.heap.size w W) => rq_ids (h.later hb))
  have HY := Lib.hid (fun W (hb : Below w.heap.size w W) => rq_bytes (h.later hb))
  have hbl := byk_le (E := E) (fun e he => (h.ent e he).2.1) E.length
  have hmm := h.many
  obtain ⟨AL, cL, AT, cT, AG, cG, hr, hl⟩ := h.row
  have HR := Lib.hid hr
  have k0 := q0cellb HR.out.drawn
  have HB0 := Lib.hid (bl_drew (Below.refl w.heap.size w))
  have h0 : ((n : Int) == 0) = false := by simp; omega
  have h1 : decide ((1000 : Int) < n) = false := by simp; omega
  have h6 : decide ((64 : Int) ≤ ((idk E E.length).length : Int)) = false := by simp; omega
  have hbl2 : byk E E.length ≤ 200000 := by omega
  generalize (idk E E.length).length = q at *
  generalize byk E E.length = by' at *
  have hw : IntKind.i64.wrap ((by' : Int) + (n : Int)) = (by' : Int) + (n : Int) := IntWalk.i64_in _ (by omega)
  have h7 : room < (by' : Int) + (n : Int) := by omega
  clear h hr hl hm hn hn0 hf hbl
  go_enter Try.func16, Try.ntmps16
  go_wp2
  go_region_held3 (fun w' => w'.cell? ⟨y, 0, none⟩ = some (.int .i64 room)) (first | assumption | exact k0 | exact q0cellb HR1.out | exact q0cellb HR2.out | go_keep)
    (first
      | (go_at_call 29; (with_reducible refine (HI.out _ HB0.out).mono ?_); rintro e w1 ⟨A1, c1, rfl, _, hb⟩; (have HB1 := Lib.hid (bl_step HB0.out hb); have HR1 := Lib.hid (HR.out.later (bl_step HB0.out hb)); clear hb))
      | (go_at_call 27; (with_reducible refine (HY.out _ HB1.out).mono ?_); rintro e w2 ⟨rfl, hb⟩; (have HB2 := Lib.hid (bl_step HB1.out hb); have HR2 := Lib.hid (HR1.out.later hb); clear hb)))
  go_wp2
  go_ret2
  exact ⟨rfl, HB2.out⟩
end
end Go.Proofs.Ytbcjfdhphpckfaa
namespace Go.Proofs.Ytbcjfdhphpckfaa
open Go.RowKit

theorem qrow_same {w : World} {k : Nat} {t u : TypeId} {cs ds : Array Value} (h : Row w k t cs) (h' : Row w k u ds) : t = u := by
  unfold Row at h h'
  rw [h] at h'
  injection h' with h'
  injection h' with _ h'

theorem OwnX.q {w w' : World} {B B' e size : Nat} {v : Value} {n : Nat} {xs : List Value} (h : OwnX w B' e size v n xs) (h1 : e ≠ 51) (h2 : e ≠ 177) (ho : QOnly B w w') : OwnX w' B' e size v n xs :=
  h.only ho fun k hk ⟨_, t, cs, hr, ht⟩ => by
    refine h.apart hr (fun e => ?_) hk
    subst e
    rcases ht with ht | ht
    · exact h1 ht
    · exact h2 ht

/-- blocks of one type that a queue has not -/
theorem QRep.apart {B : Nat} {w v : World} {p : Nat} {room : Int} {last : Nat} {ts : List Txt} {S : Nat → Prop} (h : QRep B w p room last ts) (ho : Only S w v) (hS : ∀ k, S k → ∀ t cs, Row w k t cs → t ≠ 51 ∧ t ≠ 177 ∧ t ≠ 5) : QRep B v p room last ts := by
  obtain ⟨h1, h2, sv, h3, h4, h5⟩ := h
  refine ⟨h1, by have := ho.size; omega, sv, h3.only ho (fun hk => (hS _ hk _ _ h3).1 rfl), h4.only ho (fun k hk hk' => ?_), fun t ht => ?_⟩
  · rcases h4.2 with ⟨rfl, _⟩ | ⟨g, cap, cur, rfl, _, hh, _⟩
    · simp [Value.ownBlock] at hk
    · have e : g = k := by simpa [Value.ownBlock] using hk
      subst e
      exact (hS _ hk' _ _ hh).2.1 rfl
  · obtain ⟨g1, g2, g3, cs, g4, g5⟩ := h5 t ht
    exact ⟨g1, g2, g3, cs, g4.only ho (fun hk => (hS _ hk _ _ g4).2.2 rfl), g5⟩
/-- blocks that are none of a queue's -/
theorem QRep.beside {B : Nat} {w v : World} {p : Nat} {room : Int} {last : Nat} {ts : List Txt} {S : Nat → Prop} (h : QRep B w p room last ts) (ho : Only S w v) (hS : ∀ k, S k → ∀ t cs, Row w k t cs → t = 5 ∧ ∀ x ∈ ts, x.g ≠ k) : QRep B v p room last ts := by
  obtain ⟨h1, h2, sv, h3, h4, h5⟩ := h
  refine ⟨h1, by have := ho.size; omega, sv, h3.only ho (fun hk => absurd (hS _ hk _ _ h3).1 (by decide)), h4.only ho (fun k hk hk' => ?_), fun t ht => ?_⟩
  · rcases h4.2 with ⟨rfl, _⟩ | ⟨g, cap, cur, rfl, _, hh, _⟩
    · simp [Value.ownBlock] at hk
    · have e : g = k := by simpa [Value.ownBlock] using hk
      subst e
      exact absurd (hS _ hk' _ _ hh).1 (by decide)
  · obtain ⟨g1, g2, g3, cs, g4, g5⟩ := h5 t ht
    exact ⟨g1, g2, g3, cs, g4.only ho (fun hk => (hS _ hk _ _ g4).2 t ht rfl), g5⟩
end Go.Proofs.Ytbcjfdhphpckfaa
namespace Go.Proofs.Ytbcjfdhphpckfaa
open Go.RowKit

/-- what both queues' calls leave: all below B, and rows of other types -/
def XQ (t : TypeId) : Prop := t = 51 ∨ t = 177 ∨ t = 33 ∨ t = 34 ∨ t = 3 ∨ t = 4
structure QB (w : World) (p y B : Nat) (room : Int) (ts : List Txt) (E : List Ent) : Prop where
  c : QRep B w p room E.length ts
  r : RQ w y B room E
  hy : B ≤ y
  hB : B ≤ w.heap.size
  link : tx ts = live 0 E
  r0 : 0 < room
  r1 : room ≤ 20000
  bt : (bytesF ts : Int) ≤ room
  ln : ts.length ≤ 64
  b8 : ∀ e ∈ E, ∀ b ∈ e.bs, b < 256
section
variable {w v u : World} {p y B : Nat} {room : Int} {ts : List Txt} {E : List Ent}
theorem qlrow_same {g : Nat} {t t' : TypeId} {cs cs' : Array Value} (h : Row w g t cs) (h' : Row w g t' cs') : t = t' := by
  unfold Row at h h'
  rw [h] at h'
  have e := Option.some.inj h'
  cases e
  rfl
theorem QOnly.kr (h : QOnly B w v) (hB : B ≤ w.heap.size) : KR (fun t => t = 51 ∨ t = 177) B w v :=
  ⟨hB, h.below hB, h.size, fun _ _ _ hr hn => h.row hr (fun e => hn (.inl e)) (fun e => hn (.inr e))⟩
theorem RQ.byQ (h : RQ w y B room E) (ho : QOnly B w v) : RQ v y B room E := by
  obtain ⟨AL, cL, AT, cT, AG, cG, h1, _⟩ := h.row
  refine h.only ho ?_ fun _ _ _ hr ht => ?_
  · rintro ⟨_, t, cs, hr, ht⟩
    have e := qlrow_same hr h1
    subst e
    rcases ht with ht | ht <;> exact absurd ht (by decide)
  · rintro ⟨_, t', cs', hr', ht'⟩
    have e := qlrow_same hr hr'
    subst e
    rcases ht with rfl | rfl | rfl | rfl <;> (rcases ht' with ht' | ht' <;> exact absurd ht' (by decide))
theorem QRep.kr {X : TypeId → Prop} {last : Nat} (h : QRep B w p room last ts) (hk : KR X B w v) (h1 : ¬ X 51) (h2 : ¬ X 177) (h3 : ¬ X 5) : QRep B v p room last ts := by
  obtain ⟨a1, a2, sv, a3, a4, a5⟩ := h
  refine ⟨a1, Nat.le_trans a2 hk.size, sv, hk.rows _ _ _ a3 h1, ⟨a4.1, ?_⟩, fun t ht => ?_⟩
  · rcases a4.2 with b | ⟨g, cap, cur, b1, b2, b3, b4⟩
    · exact .inl b
    · exact .inr ⟨g, cap, cur, b1, b2, hk.rows g 177 cur b3 h2, b4⟩
  · obtain ⟨b1, b2, b3, cs, b4, b5⟩ := a5 t ht
    exact ⟨b1, b2, b3, cs, hk.rows _ _ _ b4 h3, b5⟩
theorem KR.of34 (h : Only (S34 B w) w v) (hB : B ≤ w.heap.size) : KR (fun t => t = 3 ∨ t = 4) B w v :=
  ⟨hB, h.below hB (fun k hk hs => by have := hs.1; omega), h.size, fun g t cs hr hn => hr.only h (by
    rintro ⟨_, t', cs', hr', ht⟩
    have e := qlrow_same hr hr'
    subst e
    exact hn ht)⟩
theorem QB.later (h : QB w p y B room ts E) (hb : Below w.heap.size w v) : QB v p y B room ts E :=
  { h with c := h.c.later hb, r := h.r.later hb, hB := Nat.le_trans h.hB hb.size }
theorem b8_app (h : ∀ e ∈ E, ∀ b ∈ e.bs, b < 256) {l : List Nat} (hl : ∀ b ∈ l, b < 256) {g c tk : Nat} {gn : Bool} : ∀ e ∈ E ++ [⟨g, c, l, tk, gn⟩], ∀ b ∈ e.bs, b < 256 := by
  intro e he b hb
  rcases List.mem_append.1 he with q | q
  · exact h e q b hb
  · rw [List.mem_singleton] at q
    subst q
    exact hl b hb
theorem b8_set (h : ∀ e ∈ E, ∀ b ∈ e.bs, b < 256) {i : Nat} {e' : Ent} (h' : ∀ b ∈ e'.bs, b < 256) : ∀ e ∈ E.set i e', ∀ b ∈ e.bs, b < 256 := by
  intro e he b hb
  rcases List.mem_or_eq_of_mem_set he with q | q
  · exact h e q b hb
  · subst q
    exact h' b hb
theorem tx_len (ts : List Txt) : (tx ts).length = ts.length := by unfold tx; simp
theorem QB.ids (h : QB w p y B room ts E) : (idk E E.length).length = ts.length := by
  rw [ids_live, ← h.link, List.length_map, tx_len]
theorem QB.bytes (h : QB w p y B room ts E) : byk E E.length = bytesF ts := by
  rw [byk_live, ← h.link, ← bytes_tx]
theorem both_push (A : Option Addr) (l : List Nat) (c : Nat) (h : QB w p y B room ts E) (hE : E.length ≤ 190) (hll : l.length ≤ 9223372036854775807) (hl8 : ∀ b ∈ l, b < 256) (hsrc : ∀ W, KR XQ B w W → QSrcB W A (qbts l)) :
    ∃ (nid : Nat) (er : Int), Calls Try.prog 15 #[.pointer (some ⟨p, 0, none⟩), .slice A l.length c] w fun e w1 => e = .returned (.tuple #[.int .u64 nid, .int .i64 er]) ∧ KR XQ B w w1 ∧
      Calls Try.prog 16 #[.pointer (some ⟨y, 0, none⟩), .slice A l.length c] w1 fun e w3 => e = .returned (.tuple #[.int .u64 nid, .int .i64 er]) ∧ KR XQ B w1 w3 ∧ ∃ ts' E', QB w3 p y B room ts' E' ∧ E'.length ≤ E.length + 1 := by
  have hq : ∀ {W : World}, QOnly B w W → KR XQ B w W := fun ho => (ho.kr h.hB).weaker (fun t e => by unfold XQ; rcases e with e | e; exact .inl e; exact .inr (.inl e))
  have hcall := push_all A l c h.c h.r0 h.r1 h.bt h.ln hll (by omega) (fun W ho => hsrc W (hq ho))
  have hids := h.ids
  have hby := h.bytes
  have hbad : ∀ (er : Int), er ≠ 0 → (er = if l.length = 0 then 1 else if 1000 < l.length then 2 else 5) → (0 < l.length → l.length ≤ 1000 → ts.length = 64 ∨ room < (bytesF ts : Int) + l.length) → ∀ w1, QRep B w1 p room E.length ts → QOnly B w w1 →
      Calls Try.prog 16 #[.pointer (some ⟨y, 0, none⟩), .slice A l.length c] w1 fun e w3 => e = .returned (.tuple #[.int .u64 ((0 : Nat) : Int), .int .i64 er]) ∧ KR XQ B w1 w3 ∧ ∃ ts' E', QB w3 p y B room ts' E' ∧ E'.length ≤ E.length + 1 := by
    intro er h0 he hwhy w1 hq1 ho1
    have hr1 := h.r.byQ ho1
    have hB1 := Nat.le_trans h.hB ho1.size
    have hfin : ∀ w3, Below w1.heap.size w1 w3 → KR XQ B w1 w3 ∧ ∃ ts' E', QB w3 p y B room ts' E' ∧ E'.length ≤ E.length + 1 := fun w3 hb3 =>
      ⟨KR.of_below hB1 hb3, ts, E, ⟨hq1.later hb3, hr1.later hb3, h.hy, Nat.le_trans hB1 hb3.size, h.link, h.r0, h.r1, h.bt, h.ln, h.b8⟩, by omega⟩
    by_cases c0 : l.length = 0
    · rw [if_pos c0] at he
      subst he
      rw [c0]
      refine (rq_push_arg A c w1).mono ?_
      rintro e w3 ⟨rfl, hb3⟩
      exact ⟨rfl, hfin w3 hb3⟩
    · rw [if_neg c0] at he
      by_cases c1 : 1000 < l.length
      · rw [if_pos c1] at he
        subst he
        refine (rq_push_long A l.length c w1 c1).mono ?_
        rintro e w3 ⟨rfl, hb3⟩
        exact ⟨rfl, hfin w3 hb3⟩
      · rw [if_neg c1] at he
        subst he
        by_cases c2 : 64 ≤ ts.length
        · refine (rq_push_many A l.length c hr1 (by omega) (by omega) (by omega)).mono ?_
          rintro e w3 ⟨rfl, hb3⟩
          exact ⟨rfl, hfin w3 hb3⟩
        · refine (rq_push_full A l.length c hr1 (by omega) (by omega) (by omega) (by rcases hwhy (by omega) (by omega) with q | q <;> omega)).mono ?_
          rintro e w3 ⟨rfl, hb3⟩
          exact ⟨rfl, hfin w3 hb3⟩
  by_cases hok : 0 < l.length ∧ l.length ≤ 1000 ∧ ts.length < 64 ∧ (bytesF ts : Int) + l.length ≤ room
  · obtain ⟨k1, k2, k3, k4⟩ := hok
    refine ⟨E.length + 1, 0, hcall.mono ?_⟩
    rintro e w1 ⟨nid, er, rfl, ho, ⟨rfl, rfl, _, _, _, _, t, t1, t2, t3, hq1⟩ | ⟨hne, rfl, hq1, he, hwhy⟩⟩
    · have hr1 := h.r.byQ ho
      have hB1 := Nat.le_trans h.hB ho.size
      refine ⟨rfl, hq ho, (rq_push A l l.length c hr1 rfl k2 k1 (by omega) (by omega) hE h.hy hB1 (hsrc w1 (hq ho))).mono ?_⟩
      rintro e w3 ⟨rfl, ⟨g, cap, hr3⟩, hk⟩
      refine ⟨rfl, hk.weaker (fun t e => by unfold XQ; rcases e with e | e | e | e <;> simp [e]), ts ++ [t], E ++ [⟨g, cap, l, 0, false⟩], ⟨?_, hr3, h.hy, Nat.le_trans hB1 hk.size, ?_, h.r0, h.r1, ?_, ?_, b8_app h.b8 hl8⟩, by simp⟩
      · rw [List.length_append]
        exact hq1.kr hk (by decide) (by decide) (by decide)
      · rw [live_snoc, ← h.link]
        unfold tx
        rw [List.map_append, List.map_singleton, t1, t2, t3, Nat.zero_add]
      · rw [bytesF_snoc, t2]; omega
      · rw [List.length_append]; simp; omega
    · exfalso
      rw [if_neg (by omega), if_neg (by omega)] at he
      rcases hwhy k1 k2 with q | q <;> omega
  · refine ⟨0, if l.length = 0 then 1 else if 1000 < l.length then 2 else 5, hcall.mono ?_⟩
    rintro e w1 ⟨nid, er, rfl, ho, ⟨rfl, rfl, a1, a2, a3, a4, _⟩ | ⟨hne, rfl, hq1, he, hwhy⟩⟩
    · exact absurd ⟨a1, a2, a3, a4⟩ hok
    · rw [← he]
      exact ⟨rfl, hq ho, hbad er hne he hwhy w1 hq1 ho⟩
end
end Go.Proofs.Ytbcjfdhphpckfaa
namespace Go.Proofs.Ytbcjfdhphpckfaa
open Go.RowKit

theorem cutmay_any (x : Int) (w : World) : Calls Try.prog 119 #[.int .i64 x] w fun e w' => e = .returned (.bool (decide (0 < sizeF 1 x))) ∧ w = w' := by
  have HZ := Lib.hid (fun W => size_any 1 x W)
  go_enter Try.func119, Try.ntmps119
  go_wp2_with (go_at_call 121; (with_reducible refine (HZ.out _).mono ?_); rintro e w1 ⟨rfl, rfl⟩)
  go_ret
  exact ⟨rfl, rfl⟩
theorem lens_take_succ {L : List RowB} {k : Nat} {r : RowB} (h : L[k]? = some r) : (lens (L.take (k + 1))).sum = (lens (L.take k)).sum + r.bs.length := by
  obtain ⟨h1, h2⟩ := List.getElem?_eq_some_iff.1 h
  rw [List.take_add_one, h]
  simp [lens]
theorem lens_take_le (L : List RowB) (k : Nat) : (lens (L.take k)).sum ≤ (lens L).sum := by
  have h := List.take_append_drop k L
  have e : (lens L).sum = (lens (L.take k)).sum + (lens (L.drop k)).sum := by
    rw [← List.sum_append]
    unfold lens
    rw [← List.map_append, h]
  omega
set_option maxRecDepth 100000 in
set_option maxHeartbeats 1600000 in
theorem cutsum_any {A : Option Addr} {L : List RowB} (n cap : Nat) (w : World) (hL : L.length = n) (hn : n ≤ 1000) (hs : RSrc w A L) (hsum : (lens L).sum ≤ 1000000) :
    Calls Try.prog 120 #[.slice A n cap] w fun e w' => e = .returned (.int .i64 ((lens L).sum : Nat)) ∧ w = w' := by
  have HS := Lib.hid hs
  have HL := Lib.hid hL
  have HM := Lib.hid (fun k => Nat.le_trans (lens_take_le L k) hsum)
  have HT := Lib.hid (fun (k : Nat) (r : RowB) (h : L[k]? = some r) => lens_take_succ h)
  have HA := Lib.hid (show (lens (L.take n)).sum = (lens L).sum by rw [← hL, List.take_length])
  clear hs hL hsum
  go_enter Try.func120, Try.ntmps120
  go_wp2
  go_loopw [3, 8] (fun s i wr => ∃ k : Nat, k ≤ n ∧ s = .int .i64 ((lens (L.take k)).sum : Nat) ∧ i = .int .i64 k ∧ w = wr) (fun _ i _ => n - (intOf i).toNat)
  case atStart => exact ⟨0, by omega, by simp [lens], rfl, rfl⟩
  case round =>
    obtain ⟨k, hk, rfl, rfl, rfl⟩ := hrel
    by_cases hlt : k < n
    · obtain ⟨ad, rfl, hc⟩ := HS.out (by rw [HL.out]; omega)
      obtain ⟨r, hr⟩ : ∃ r, L[k]? = some r := ⟨_, List.getElem?_eq_getElem (by rw [HL.out]; exact hlt)⟩
      have f0 := (hc k r hr).1
      have HT1 := Lib.hid (HT.out k r hr)
      have b1 := HM.out (k + 1)
      have b0 := HM.out k
      rw [HT1.out] at b1
      have hkI : (k : Int) < (n : Int) := by omega
      unfold RowB.v at f0
      generalize (lens (L.take k)).sum = s at *
      generalize hbl : r.bs.length = bl at *
      clear hc hr
      go_wp2
      go_roundw
      case rel => exact ⟨k + 1, by omega, by rw [HT1.out]; go_num, by go_num, by first | rfl | trivial⟩
      case measure => simp [intOf]; omega
    · have hkn : k = n := by omega
      subst hkn
      have b0 := HM.out k
      rw [HA.out] at *
      go_wp2
      go_ret
      exact ⟨rfl, rfl⟩
/-- how many bytes of what waits the field behind others has -/
def nextF (wl : Nat) (ls : List Nat) (room x : Int) : Int := if 24 ≤ ls.length then 0 else min (wl : Int) (room - (ls.sum : Int) - sizeF ls.length x)
set_option maxRecDepth 100000 in
set_option maxHeartbeats 1600000 in
theorem cutnext_any {A W : Option Addr} {L : List RowB} (wl wc n cap : Nat) (room x : Int) (w : World) (hL : L.length = n) (hn : n ≤ 1000) (hr0 : 0 ≤ room) (hr1 : room ≤ 4000) (hs : RSrc w A L) (hsum : (lens L).sum ≤ 1000000) :
    Calls Try.prog 115 #[.slice W wl wc, .slice A n cap, .int .i64 room, .int .i64 x] w fun e w' => e = .returned (.int .i64 (nextF wl (lens L) room x)) ∧ w = w' := by
  have HSU := Lib.hid (cutsum_any n cap w hL hn hs hsum)
  have HSZ := Lib.hid (fun W => size_any n x W)
  have hz : 0 ≤ sizeF n x ∧ sizeF n x ≤ 46 := sizeF_nonneg n x
  have HLL := Lib.hid (show (lens L).length = n by rw [length_lens, hL])
  by_cases h24 : 24 ≤ n
  · have HF := Lib.hid (show nextF wl (lens L) room x = 0 by unfold nextF; rw [if_pos (by rw [HLL.out]; exact h24)])
    clear hs hsum hL
    go_enter Try.func115, Try.ntmps115
    go_wp2
    go_ret
    exact ⟨by rw [HF.out]; rfl, rfl⟩
  · have HF := Lib.hid (show nextF wl (lens L) room x = min (wl : Int) (room - ((lens L).sum : Int) - sizeF n x) by unfold nextF; rw [if_neg (by rw [HLL.out]; exact h24), HLL.out])
    generalize sizeF n x = z at *
    generalize (lens L).sum = sm at *
    clear hs hL
    go_enter Try.func115, Try.ntmps115
    go_wp2_with (first
      | (go_at_call 120; (with_reducible refine HSU.out.mono ?_); rintro e w1 ⟨rfl, rfl⟩)
      | (go_at_call 121; (with_reducible refine (HSZ.out _).mono ?_); rintro e w1 ⟨rfl, rfl⟩))
    go_ret
    exact ⟨by rw [HF.out]; rfl, rfl⟩
end Go.Proofs.Ytbcjfdhphpckfaa
