/-
  What QueueOrder keeps beside its queue: the list of the texts that were pushed.
-/
import Derived.Test.YtmaefeckkodllaaQTakeG
namespace Go.Proofs.Ytmaefeckkodllaa
open Go.RowKit

theorem Try.info64 : (Try.prog.info? 64).map (fun i => (i.zero, i.size, i.bytes)) = some (some (.slice none 0 0), 1, 24) := by kernel_rfl
theorem info64_parts : ∃ i, Try.prog.info? 64 = some i ∧ i.zero = some (.slice none 0 0) ∧ i.size = 1 ∧ i.bytes = 24 := info_parts Try.info64
def RowB.cell (r : RowB) : Value := .slice r.A r.bs.length r.cap

/-- an append, at a plain region's list, whose run is known -/
theorem wpList_run {P : Program} {ops : Array Oper} {rest : List Oper} {o : Oper} {a : Act} {w : World} {Q : Exit → Act → World → Prop} (hgd : o.guard = none) (s x : Operand) (t : TypeId)
    (ho : o.op = .call { callee := .builtin .append, args := #[s, x], argTypes := #[t, t] }) (v u : Value) (hs : a.eval s = v) (hx : a.eval x = u) {v' : Value} {w' : World}
    (hr : (Builtin.append_ #[t, t] o.type #[v, u]).run P w = .ok v' w') (h : wpList P ops Q rest (a.put o.dst v') w') : wpList P ops Q (o :: rest) a w :=
  wpList_plain hgd fun _ hK => by
    unfold Oper.wp execOp
    simp only [ho, resolve, invoke, builtin, Sem.run_bind, Sem.run_pure, Result.andThen_ok, List.map_toArray, List.map_cons, List.map_nil, hs, hx, hr]
    exact hK _ _ h

theorem new_one (W : World) (u : Value) (t : TypeId) : ∀ j y, [u][j]? = some y → (W.alloc (.cells #[u] t)).cell? ((⟨W.heap.size, 0, none⟩ : Addr).add j) = some y :=
  World.news_of_block (cs := #[u]) (heap_alloc_new W _)

theorem kept_tail {B p last : Nat} {room : Int} {ts : List Txt} {W : World} {v : Value} {n : Nat} {xs : List Value} (hown : OwnX W B 64 1 v n xs) (hq : QRep B W p room last ts) (hB : B ≤ W.heap.size) (r : Value) (hr : r.oneCell' = true) (hn : n ≤ 1000) :
    ∃ A' cap' W', (Builtin.append_ #[60, 60] 60 #[v, .slice (some ⟨W.heap.size, 0, none⟩) 1 1]).run Try.prog (W.alloc (.cells #[r] 64)) = .ok (.slice A' (n + 1) cap') W' ∧
      OwnX W' B 64 1 (.slice A' (n + 1) cap') (n + 1) (xs ++ [r]) ∧ QRep B W' p room last ts ∧ Below B W W' := by
  obtain ⟨i0, hi, hi0, hi1, hi2⟩ := info64_parts
  have hown3 := hown.alloc (.cells #[r] 64)
  obtain ⟨v', w3, hr3, h2, h3, _⟩ := run_append_x (P := Try.prog) (w := W.alloc (.cells #[r] 64)) (ty := 60) Try.underlying60 hi hi0 hi1 hi2 rfl hown3 ⟨W.heap.size, 0, none⟩ 1 1 [r] rfl
    (new_one W r 64) (by intro u hu; simp at hu; rw [hu]; exact hr) (by omega) (by omega) (by simp; omega)
  obtain ⟨A', cap', rfl, _, _⟩ := h2.shape
  have ho : Only (fun k => v.ownBlock = some k) W w3 := ((Only.refl _ W).alloc (.cells #[r] 64)).grown h3 (fun k hk => .inl hk)
  refine ⟨A', cap', w3, hr3, h2, hq.apart ho (fun k hk t cs hrow => ?_), ho.below hB (fun k hk hk' => by have := (hown.lt k hk').1; omega)⟩
  have h9 : ∀ t : TypeId, (64 : TypeId) ≠ t → ∀ ds, ¬ Row W k t ds := fun t hne ds hr => hown.apart hr hne hk
  refine ⟨fun e => ?_, fun e => ?_, fun e => ?_⟩
  · subst e; exact h9 _ (by decide) _ hrow
  · subst e; exact h9 _ (by decide) _ hrow
  · subst e; exact h9 _ (by decide) _ hrow

/-- after k texts: what was pushed is kept, as it came in, and waits -/
def OrdA (B : Nat) (w0 : World) (k : Nat) (kv : Value) (wr : World) : Prop :=
  ∃ (last : Nat) (ts : List Txt) (rows : List RowB), QRep B wr B 20000 last ts ∧ last ≤ k ∧ (bytesF ts : Int) ≤ 20000 ∧ ts.length ≤ 64 ∧ (∀ t ∈ ts, t.bg = false) ∧ ts.map Txt.bs = rows.map RowB.bs ∧
    OwnX wr B 64 1 kv rows.length (rows.map RowB.cell) ∧ ∀ r ∈ rows, r.ok w0 ∧ 0 < r.bs.length ∧ r.bs.length ≤ 1000

set_option maxRecDepth 100000 in
set_option maxHeartbeats 800000 in
theorem order_guard (A : Option Addr) (N c : Nat) (A2 : Option Addr) (c2 : Nat) (w : World) :
    Calls Try.prog 8 #[.slice A N c, .slice A2 0 c2] w fun e w' => e = .returned (.bool true) ∧ Below w.heap.size w w' := by
  go_enter Try.func8, Try.ntmps8
  go_wp2_with (first
    | (go_at_call 28; refine (qnew_any w.heap.size 20000 w (Nat.le_refl _) (by omega) (by omega)).mono ?_; rintro e w1 ⟨rfl, _, hb1⟩; have HB1 := Lib.hid hb1; clear hb1)
    | (go_at_call 29; refine (alive4_any _).mono ?_; rintro e w2 ⟨rfl, hb2⟩))
  go_ret
  exact ⟨rfl, bl_step HB1.out hb2⟩
end Go.Proofs.Ytmaefeckkodllaa
