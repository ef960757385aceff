/-
  QueueOrder's second loop: what was taken so far, and what waits.
-/
import Derived.Test.YtmaefeckkodllaaOrdKit
namespace Go.Proofs.Ytmaefeckkodllaa
open Go.RowKit

/-- the texts that wait: the first without its first d bytes -/
def restBs : List RowB → Nat → List (List Nat)
  | [], _ => []
  | r :: rs, d => r.bs.drop d :: rs.map RowB.bs
def curBs : List RowB → List Nat
  | [] => []
  | r :: _ => r.bs
/-- put texts are whole, of the next one d bytes are taken -/
def OrdB (B N : Nat) (rows : List RowB) (put att i : Nat) (nv kv : Value) (wr : World) : Prop :=
  ∃ (last : Nat) (ts : List Txt) (d : Nat), QRep B wr B 20000 last ts ∧ ts.map Txt.bs = restBs (rows.drop put) d ∧ (rows.drop put = [] → d = 0) ∧ (∀ r rs, rows.drop put = r :: rs → d < r.bs.length) ∧
    OwnX wr N 5 1 nv d (bts ((curBs (rows.drop put)).take d)) ∧ OwnX wr B 64 1 kv rows.length (rows.map RowB.cell) ∧ (∀ t ∈ ts, t.g < N) ∧ ts.length ≤ 64 ∧ att + bytesF ts ≤ 20000 ∧ put + d ≤ att ∧ i ≤ att

theorem OwnX.two {w : World} {B C e f size size' : Nat} {v u : Value} {n m : Nat} {xs ys : List Value} (h : OwnX w B e size v n xs) (h' : OwnX w C f size' u m ys) (hne : e ≠ f) : ∀ k, v.ownBlock = some k → u.ownBlock ≠ some k := by
  intro k hk hk'
  rcases h'.2 with ⟨rfl, _⟩ | ⟨g, cap, cur, rfl, _, hh, _⟩
  · simp [Value.ownBlock] at hk'
  · have e1 : g = k := by simpa [Value.ownBlock] using hk'
    subst e1
    exact h.apart (show Row w g f cur from hh) hne hk

theorem now_tail {B N p last : Nat} {room : Int} {ts : List Txt} {W : World} {v kv : Value} {d n m g : Nat} {xs l : List Nat} {ys : List Value} (hown : OwnX W N 5 1 v d (bts xs)) (hq : QRep B W p room last ts) (hts : ∀ t ∈ ts, t.g < N) (hk : OwnX W B 64 1 kv m ys)
    (hN : N ≤ W.heap.size) (hB : B ≤ N) (hb : Bytes W g l) (hl : l.length = n) (hd : d ≤ 20000) (hn : n ≤ 20000) :
    ∃ A' cap' W', (Builtin.append_ #[64, 64] 64 #[v, .slice (some ⟨g, 0, none⟩) n n]).run Try.prog W = .ok (.slice A' (d + n) cap') W' ∧
      OwnX W' N 5 1 (.slice A' (d + n) cap') (d + n) (bts (xs ++ l)) ∧ QRep B W' p room last ts ∧ OwnX W' B 64 1 kv m ys ∧ Below B W W' := by
  obtain ⟨i0, hi, hi0, hi1, hi2⟩ := info5_parts
  obtain ⟨cs, hcs, hcb⟩ := hb
  obtain ⟨v', w3, hr3, h2, h3, _⟩ := run_append_x (P := Try.prog) (w := W) (ty := 64) Try.underlying64 hi hi0 hi1 hi2 rfl hown ⟨g, 0, none⟩ n n (bts l) (by rw [length_bts, hl, Nat.mul_one])
    (fun j u hu => by
      have hj : j < l.length := by have := (List.getElem?_eq_some_iff.1 hu).1; rw [length_bts] at this; exact this
      have hb' := bts_at (List.getElem?_eq_getElem hj)
      rw [hu] at hb'
      injection hb' with hb'
      rw [add_zero_q, hb']
      exact hcs.read (hcb j _ (List.getElem?_eq_getElem hj))) (bts_one l) (by omega) (by simp; omega) hN
  obtain ⟨A', cap', rfl, _, _⟩ := h2.shape
  have ho : Only (fun k => v.ownBlock = some k) W w3 := (Only.refl _ W).grown h3 (fun k hk => .inl hk)
  rw [← bts_append] at h2
  refine ⟨A', cap', w3, hr3, h2, hq.beside ho (fun k hk' t cs hrow => ?_), hk.only ho (fun k hk1 hk2 => hk.two hown (by decide) k hk1 hk2), ho.below (by omega) (fun k hk1 hk2 => by have := (hown.lt k hk2).1; omega)⟩
  have hlt := (hown.lt k hk').1
  refine ⟨?_, fun x hx e => by have := hts x hx; omega⟩
  rcases Classical.em (t = 5) with h5 | h5
  · exact h5
  · exact absurd hk' (hown.apart hrow (fun e => h5 e.symm))
end Go.Proofs.Ytmaefeckkodllaa
