/-
  QueueOrder's second loop: how it begins; one round of it.
-/
import Derived.Test.YtmaefeckkodllaaOrdB
namespace Go.Proofs.Ytmaefeckkodllaa
open Go.RowKit

theorem restBs_zero (rows : List RowB) : restBs rows 0 = rows.map RowB.bs := by
  cases rows with
  | nil => rfl
  | cons r rs => simp [restBs]

theorem OrdA.start {B k : Nat} {w0 wr : World} {kv : Value} (h : OrdA B w0 k kv wr) : ∃ rows : List RowB, rows.length ≤ 64 ∧ (∃ KA kc, kv = .slice KA rows.length kc) ∧ (∀ r ∈ rows, r.ok w0 ∧ 0 < r.bs.length ∧ r.bs.length ≤ 1000) ∧ B ≤ wr.heap.size ∧ OrdB B wr.heap.size rows 0 0 0 (.slice none 0 0) kv wr := by
  obtain ⟨last, ts, rows, hq, _, hbf, hts, _, hmap, hown, hrows⟩ := h
  have hl : rows.length = ts.length := by have := congrArg List.length hmap; simpa using this.symm
  obtain ⟨KA, kc, hkv, _, _⟩ := hown.shape
  refine ⟨rows, by omega, ⟨KA, kc, hkv⟩, hrows, hq.2.1, last, ts, 0, hq, by rw [List.drop_zero, restBs_zero, hmap], fun _ => rfl, fun r rs he => (hrows r (by rw [List.drop_zero] at he; rw [he]; exact List.mem_cons_self ..)).2.1, ?_, hown, fun t ht => ?_, hts, by omega, Nat.le_refl _, Nat.le_refl _⟩
  · rw [List.take_zero]
    exact OwnX.nil
  · obtain ⟨_, _, sv, _, _, hlies⟩ := hq
    obtain ⟨_, _, _, cs, hr, _⟩ := hlies t ht
    exact hr.inside

/-- in a round: the text that is being taken -/
theorem OrdB.round {B N : Nat} {rows : List RowB} {put att i : Nat} {nv kv : Value} {wr : World} (h : OrdB B N rows put att i nv kv wr) (hp : put < rows.length) :
    ∃ (r : RowB) (rs : List RowB) (last : Nat) (t : Txt) (us : List Txt) (d : Nat), rows.drop put = r :: rs ∧ rows[put]? = some r ∧ QRep B wr B 20000 last (t :: us) ∧ t.bs = r.bs.drop d ∧ us.map Txt.bs = rs.map RowB.bs ∧ d < r.bs.length ∧
      OwnX wr N 5 1 nv d (bts (r.bs.take d)) ∧ OwnX wr B 64 1 kv rows.length (rows.map RowB.cell) ∧ (∀ x ∈ t :: us, x.g < N) ∧ us.length < 64 ∧ att + t.bs.length + bytesF us ≤ 20000 ∧ put + d ≤ att ∧ i ≤ att := by
  obtain ⟨last, ts, d, hq, hmap, h0, hd, hn, hk, hg, hl, hb, hp2, hi⟩ := h
  rcases hr : rows.drop put with _ | ⟨r, rs⟩
  · have := congrArg List.length hr
    rw [List.length_drop, List.length_nil] at this
    omega
  · rw [hr] at hmap hn
    unfold restBs at hmap
    unfold curBs at hn
    cases ts with
    | nil => cases hmap
    | cons t us =>
      rw [List.map_cons] at hmap
      injection hmap with m1 m2
      rw [bytesF_cons] at hb
      have hat : rows[put]? = some r := by
        have := congrArg (fun l => l[0]?) hr
        simpa using this
      exact ⟨r, rs, last, t, us, d, rfl, hat, hq, m1, m2, hd r rs hr, hn, hk, hg, by rw [List.length_cons] at hl; omega, by omega, hp2, hi⟩

/-- some of it is taken, not all -/
theorem OrdB.part {B N : Nat} {rows : List RowB} {put att i n d last : Nat} {nv kv : Value} {wr : World} {r : RowB} {rs : List RowB} {t t' : Txt} {us : List Txt} (hr : rows.drop put = r :: rs) (hq : QRep B wr B 20000 last (t' :: us)) (ht : t.bs = r.bs.drop d) (ht' : t'.bs = t.bs.drop n) (hg' : t'.g = t.g)
    (hus : us.map Txt.bs = rs.map RowB.bs) (hlt : d + n < r.bs.length) (hn : OwnX wr N 5 1 nv (d + n) (bts (r.bs.take (d + n)))) (hk : OwnX wr B 64 1 kv rows.length (rows.map RowB.cell)) (hg : ∀ x ∈ t :: us, x.g < N) (hul : us.length < 64)
    (hb : att + t.bs.length + bytesF us ≤ 20000) (hp : put + d ≤ att) (hi : i ≤ att) (h1 : 1 ≤ n) : OrdB B N rows put (att + n) (i + 1) nv kv wr := by
  have hl : t.bs.length = r.bs.length - d := by rw [ht, List.length_drop]
  have hl' : t'.bs.length = r.bs.length - d - n := by rw [ht', List.length_drop, hl]
  refine ⟨last, t' :: us, d + n, hq, ?_, (fun h => by rw [hr] at h; cases h), fun r' rs' h => ?_, ?_, hk, fun x hx => ?_, by rw [List.length_cons]; omega, by rw [bytesF_cons]; omega, by omega, by omega⟩
  · rw [hr, List.map_cons, hus, ht', ht, List.drop_drop]
    rfl
  · rw [hr] at h
    injection h with h _
    rw [← h]
    exact hlt
  · rw [hr]
    exact hn
  · rcases List.mem_cons.1 hx with rfl | hx
    · rw [hg']
      exact hg t (List.mem_cons_self ..)
    · exact hg x (List.mem_cons_of_mem _ hx)

/-- the last of it is taken -/
theorem OrdB.whole {B N : Nat} {rows : List RowB} {put att i n d last : Nat} {kv : Value} {wr : World} {r : RowB} {rs : List RowB} {t : Txt} {us : List Txt} (hrows : ∀ x ∈ rows, 0 < x.bs.length) (hr : rows.drop put = r :: rs) (hq : QRep B wr B 20000 last us) (ht : t.bs = r.bs.drop d)
    (hus : us.map Txt.bs = rs.map RowB.bs) (hlt : d + n = r.bs.length) (hk : OwnX wr B 64 1 kv rows.length (rows.map RowB.cell)) (hg : ∀ x ∈ t :: us, x.g < N) (hul : us.length < 64)
    (hb : att + t.bs.length + bytesF us ≤ 20000) (hp : put + d ≤ att) (hi : i ≤ att) (h1 : 1 ≤ n) : OrdB B N rows (put + 1) (att + n) (i + 1) (.slice none 0 0) kv wr := by
  have hl : t.bs.length = r.bs.length - d := by rw [ht, List.length_drop]
  have hr' : rows.drop (put + 1) = rs := by
    rw [← List.drop_drop, hr]
    rfl
  refine ⟨last, us, 0, hq, by rw [hr', restBs_zero, hus], fun _ => rfl, fun r' rs' h => hrows r' (List.mem_of_mem_drop (i := put + 1) (by rw [h]; exact List.mem_cons_self ..)), ?_, hk, fun x hx => hg x (List.mem_cons_of_mem _ hx), by omega, by omega, by omega, by omega⟩
  rw [List.take_zero]
  exact OwnX.nil
end Go.Proofs.Ytmaefeckkodllaa
