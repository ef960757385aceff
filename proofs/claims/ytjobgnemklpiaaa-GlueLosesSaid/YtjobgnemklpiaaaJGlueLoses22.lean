/-
  Pieces of texts, one behind the other: what a glue makes of them (plain lists). cut's Build, as the statements use it; texts of the statement's own are pushed. What cut answers to fixed calls. How the packets and bytes that a statement draws read.
-/
import Derived.Test.YtjobgnemklpiaaaJGlueLoses20
import Derived.Test.YtjobgnemklpiaaaJGlueLoses21
import Derived.Lib.SlBytesConst
import Derived.Test.YtjobgnemklpiaaaJGlueLoses06
import Derived.SizedLaws
import Derived.Deep.Matrix
import Derived.Lib.SmallJoins
import Derived.OpenShut
namespace Go.Proofs.Ytjobgnemklpiaaa
open Go.RowKit

structure Pc where
  fi : Int
  A : Option Addr
  L : List RowB
  D : Option Addr
  k : Nat
def Pc.cells (x : Pc) : List Value := [.int .i64 x.fi, .slice x.A x.L.length x.L.length, .slice x.D x.k x.k]
/-- a piece is cut from what waits (the first of it begun, or not) -/
def CStep (hb : Bool) (bss : List (List Nat)) (x : Pc) (hb' : Bool) (bss' : List (List Nat)) : Prop :=
  ∃ n : Int, (0 < x.k ∨ 0 < n) ∧ x.k ≤ bss.length ∧ texts x.L = fieldsT bss x.k n ∧ x.fi = (if hb then 2 else 0) + (if n ≤ 0 then 0 else 1) ∧ x.L.length ≤ 24 ∧
    ((n ≤ 0 ∧ hb' = false ∧ bss' = bss.drop x.k) ∨ (0 < n ∧ hb' = true ∧ ∃ b, bss[x.k]? = some b ∧ n < b.length ∧ bss' = b.drop n.toNat :: bss.drop (x.k + 1)))
def Chain : Bool → List (List Nat) → List Pc → Bool → List (List Nat) → Prop
  | hb, bss, [], hb', bss' => hb = hb' ∧ bss = bss'
  | hb, bss, x :: r, hb', bss' => ∃ h1 b1, CStep hb bss x h1 b1 ∧ Chain h1 b1 r hb' bss'
theorem Chain.snoc {hb h1 h2 : Bool} {bss b1 b2 : List (List Nat)} {P : List Pc} {x : Pc} (h : Chain hb bss P h1 b1) (hs : CStep h1 b1 x h2 b2) : Chain hb bss (P ++ [x]) h2 b2 := by
  induction P generalizing hb bss with
  | nil =>
    obtain ⟨rfl, rfl⟩ := h
    exact ⟨h2, b2, hs, rfl, rfl⟩
  | cons y r ih =>
    obtain ⟨h3, b3, k1, k2⟩ := h
    exact ⟨h3, b3, k1, ih k2⟩
/-- fields that each begin a text -/
theorem goG_beg (fi N : Nat) (c : Bool) (gs : List (List Nat)) : ∀ i, i + gs.length = N → (∀ f ∈ gs, f ≠ [] ∧ f.length ≤ 1000) → fi % 2 = (if c then 1 else 0) → (i = 0 → fi / 2 % 2 = 0) →
    goG fi N i gs ⟨[], 0⟩ = if c then (⟨gs.getLastD [], 0⟩, gs.dropLast) else (⟨[], 0⟩, gs) := by
  induction gs with
  | nil => intro i _ _ _ _; cases c <;> rfl
  | cons f r ih =>
    intro i hi hf hc h0
    have hb : beg fi i = true := by
      unfold beg
      rcases Nat.eq_zero_or_pos i with h | h
      · simp [h, h0 h]
      · simp [h]
    obtain ⟨f1, f2⟩ := hf f (List.mem_cons_self ..)
    have hcome : (⟨[], 0⟩ : GS).come f true (fin fi N i) = ⟨f, 0⟩ := by
      unfold GS.come GS.lose
      simp [f2]
    simp only [goG, hb, hcome]
    cases r with
    | nil =>
      have hN : ¬ i + 1 < N := by simp at hi; omega
      have he : fin fi N i = !c := by
        unfold fin
        rw [decide_eq_false hN, hc]
        cases c <;> rfl
      rw [he]
      cases c
      · simp [GS.told, f1, goG]
      · simp [GS.told, goG, List.getLastD]
    | cons g r2 =>
      have he : fin fi N i = true := by
        unfold fin
        rw [decide_eq_true (by simp at hi; omega)]
        rfl
      rw [he]
      have ht : (⟨f, 0⟩ : GS).told true = (⟨[], 0⟩, [f]) := by unfold GS.told; simp [f1]
      rw [ht]
      simp only
      rw [ih (i + 1) (by simp at hi ⊢; omega) (fun y hy => hf y (List.mem_cons_of_mem _ hy)) hc (by omega)]
      cases c
      · simp
      · simp [List.getLastD, List.dropLast]
/-- what is held, and what waits, is what is not told -/
def fullT (hb : Bool) (bss : List (List Nat)) (h : List Nat) : List (List Nat) := if hb then (match bss with
  | [] => []
  | b :: r => (h ++ b) :: r) else bss
structure GI (F : List (List Nat)) (m : Nat) (hb : Bool) (bss : List (List Nat)) (h : List Nat) : Prop where
  full : F.drop m = fullT hb bss h
  off : hb = false → h = []
  on : hb = true → h ≠ [] ∧ bss ≠ []
  ne : ∀ b ∈ bss, b ≠ []
  le : m ≤ F.length
theorem fieldsT_whole {bss : List (List Nat)} {k : Nat} {n : Int} (h : n ≤ 0) : fieldsT bss k n = bss.take k := by
  unfold fieldsT
  rw [if_pos h, List.append_nil]
theorem fieldsT_cut {bss : List (List Nat)} {k : Nat} {n : Int} {b : List Nat} (h : 0 < n) (hb : bss[k]? = some b) : fieldsT bss k n = bss.take k ++ [b.take n.toNat] := by
  unfold fieldsT
  rw [if_neg (by omega), List.getD_eq_getElem?_getD, hb]
  rfl
theorem drop_at {α : Type} {l : List α} {k : Nat} {b : α} (h : l[k]? = some b) : l.drop k = b :: l.drop (k + 1) := by
  obtain ⟨hk, e⟩ := List.getElem?_eq_some_iff.1 h
  rw [List.drop_eq_getElem_cons hk, e]
theorem getLastD_snoc (l : List (List Nat)) (a : List Nat) : (l ++ [a]).getLastD [] = a := by simp [List.getLastD_eq_getLast?]
theorem put_beg {fi : Nat} {bss : List (List Nat)} {k N i : Nat} {n : Int} (hN : i + (fieldsT bss k n).length = N) (hb : ∀ b ∈ bss, b ≠ [] ∧ b.length ≤ 1000) (hc : fi % 2 = if n ≤ 0 then 0 else 1) (h0 : i = 0 → fi / 2 % 2 = 0) (hk : n ≤ 0 ∨ ∃ b, bss[k]? = some b) :
    goG fi N i (fieldsT bss k n) ⟨[], 0⟩ = (⟨if n ≤ 0 then [] else (bss.getD k []).take n.toNat, 0⟩, bss.take k) := by
  have hall : ∀ f ∈ fieldsT bss k n, f ≠ [] ∧ f.length ≤ 1000 := by
    intro f hf
    unfold fieldsT at hf
    rw [List.mem_append] at hf
    rcases hf with hf | hf
    · exact hb f (List.mem_of_mem_take hf)
    · split at hf
      · cases hf
      · rename_i hn
        rw [List.mem_singleton] at hf
        rcases hk with hk | ⟨b, hk⟩
        · omega
        · rw [List.getD_eq_getElem?_getD, hk] at hf
          simp only [Option.getD_some] at hf
          obtain ⟨q1, q2⟩ := hb b (List.mem_of_getElem? hk)
          have hl : 0 < b.length := List.length_pos_iff.2 q1
          subst hf
          refine ⟨fun e => ?_, ?_⟩
          · have := congrArg List.length e
            rw [List.length_take, List.length_nil] at this
            omega
          · rw [List.length_take]
            omega
  rcases Int.lt_or_le 0 n with hn | hn
  · have h := goG_beg fi N true (fieldsT bss k n) i hN hall (by rw [hc, if_neg (by omega)]; rfl) h0
    rw [h, if_pos rfl, if_neg (by omega)]
    unfold fieldsT
    rw [if_neg (by omega), getLastD_snoc, List.dropLast_concat]
  · have h := goG_beg fi N false (fieldsT bss k n) i hN hall (by rw [hc, if_pos hn]; rfl) h0
    rw [h, if_neg (by decide), if_pos hn, fieldsT_whole hn]
theorem fi_facts (hb : Bool) (n : Int) : (((if hb then 2 else 0) + (if n ≤ 0 then 0 else 1) : Int).toNat % 2 = if n ≤ 0 then 0 else 1) ∧ ((((if hb then 2 else 0) + (if n ≤ 0 then 0 else 1) : Int).toNat / 2 % 2 = 0) ↔ hb = false) := by
  by_cases hn : n ≤ 0
  · rw [if_pos hn, if_pos hn]
    cases hb <;> decide
  · rw [if_neg hn, if_neg hn]
    cases hb <;> decide
/-- a piece is put: its ended texts are told -/
theorem GI.put {F : List (List Nat)} {m : Nat} {hb hb' : Bool} {bss bss' : List (List Nat)} {h : List Nat} {x : Pc} (g : GI F m hb bss h) (hs : CStep hb bss x hb' bss') (hF : ∀ f ∈ F, f.length ≤ 1000) :
    ∃ h', putG x.fi.toNat (texts x.L) false ⟨h, 0⟩ = (⟨h', 0⟩, (F.drop m).take x.k) ∧ GI F (m + x.k) hb' bss' h' := by
  obtain ⟨n, hkn, hk, htx, hfi, h24, hr⟩ := hs
  obtain ⟨fc, f0⟩ := fi_facts hb n
  rw [← hfi] at fc f0
  unfold putG
  rw [if_neg (by decide), htx]
  have hkk : n ≤ 0 ∨ ∃ b, bss[x.k]? = some b := by
    rcases hr with ⟨h1, _⟩ | ⟨_, _, b, h1, _⟩
    · exact .inl h1
    · exact .inr ⟨b, h1⟩
  have hlen : m + x.k ≤ F.length := by
    have h1 := congrArg List.length g.full
    rw [List.length_drop] at h1
    have h2 : (fullT hb bss h).length = bss.length := by
      unfold fullT
      cases hb
      · rfl
      · cases bss <;> rfl
    have := g.le
    omega
  have hmem : ∀ f ∈ F.drop m, f.length ≤ 1000 := fun f hf => hF f (List.mem_of_mem_drop hf)
  rw [g.full] at hmem
  cases hb with
  | false =>
    obtain rfl := g.off rfl
    have hfull := g.full
    rw [show fullT false bss [] = bss from rfl] at hmem hfull
    rw [put_beg (by omega) (fun b hb => ⟨g.ne b hb, hmem b hb⟩) fc (fun _ => f0.2 rfl) hkk, hfull]
    refine ⟨_, rfl, ?_⟩
    rcases hr with ⟨h1, rfl, rfl⟩ | ⟨h1, rfl, b, h2, h3, rfl⟩
    · rw [if_pos h1]
      exact ⟨by rw [← List.drop_drop, hfull]; rfl, fun _ => rfl, (fun h => by cases h), fun b hb => g.ne b (List.mem_of_mem_drop hb), hlen⟩
    · have hg : bss.getD x.k [] = b := by rw [List.getD_eq_getElem?_getD, h2]; rfl
      rw [if_neg (by omega), hg]
      refine ⟨?_, (fun h => by cases h), fun _ => ⟨fun e => ?_, by simp⟩, fun y hy => ?_, hlen⟩
      · rw [← List.drop_drop, hfull, drop_at h2]
        show _ = (b.take n.toNat ++ b.drop n.toNat) :: _
        rw [List.take_append_drop]
      · have := congrArg List.length e
        first | (rw [List.length_take, List.length_nil] at this; omega) | (rw [List.length_drop, List.length_nil] at this; omega)
      · rcases List.mem_cons.1 hy with rfl | hy
        · intro e
          have := congrArg List.length e
          first | (rw [List.length_take, List.length_nil] at this; omega) | (rw [List.length_drop, List.length_nil] at this; omega)
        · exact g.ne y (List.mem_of_mem_drop hy)
  | true =>
    obtain ⟨hh, hbs⟩ := g.on rfl
    cases bss with
    | nil => exact absurd rfl hbs
    | cons b0 r =>
      have hfull := g.full
      rw [show fullT true (b0 :: r) h = (h ++ b0) :: r from rfl] at hmem hfull
      have hl0 := hmem _ (List.mem_cons_self ..)
      rw [List.length_append] at hl0
      have hb0 : beg x.fi.toNat 0 = false := by
        unfold beg
        have : ¬ x.fi.toNat / 2 % 2 = 0 := fun e => by have := f0.1 e; cases this
        simp [this]
      have hcome : ∀ f e, f.length ≤ b0.length → (⟨h, 0⟩ : GS).come f false e = ⟨h ++ f, 0⟩ := by
        intro f e hf
        unfold GS.come
        rw [if_neg (by decide), if_neg hh, if_pos (by show h.length + f.length ≤ 1000; omega)]
      rcases hx : x.k with _ | j
      · -- nothing ends
        have hn : 0 < n := by omega
        obtain ⟨b, h2, h3, h4, h5⟩ : ∃ b, (b0 :: r)[x.k]? = some b ∧ n < b.length ∧ hb' = true ∧ bss' = b.drop n.toNat :: (b0 :: r).drop (x.k + 1) := by
          rcases hr with ⟨h1, _⟩ | ⟨_, h1, b, h2, h3, h4⟩
          · omega
          · exact ⟨b, h2, h3, h1, h4⟩
        rw [hx] at h2 h5
        simp at h2
        subst h2 h4 h5
        rw [fieldsT_cut (b := b0) hn rfl]
        have hfin : fin x.fi.toNat 1 0 = false := by
          unfold fin
          rw [fc, if_neg (by omega)]
          rfl
        simp only [List.take_zero, List.nil_append, List.length_singleton, goG, hb0, hfin]
        rw [hcome _ _ (by simp; omega)]
        refine ⟨h ++ b0.take n.toNat, by simp [GS.told], ?_, (fun h => by cases h), fun _ => ⟨by simp [hh], by simp⟩, fun y hy => ?_, by rw [hx] at hlen; exact hlen⟩
        · rw [Nat.add_zero, hfull]
          show _ = ((h ++ b0.take n.toNat) ++ b0.drop n.toNat) :: _
          rw [List.append_assoc, List.take_append_drop]
          simp
        · rcases List.mem_cons.1 hy with rfl | hy
          · intro e
            have := congrArg List.length e
            first | (rw [List.length_take, List.length_nil] at this; omega) | (rw [List.length_drop, List.length_nil] at this; omega)
          · exact g.ne y (List.mem_of_mem_drop hy)
      · rw [hx] at hk hkk hr hlen
        have hf : fieldsT (b0 :: r) (j + 1) n = b0 :: fieldsT r j n := by unfold fieldsT; simp
        rw [hf]
        have hfin : fin x.fi.toNat (b0 :: fieldsT r j n).length 0 = true := by
          unfold fin
          rcases Int.lt_or_le 0 n with hn | hn
          · have : 0 + 1 < (b0 :: fieldsT r j n).length := by
              unfold fieldsT
              rw [if_neg (by omega)]
              simp
            rw [decide_eq_true this]
            rfl
          · rw [fc, if_pos hn]
            simp
        simp only [goG, hb0, hfin]
        rw [hcome _ _ (Nat.le_refl _)]
        have ht : (⟨h ++ b0, 0⟩ : GS).told true = (⟨[], 0⟩, [h ++ b0]) := by
          unfold GS.told
          simp [hh]
        rw [ht]
        simp only
        have hkk' : n ≤ 0 ∨ ∃ b, r[j]? = some b := by simpa using hkk
        rw [put_beg (bss := r) (k := j) (by simp; omega) (fun b hb => ⟨g.ne b (List.mem_cons_of_mem _ hb), hmem b (List.mem_cons_of_mem _ hb)⟩) fc (by omega) hkk', hfull]
        refine ⟨if n ≤ 0 then [] else (r.getD j []).take n.toNat, by simp, ?_⟩
        have hdr : F.drop (m + (j + 1)) = r.drop j := by
          rw [← List.drop_drop, hfull]
          rfl
        rcases hr with ⟨h1, rfl, rfl⟩ | ⟨h1, rfl, b, h2, h3, rfl⟩
        · rw [if_pos h1]
          exact ⟨by rw [hdr]; rfl, fun _ => rfl, (fun h => by cases h), fun b hb => g.ne b (List.mem_of_mem_drop hb), hlen⟩
        · have h2' : r[j]? = some b := by simpa using h2
          have hg : r.getD j [] = b := by rw [List.getD_eq_getElem?_getD, h2']; rfl
          rw [if_neg (by omega), hg]
          refine ⟨?_, (fun h => by cases h), fun _ => ⟨fun e => ?_, by simp⟩, fun y hy => ?_, hlen⟩
          · rw [hdr, drop_at h2']
            show _ = (b.take n.toNat ++ b.drop n.toNat) :: _
            rw [List.take_append_drop]
            rfl
          · have := congrArg List.length e
            first | (rw [List.length_take, List.length_nil] at this; omega) | (rw [List.length_drop, List.length_nil] at this; omega)
          · rcases List.mem_cons.1 hy with rfl | hy
            · intro e
              have := congrArg List.length e
              first | (rw [List.length_take, List.length_nil] at this; omega) | (rw [List.length_drop, List.length_nil] at this; omega)
            · exact g.ne y (List.mem_of_mem_drop hy)
end Go.Proofs.Ytjobgnemklpiaaa
namespace Go.Proofs.Ytjobgnemklpiaaa
open Go.RowKit

section
variable {B p last : Nat} {R : Int} {w v : World} {ts : List Txt}
/-- what Build does, the queue told whole -/
def CutQ (B p last : Nat) (R : Int) (ts : List Txt) (room x : Int) (w : World) (e : Ending) (w' : World) : Prop :=
  ∃ k n ts', Bld room x (lenT ts) k n ∧ RestT ts k n ts' ∧ QS B p R w' last ts' ∧ QOnly B w w' ∧
    ((k = 0 ∧ n ≤ 0 ∧ e = .returned (.tuple #[.agg #[.int .i64 0, .slice none 0 0, .slice none 0 0], .int .i64 4])) ∨
     ((0 < k ∨ 0 < n) ∧ ∃ A D L, e = .returned (.tuple #[.agg #[.int .i64 (fiT ts n), .slice A L.length L.length, .slice D k k], .int .i64 0]) ∧ texts L = fieldsT (ts.map Txt.bs) k n ∧
        (∃ c, NewRows w.heap.size w' (.slice A L.length c) L) ∧ ∃ c, NewIds w.heap.size w' (.slice D k c) ((ts.take k).map Txt.id)))
theorem lenT_pos (h : ∀ t ∈ ts, 0 < t.bs.length) : ∀ l ∈ lenT ts, 0 < l := by
  intro l hl
  unfold lenT at hl
  rw [List.mem_map] at hl
  obtain ⟨t, ht, rfl⟩ := hl
  exact h t ht
theorem Bld.below {room x n : Int} {k : Nat} (h : Bld room x (lenT ts) k n) (hp : ∀ t ∈ ts, 0 < t.bs.length) : ∀ t, ts[k]? = some t → n < t.bs.length := by
  intro t ht
  have h1 := hp t (List.mem_of_getElem? ht)
  have h2 := lenT_at ht
  rcases h.less with h3 | ⟨_, _, h3⟩
  · omega
  · rw [List.getD_eq_getElem?_getD, h2] at h3
    exact h3
theorem QS.build (h : QS B p R w last ts) (room x : Int) (hr : 0 < R) (hf : faultC room x = 0) :
    Calls Try.prog 55 #[.pointer (some ⟨p, 0, none⟩), .int .i64 room, .int .i64 x] w (CutQ B p last R ts room x w) := by
  refine (cutbuild_ok room x h.q hr h.many (fun t ht => (h.ids t ht).1) hf h.bytes h.bg).mono ?_
  rintro e w' ⟨k, n, ts', h1, h2, h3, h4, h5⟩
  exact ⟨k, n, ts', h1, h2, h2.qs h h3 (h1.below (fun t ht => (h.bytes t ht).1)), h4, h5⟩
/-- something is built -/
theorem QS.build_is (h : QS B p R w last ts) (room x : Int) (hr : 0 < R) (hf : faultC room x = 0) (k : Nat) (n : Int) (hB : Bld room x (lenT ts) k n) (hkn : 0 < k ∨ 0 < n) :
    Calls Try.prog 55 #[.pointer (some ⟨p, 0, none⟩), .int .i64 room, .int .i64 x] w fun e w' => ∃ ts' A D L, e = .returned (.tuple #[.agg #[.int .i64 (fiT ts n), .slice A L.length L.length, .slice D k k], .int .i64 0]) ∧ RestT ts k n ts' ∧ QS B p R w' last ts' ∧ QOnly B w w' ∧ texts L = fieldsT (ts.map Txt.bs) k n ∧
        (∃ c, NewRows w.heap.size w' (.slice A L.length c) L) ∧ ∃ c, NewIds w.heap.size w' (.slice D k c) ((ts.take k).map Txt.id) := by
  refine (h.build room x hr hf).mono ?_
  rintro e w' ⟨k', n', ts', h1, h2, h3, h4, h5⟩
  obtain ⟨rfl, rfl⟩ := h1.only hB (lenT_pos (fun t ht => (h.bytes t ht).1))
  rcases h5 with ⟨h6, h7, _⟩ | ⟨_, A, D, L, h6, h7, h8, h9⟩
  · omega
  · exact ⟨ts', A, D, L, h6, h2, h3, h4, h7, h8, h9⟩
/-- nothing is built -/
theorem QS.build_none (h : QS B p R w last ts) (room x : Int) (hr : 0 < R) (hf : faultC room x = 0) (n : Int) (hB : Bld room x (lenT ts) 0 n) (hn : n ≤ 0) :
    Calls Try.prog 55 #[.pointer (some ⟨p, 0, none⟩), .int .i64 room, .int .i64 x] w fun e w' => e = .returned (.tuple #[.agg #[.int .i64 0, .slice none 0 0, .slice none 0 0], .int .i64 4]) ∧ QS B p R w' last ts ∧ QOnly B w w' := by
  refine (h.build room x hr hf).mono ?_
  rintro e w' ⟨k', n', ts', h1, h2, h3, h4, h5⟩
  obtain ⟨rfl, rfl⟩ := h1.only hB (lenT_pos (fun t ht => (h.bytes t ht).1))
  rcases h2 with ⟨_, rfl⟩ | ⟨h2, _⟩
  · rcases h5 with ⟨_, _, h6⟩ | ⟨h6, _⟩
    · exact ⟨h6, h3, h4⟩
    · omega
  · omega
theorem csrc_mark (w1 : World) (l : List Nat) (fr : Nat × Nat) (W : World) (h : QOnly B (w1.alloc (.cells (bts l).toArray 5 fr)) W) : QSrcB W (some ⟨w1.heap.size, 0, none⟩) (qbts l) := by
  intro _
  have hnew : (w1.alloc (.cells (bts l).toArray 5 fr)).heap[w1.heap.size]? = some (.cells (bts l).toArray 5 fr) := heap_alloc_new w1 _
  have hW : W.heap[w1.heap.size]? = some (.cells (bts l).toArray 5 fr) := by
    rw [Only.same h w1.heap.size (by simp) (fun ⟨_, t, cs, hr, ht⟩ => ?_)]
    · exact hnew
    · unfold Row at hr
      rw [hnew] at hr
      injection hr with hr
      injection hr with _ hr
      subst hr
      rcases ht with ht | ht
      · exact absurd ht (by decide)
      · exact absurd ht (by decide)
  refine ⟨_, _, rfl, fun j u hu => ?_⟩
  rw [Nat.zero_add, cell_of_row W w1.heap.size j _ 5 fr hW]
  have hu' : (bts l)[j]? = some u := hu
  simpa using hu'
theorem cpush_const (h : QS B p R w last ts) (l : List Nat) (n : Nat) (fr : Nat × Nat) (hn : l.length = n) (hr : 0 < R) (hr2 : R ≤ 20000) (hlast : last ≤ 1000000) (h0 : 0 < n) (h1 : n ≤ 1000) (hm : ts.length < 64) (hf : (bytesF ts : Int) + n ≤ R) (hb : ∀ b ∈ l, b < 256) :
    Calls Try.prog 36 #[.pointer (some ⟨p, 0, none⟩), .slice (some ⟨w.heap.size, 0, none⟩) n n] (w.alloc (.cells (bts l).toArray 5 fr)) fun e w' => e = .returned (.tuple #[.int .u64 (last + 1 : Nat), .int .i64 0]) ∧ (∃ t : Txt, t.id = last + 1 ∧ t.bs = l ∧ t.bg = false ∧ QS B p R w' (last + 1) (ts ++ [t])) ∧ Below B w w' := by
  subst hn
  have hbl := bl_alloc (Below.refl w.heap.size w) (.cells (bts l).toArray 5 fr)
  refine ((h.later hbl).push (some ⟨w.heap.size, 0, none⟩) l l.length hr hr2 (by omega) (by omega) hb (fun W hW => csrc_mark w l fr W hW)).mono ?_
  rintro e w' ⟨nid, er, rfl, ho, ⟨rfl, rfl, _, _, _, _, t, k1, k2, ⟨k3, _⟩, k4⟩ | ⟨k1, _, _, k2⟩⟩
  · exact ⟨rfl, ⟨t, k1, k2, k3, k4⟩, (hbl.mono h.q.2.1).trans (ho.below (Nat.le_trans h.q.2.1 hbl.size))⟩
  · omega
end
theorem bld3 : Bld 5 11 [2, 1, 3] 2 (-1) := ⟨by decide, fun i l hi hl => by
  match i, hi, hl with
  | 0, _, hl => simp at hl; subst hl; decide
  | 1, _, hl => simp at hl; subst hl; decide, by decide, by decide⟩
theorem bld1 : Bld 2 11 [3] 0 2 := ⟨by decide, fun i l hi hl => by omega, by decide, by decide⟩
theorem bld2 : Bld 9 11 [1] 1 0 := ⟨by decide, fun i l hi hl => by
  match i, hi, hl with
  | 0, _, hl => simp at hl; subst hl; decide, by decide, by decide⟩
theorem bld0 : Bld 9 11 [] 0 0 := ⟨by decide, fun i l hi hl => by omega, by decide, by decide⟩
end Go.Proofs.Ytjobgnemklpiaaa
namespace Go.Proofs.Ytjobgnemklpiaaa
open Go.RowKit

theorem three_texts {t1 t2 t3 : Txt} (h1 : t1.bs = [97, 98]) (h2 : t2.bs = [99]) (h3 : t3.bs = [100, 101, 102]) : lenT ([] ++ [t1] ++ [t2] ++ [t3]) = [2, 1, 3] := by
  simp [lenT, h1, h2, h3]
set_option maxRecDepth 100000 in
set_option maxHeartbeats 6400000 in
theorem calive_any (w : World) : Calls Try.prog 53 #[] w fun e w' => e = .returned (.bool true) ∧ Below w.heap.size w w' := by
  have kc1 := fun w => Lib.run_convert_bytes_const (P := Try.prog) w 61 5 #[.int .u8 97, .int .u8 98] 2 2 Try.underlying61 Try.underlying5
  have kc2 := fun w => Lib.run_convert_bytes_const (P := Try.prog) w 61 5 #[.int .u8 99] 1 1 Try.underlying61 Try.underlying5
  have kc3 := fun w => Lib.run_convert_bytes_const (P := Try.prog) w 61 5 #[.int .u8 100, .int .u8 101, .int .u8 102] 3 3 Try.underlying61 Try.underlying5
  go_enter Try.func53, Try.ntmps53
  go_wp2_with fail
  refine (qnew_any w.heap.size 100 w (Nat.le_refl _) (by omega) (by omega)).mono ?_
  rintro e w1 ⟨rfl, hq1, hb1⟩
  generalize hp : w.heap.size = p at *
  have HP := Lib.hid hp
  have HQ1 := Lib.hid (QS.start hq1 (by omega))
  have HB1 := Lib.hid hb1
  have HP1 : Hid (Calls Try.prog 36 #[.pointer (some ⟨p, 0, none⟩), .slice (some ⟨w1.heap.size, 0, none⟩) 2 2] (w1.alloc (.cells #[.int .u8 97, .int .u8 98] 5 (2, 3))) fun e w' => e = .returned (.tuple #[.int .u64 1, .int .i64 0]) ∧ (∃ t : Txt, t.id = 1 ∧ t.bs = [97, 98] ∧ t.bg = false ∧ QS p p 100 w' 1 ([] ++ [t])) ∧ Below p w1 w') :=
    Lib.hid (cpush_const HQ1.out [97, 98] 2 (2, 3) rfl (by omega) (by omega) (by omega) (by omega) (by omega) (by simp) (by simp [bytesF]) (by simp))
  clear hq1 hb1 hp
  go_wp2_with fail
  refine HP1.out.mono ?_
  rintro e w2 ⟨rfl, ⟨t1, i1, b1, g1, hq2⟩, hb2⟩
  have HT1 := Lib.hid (And.intro i1 (And.intro b1 g1))
  have HQ2 := Lib.hid hq2
  have HB2 := Lib.hid (HB1.out.trans hb2)
  have HP2 : Hid (Calls Try.prog 36 #[.pointer (some ⟨p, 0, none⟩), .slice (some ⟨w2.heap.size, 0, none⟩) 1 1] (w2.alloc (.cells #[.int .u8 99] 5 (1, 2))) fun e w' => e = .returned (.tuple #[.int .u64 2, .int .i64 0]) ∧ (∃ t : Txt, t.id = 2 ∧ t.bs = [99] ∧ t.bg = false ∧ QS p p 100 w' 2 ([] ++ [t1] ++ [t])) ∧ Below p w2 w') :=
    Lib.hid (cpush_const HQ2.out [99] 1 (1, 2) rfl (by omega) (by omega) (by omega) (by omega) (by omega) (by simp) (by simp [bytesF, b1]) (by simp))
  clear i1 b1 g1 hq2 hb2
  go_wp2_with fail
  refine HP2.out.mono ?_
  rintro e w3 ⟨rfl, ⟨t2, i2, b2, g2, hq3⟩, hb3⟩
  have HT2 := Lib.hid (And.intro i2 (And.intro b2 g2))
  have HQ3 := Lib.hid hq3
  have HB3 := Lib.hid (HB2.out.trans hb3)
  have HP3 : Hid (Calls Try.prog 36 #[.pointer (some ⟨p, 0, none⟩), .slice (some ⟨w3.heap.size, 0, none⟩) 3 3] (w3.alloc (.cells #[.int .u8 100, .int .u8 101, .int .u8 102] 5 (3, 4))) fun e w' => e = .returned (.tuple #[.int .u64 3, .int .i64 0]) ∧ (∃ t : Txt, t.id = 3 ∧ t.bs = [100, 101, 102] ∧ t.bg = false ∧ QS p p 100 w' 3 ([] ++ [t1] ++ [t2] ++ [t])) ∧ Below p w3 w') :=
    Lib.hid (cpush_const HQ3.out [100, 101, 102] 3 (3, 4) rfl (by omega) (by omega) (by omega) (by omega) (by omega) (by simp) (by simp [bytesF, HT1.out.2.1, b2]) (by simp))
  clear i2 b2 g2 hq3 hb3
  go_wp2_with fail
  refine HP3.out.mono ?_
  rintro e w4 ⟨rfl, ⟨t3, i3, b3, g3, hq4⟩, hb4⟩
  have HT3 := Lib.hid (And.intro i3 (And.intro b3 g3))
  have HQ4 := Lib.hid hq4
  have HB4 := Lib.hid (HB3.out.trans hb4)
  have HBU1 := Lib.hid (hq4.build_is 5 11 (by omega) (by decide) 2 (-1) (by rw [three_texts HT1.out.2.1 HT2.out.2.1 b3]; exact bld3) (by omega))
  clear i3 b3 g3 hq4 hb4
  go_wp2_with fail
  refine HBU1.out.mono ?_
  rintro e w5 ⟨ts5, A5, D5, L5, rfl, hr5, hq5, ho5, htx5, ⟨c5, hn5⟩, d5, hi5⟩
  have h5 : headBg ([] ++ [t1] ++ [t2] ++ [t3]) = false := by
    simp only [List.nil_append, List.cons_append, headBg]
    exact HT1.out.2.2
  have e5 : fiT ([] ++ [t1] ++ [t2] ++ [t3]) (-1) = 0 := by rw [fiT_zero h5 (by omega)]; rfl
  clear h5
  have l5 : L5.length = 2 := by
    have := congrArg List.length htx5
    rw [length_texts] at this
    simpa [fieldsT] using this
  have s5 : ts5 = [t3] := by
    rcases hr5 with ⟨_, h⟩ | ⟨h, _⟩
    · simpa using h
    · omega
  subst s5
  rw [e5, l5]
  have HL5 := Lib.hid (show lens L5 = [2, 1] by
    rw [lens_fieldsT htx5 (.inl (by omega)), three_texts HT1.out.2.1 HT2.out.2.1 HT3.out.2.1]
    decide)
  have HN5 := Lib.hid hn5
  have HLL := Lib.hid l5
  have hbx5 := bl_alloc (Below.refl w5.heap.size w5) (.cells #[.int .i64 0, .slice A5 2 2, .slice D5 2 2] 91)
  have HR5 := Lib.hid (Row.made w5 91 #[.int .i64 0, .slice A5 2 2, .slice D5 2 2])
  have HQ5 := Lib.hid (hq5.later hbx5)
  have HO5 := Lib.hid ((HB4.out.trans (ho5.below HQ4.out.q.2.1)).trans (hbx5.mono hq5.q.2.1))
  have HNX5 := Lib.hid (hn5.later hbx5)
  have HBU2 := Lib.hid (HQ5.out.build_is 2 11 (by omega) (by decide) 0 2 (by rw [show lenT [t3] = [3] by simp [lenT, HT3.out.2.1]]; exact bld1) (by omega))
  clear hr5 hq5 ho5 htx5 hn5 hi5 e5 l5 hbx5
  go_wp2_with fail
  refine HBU2.out.mono ?_
  rintro e w6 ⟨ts6, A6, D6, L6, rfl, hr6, hq6, ho6, htx6, ⟨c6, hn6⟩, d6, hi6⟩
  have e6 : fiT [t3] 2 = 1 := by rw [fiT_pos (ts := [t3]) (b := false) (n := 2) (show t3.bg = false from HT3.out.2.2) (by omega)]; rfl
  have l6 : L6.length = 1 := by
    have := congrArg List.length htx6
    rw [length_texts] at this
    simpa [fieldsT] using this
  obtain ⟨t4, s6, b4, g4⟩ : ∃ t4, ts6 = [t4] ∧ t4.bs = [102] ∧ t4.bg = true := by
    rcases hr6 with ⟨h, _⟩ | ⟨_, t, t', k1, k2, k3, k4, k5⟩
    · omega
    · simp at k1
      subst k1
      refine ⟨t', by simpa using k5, ?_, k4.1⟩
      rw [k3, HT3.out.2.1]
      rfl
  subst s6
  rw [e6, l6]
  have HT4 := Lib.hid (And.intro b4 g4)
  have hbx6 := bl_alloc (Below.refl w6.heap.size w6) (.cells #[.int .i64 1, .slice A6 1 1, .slice D6 0 0] 91)
  have HR6 := Lib.hid (Row.made w6 91 #[.int .i64 1, .slice A6 1 1, .slice D6 0 0])
  have HR56 := Lib.hid ((ho6.row HR5.out (by decide) (by decide)).later hbx6)
  have HNX6 := Lib.hid ((HNX5.out.q ho6).later hbx6)
  have HQ6 := Lib.hid (hq6.later hbx6)
  have HO6 := Lib.hid ((HO5.out.trans (ho6.below HQ5.out.q.2.1)).trans (hbx6.mono hq6.q.2.1))
  have HBU3 := Lib.hid (HQ6.out.build_is 9 11 (by omega) (by decide) 1 0 (by rw [show lenT [t4] = [1] by simp [lenT, b4]]; exact bld2) (by omega))
  clear hr6 hq6 ho6 htx6 hn6 hi6 e6 l6 hbx6 b4 g4
  go_wp2_with fail
  refine HBU3.out.mono ?_
  rintro e w7 ⟨ts7, A7, D7, L7, rfl, hr7, hq7, ho7, htx7, ⟨c7, hn7⟩, d7, hi7⟩
  have e7 : fiT [t4] 0 = 2 := by rw [fiT_zero (ts := [t4]) (b := true) (n := 0) (show t4.bg = true from HT4.out.2) (by omega)]; rfl
  have l7 : L7.length = 1 := by
    have := congrArg List.length htx7
    rw [length_texts] at this
    simpa [fieldsT] using this
  have s7 : ts7 = [] := by
    rcases hr7 with ⟨_, h⟩ | ⟨h, _⟩
    · simpa using h
    · omega
  subst s7
  rw [e7, l7]
  have hbx7 := bl_alloc (Below.refl w7.heap.size w7) (.cells #[.int .i64 2, .slice A7 1 1, .slice D7 1 1] 91)
  have HR7 := Lib.hid (Row.made w7 91 #[.int .i64 2, .slice A7 1 1, .slice D7 1 1])
  have HR57 := Lib.hid ((ho7.row HR56.out (by decide) (by decide)).later hbx7)
  have HR67 := Lib.hid ((ho7.row HR6.out (by decide) (by decide)).later hbx7)
  have HNX7 := Lib.hid ((HNX6.out.q ho7).later hbx7)
  have HQ7 := Lib.hid (hq7.later hbx7)
  have HO7 := Lib.hid ((HO6.out.trans (ho7.below HQ6.out.q.2.1)).trans (hbx7.mono hq7.q.2.1))
  have HBU4 := Lib.hid (HQ7.out.build_none 9 11 (by omega) (by decide) 0 bld0 (by omega))
  clear hr7 hq7 ho7 htx7 hn7 hi7 e7 l7 hbx7
  go_wp2_with fail
  refine HBU4.out.mono ?_
  rintro e w8 ⟨rfl, hq8, ho8⟩
  have hbx8 := bl_alloc (Below.refl w8.heap.size w8) (.cells #[.int .i64 0, .slice none 0 0, .slice none 0 0] 91)
  have r5 := (ho8.row HR57.out (by decide) (by decide)).later hbx8
  have r6 := (ho8.row HR67.out (by decide) (by decide)).later hbx8
  have r7 := (ho8.row HR7.out (by decide) (by decide)).later hbx8
  have a0 := r5.read (i := 0) (x := .int .i64 0) rfl
  have a1 := r5.read (i := 1) (x := .slice A5 2 2) rfl
  have a2 := r5.read (i := 2) (x := .slice D5 2 2) rfl
  have b0 := r6.read (i := 0) (x := .int .i64 1) rfl
  have b2 := r6.read (i := 2) (x := .slice D6 0 0) rfl
  have d0 := r7.read (i := 0) (x := .int .i64 2) rfl
  have d2 := r7.read (i := 2) (x := .slice D7 1 1) rfl
  have HO8 := Lib.hid ((HO7.out.trans (ho8.below HQ7.out.q.2.1)).trans (hbx8.mono hq8.q.2.1))
  have hcb := cutbytes_any (D := D5) 0 11 2 2 2 2 (w8.alloc (.cells #[.int .i64 0, .slice none 0 0, .slice none 0 0] 91)) HLL.out (by omega) ((HNX7.out.q ho8).later hbx8).src (by rw [HL5.out]; decide)
  rw [HL5.out, show bytesC [2, 1] 11 = 5 by decide] at hcb
  have HCB := Lib.hid hcb
  have HS8 := Lib.hid (Nat.le_trans hq8.q.2.1 hbx8.size)
  clear r5 r6 r7 hq8 ho8 hbx8 hcb
  go_wp2_with (go_at_call 58; (with_reducible refine HCB.out.mono ?_); rintro e w10 ⟨rfl, hb10⟩; (have HB10 := Lib.hid hb10; clear hb10))
  go_ret
  rw [HP.out]
  exact ⟨rfl, HO8.out.trans (HB10.out.mono HS8.out)⟩
end Go.Proofs.Ytjobgnemklpiaaa
namespace Go.Proofs.Ytjobgnemklpiaaa
open Go.ChangeShapes Go.WideShapes Go.ChangeAt Go.RowKit Go.Deep


theorem Try.cells5 : Try.prog.cellsOf 5 = 1 := by kernel_rfl
theorem Try.cells61 : Try.prog.cellsOf 61 = 1 := by kernel_rfl
theorem nums_src {W : World} {a : Addr} {cap len : Nat} {zs : List Int} (hl : len ≤ cap) (hz : zs.length = cap) (hc : ∀ j, j < cap → W.cell? (a.add j) = some (.int .u8 (zs.getD j 0))) (hw : ∀ n ∈ zs, (Lit.int .u8 n).wf = true) :
    ((zs.take len).map Int.toNat).length = len ∧ Src W (some a) (bts ((zs.take len).map Int.toNat)) ∧ ∀ b ∈ (zs.take len).map Int.toNat, b < 256 := by
  have hlen : ((zs.take len).map Int.toNat).length = len := by rw [List.length_map, List.length_take]; omega
  refine ⟨hlen, fun h0 => ⟨a, rfl, fun j u hu => ?_⟩, fun b hb => ?_⟩
  · have hj : j < len := by
      have h1 := (List.getElem?_eq_some_iff.1 hu).1
      rw [length_bts, hlen] at h1
      exact h1
    have h2 := hc j (by omega)
    rw [h2]
    have hjz : j < zs.length := by omega
    have hww := bounds_u8 (hw zs[j] (List.getElem_mem hjz))
    have h3 : ((zs.take len).map Int.toNat)[j]? = some zs[j].toNat := by
      rw [List.getElem?_map, List.getElem?_take, if_pos hj, List.getElem?_eq_getElem hjz]
      rfl
    have h4 := bts_at h3
    rw [h4] at hu
    injection hu with hu
    rw [← hu, List.getD_eq_getElem?_getD, List.getElem?_eq_getElem hjz]
    simp only [Option.getD_some]
    rw [Int.toNat_of_nonneg hww.1]
  · rw [List.mem_map] at hb
    obtain ⟨z, hz2, rfl⟩ := hb
    have hww := bounds_u8 (hw z (List.mem_of_mem_take hz2))
    omega
set_option maxRecDepth 100000 in
theorem bytes_arg {H : Type} {enc : TypeId × Value → H} {W : World} {base : Nat} {v : Value} {d : DataW H} {p : List MemPlace} (hok : Value.okWide Try.prog W .any base 61 v)
    (h : DataW.Trod enc Try.prog W 0 (fun _ => true) true 61 v d p) : ∃ (A : Option Addr) (cap : Nat) (l : List Nat), v = .slice A l.length cap ∧ l.length ≤ cap ∧ cap ≤ 9223372036854775807 ∧ Src W A (bts l) ∧ ∀ b ∈ l, b < 256 := by
  obtain ⟨a0, len, cap, rfl⟩ := okWide_slice Try.underlying61 hok
  obtain ⟨fuel, hf⟩ := h
  rcases open_ints Try.underlying61 Try.underlying5 Try.cells5 hf with ⟨hcs, _⟩ | ⟨a, len', cap', zs, hcs, _, hl, hm, hz, _, hcell, hwz⟩
  · simp only [Value.cells] at hcs
    have e : Value.slice a0 len cap = .slice none 0 0 := by simpa using hcs
    rw [e]
    exact ⟨none, 0, [], rfl, Nat.le_refl _, by omega, fun h0 => absurd h0 (by simp [bts]), fun b hb => by cases hb⟩
  · have e : Value.slice a0 len cap = .slice (some a) len' cap' := by simpa [Value.cells] using hcs
    rw [e]
    have hz' : zs.length = cap' := by simpa using hz
    obtain ⟨h1, h2, h3⟩ := nums_src (W := W) (a := a) hl hz' (fun j hj => hcell j (by omega)) hwz
    exact ⟨some a, cap', _, by rw [h1], by omega, by unfold maxLen at hm; exact hm, h2, h3⟩
set_option maxRecDepth 100000 in
theorem rows_cells {H : Type} {enc : TypeId × Value → H} {W : World} {fuel : Nat} {v : Value} {y : DataW H × List MemPlace} (hf : DataW.trod enc Try.prog W 0 (fun _ => true) true fuel 57 [v] = some y) :
    ∃ (A : Option Addr) (cap : Nat) (L : List RowB), v = .slice A L.length cap ∧ L.length ≤ cap ∧ cap ≤ 9223372036854775807 ∧ RSrc W A L ∧ ∀ m ∈ lens L, m ≤ 9223372036854775807 := by
  rcases open_int_rows Try.underlying57 Try.underlying61 Try.underlying5 Try.cells61 Try.cells5 hf with ⟨hcs, _⟩ | ⟨a, len', cap', A, L, C, Z, hcs, _, hl, hm, _, hx⟩
  · have e : v = .slice none 0 0 := by simpa [Value.cells] using hcs
    rw [e]
    exact ⟨none, 0, [], rfl, Nat.le_refl _, by omega, fun h0 => absurd h0 (by simp), fun m hm => by cases hm⟩
  · have e : v = .slice (some a) len' cap' := by simpa [Value.cells] using hcs
    rw [e]
    have hlen : ((List.range len').map fun k => (⟨A k, C k, ((Z k).take (L k)).map Int.toNat⟩ : RowB)).length = len' := by simp
    have hrow : ∀ k r, ((List.range len').map fun k => (⟨A k, C k, ((Z k).take (L k)).map Int.toNat⟩ : RowB))[k]? = some r → W.cell? (a.add k) = some r.v ∧ r.ok W := by
      intro k r hr
      have hk : k < len' := by
        have h1 := (List.getElem?_eq_some_iff.1 hr).1
        rw [hlen] at h1
        exact h1
      have hr' : r = ⟨A k, C k, ((Z k).take (L k)).map Int.toNat⟩ := by
        rw [List.getElem?_map, List.getElem?_range hk] at hr
        simp only [Option.map_some, Option.some.injEq] at hr
        exact hr.symm
      subst hr'
      obtain ⟨h1, h2, h3, h4, h5, h6, h7⟩ := hx k (by omega)
      unfold maxLen at h3
      have hll : (((Z k).take (L k)).map Int.toNat).length = L k := by rw [List.length_map, List.length_take]; omega
      refine ⟨by rw [h1]; show _ = some (Value.slice (A k) (((Z k).take (L k)).map Int.toNat).length (C k)); rw [hll], ?_⟩
      cases hA : A k with
      | none =>
        have hc0 := h6 hA
        have hl0 : L k = 0 := by omega
        refine ⟨fun h0 => ?_, by rw [hll]; exact h2, h3, fun b hb => ?_⟩
        · rw [length_bts, hll] at h0; omega
        · rw [hl0] at hb; simp at hb
      | some a' =>
        obtain ⟨_, hc⟩ := h7 a' hA
        obtain ⟨_, g2, g3⟩ := nums_src (W := W) h2 h4 hc h5
        exact ⟨g2, by rw [hll]; exact h2, h3, g3⟩
    refine ⟨some a, cap', (List.range len').map fun k => ⟨A k, C k, ((Z k).take (L k)).map Int.toNat⟩, by rw [hlen], by omega, by unfold maxLen at hm; exact hm, fun h0 => ⟨a, rfl, hrow⟩, fun m hm2 => ?_⟩
    obtain ⟨k, hk⟩ := List.getElem?_of_mem hm2
    simp only [lens, List.getElem?_map, Option.map_eq_some_iff] at hk
    obtain ⟨r, hr, rfl⟩ := hk
    have h9 := (hrow k r (by rw [List.getElem?_map, Option.map_eq_some_iff]; exact hr)).2
    have := h9.2.1
    have := h9.2.2.1
    omega
set_option maxRecDepth 100000 in
/-- a packet of umd as it came in -/
theorem upack_arg {H : Type} {enc : TypeId × Value → H} {W : World} {base : Nat} {v : Value} {d : DataW H} {p : List MemPlace} (hok : Value.okWide Try.prog W .any base 152 v)
    (h : DataW.Trod enc Try.prog W 0 (fun _ => true) true 152 v d p) : ∃ (fi sn : Int) (A : Option Addr) (cap : Nat) (L : List RowB), v = .agg #[.int .i64 fi, .int .i64 sn, .slice A L.length cap] ∧ L.length ≤ cap ∧ cap ≤ 9223372036854775807 ∧ RSrc W A L ∧ ∀ m ∈ lens L, m ≤ 9223372036854775807 := by
  obtain ⟨v0, v1, v2, y0, y1, y2, k, rfl, _, _, h0, h1, h2⟩ := Joins.open_agg3 Try.underlying152 (by kernel_rfl) (by kernel_rfl) hok h
  obtain ⟨A, cap, L, rfl, g1, g2, g3, g4⟩ := rows_cells h2
  obtain ⟨fi, rfl⟩ : ∃ fi, v0 = .int .i64 fi := by
    obtain ⟨n, h9, _⟩ := DataW.trod_int Try.underlying3 h0
    exact ⟨n, by simpa using h9⟩
  obtain ⟨sn, rfl⟩ : ∃ sn, v1 = .int .i64 sn := by
    obtain ⟨n, h9, _⟩ := DataW.trod_int Try.underlying3 h1
    exact ⟨n, by simpa using h9⟩
  exact ⟨fi, sn, A, cap, L, rfl, g1, g2, g3, g4⟩
end Go.Proofs.Ytjobgnemklpiaaa
