/-
  Pieces of texts, one behind the other: what a glue makes of them (plain lists). How the packets and bytes that a statement draws read. UmtxFits: what stands beside a sender. UmtxFits: a packet built beside what the statement keeps. What is built is read again: of each width.
-/
import Derived.Test.YtgdpjaojlhdhdaaJUmtxFits21
import Derived.Test.YtgdpjaojlhdhdaaJUmtxFits26
import Derived.Test.YtgdpjaojlhdhdaaJUmtxFits11
import Derived.SizedLaws
import Derived.Deep.Matrix
import Derived.Lib.SmallJoins
import Derived.OpenShut
import Derived.Test.YtgdpjaojlhdhdaaJUmtxFits28
namespace Go.Proofs.Ytgdpjaojlhdhdaa
open Go.RowKit

structure Pc where
  fi : Int
  A : Option Addr
  L : List RowB
  D : Option Addr
  k : Nat
def Pc.cells (x : Pc) : List Value := [.int .i64 x.fi, .slice x.A x.L.length x.L.length, .slice x.D x.k x.k]
/-- a piece is cut from what waits (the first of it begun, or not) -/
def CStep (hb : Bool) (bss : List (List Nat)) (x : Pc) (hb' : Bool) (bss' : List (List Nat)) : Prop :=
  ∃ n : Int, (0 < x.k ∨ 0 < n) ∧ x.k ≤ bss.length ∧ texts x.L = fieldsT bss x.k n ∧ x.fi = (if hb then 2 else 0) + (if n ≤ 0 then 0 else 1) ∧ x.L.length ≤ 24 ∧
    ((n ≤ 0 ∧ hb' = false ∧ bss' = bss.drop x.k) ∨ (0 < n ∧ hb' = true ∧ ∃ b, bss[x.k]? = some b ∧ n < b.length ∧ bss' = b.drop n.toNat :: bss.drop (x.k + 1)))
def Chain : Bool → List (List Nat) → List Pc → Bool → List (List Nat) → Prop
  | hb, bss, [], hb', bss' => hb = hb' ∧ bss = bss'
  | hb, bss, x :: r, hb', bss' => ∃ h1 b1, CStep hb bss x h1 b1 ∧ Chain h1 b1 r hb' bss'
theorem Chain.snoc {hb h1 h2 : Bool} {bss b1 b2 : List (List Nat)} {P : List Pc} {x : Pc} (h : Chain hb bss P h1 b1) (hs : CStep h1 b1 x h2 b2) : Chain hb bss (P ++ [x]) h2 b2 := by
  induction P generalizing hb bss with
  | nil =>
    obtain ⟨rfl, rfl⟩ := h
    exact ⟨h2, b2, hs, rfl, rfl⟩
  | cons y r ih =>
    obtain ⟨h3, b3, k1, k2⟩ := h
    exact ⟨h3, b3, k1, ih k2⟩
/-- fields that each begin a text -/
theorem goG_beg (fi N : Nat) (c : Bool) (gs : List (List Nat)) : ∀ i, i + gs.length = N → (∀ f ∈ gs, f ≠ [] ∧ f.length ≤ 1000) → fi % 2 = (if c then 1 else 0) → (i = 0 → fi / 2 % 2 = 0) →
    goG fi N i gs ⟨[], 0⟩ = if c then (⟨gs.getLastD [], 0⟩, gs.dropLast) else (⟨[], 0⟩, gs) := by
  induction gs with
  | nil => intro i _ _ _ _; cases c <;> rfl
  | cons f r ih =>
    intro i hi hf hc h0
    have hb : beg fi i = true := by
      unfold beg
      rcases Nat.eq_zero_or_pos i with h | h
      · simp [h, h0 h]
      · simp [h]
    obtain ⟨f1, f2⟩ := hf f (List.mem_cons_self ..)
    have hcome : (⟨[], 0⟩ : GS).come f true (fin fi N i) = ⟨f, 0⟩ := by
      unfold GS.come GS.lose
      simp [f2]
    simp only [goG, hb, hcome]
    cases r with
    | nil =>
      have hN : ¬ i + 1 < N := by simp at hi; omega
      have he : fin fi N i = !c := by
        unfold fin
        rw [decide_eq_false hN, hc]
        cases c <;> rfl
      rw [he]
      cases c
      · simp [GS.told, f1, goG]
      · simp [GS.told, goG, List.getLastD]
    | cons g r2 =>
      have he : fin fi N i = true := by
        unfold fin
        rw [decide_eq_true (by simp at hi; omega)]
        rfl
      rw [he]
      have ht : (⟨f, 0⟩ : GS).told true = (⟨[], 0⟩, [f]) := by unfold GS.told; simp [f1]
      rw [ht]
      simp only
      rw [ih (i + 1) (by simp at hi ⊢; omega) (fun y hy => hf y (List.mem_cons_of_mem _ hy)) hc (by omega)]
      cases c
      · simp
      · simp [List.getLastD, List.dropLast]
/-- what is held, and what waits, is what is not told -/
def fullT (hb : Bool) (bss : List (List Nat)) (h : List Nat) : List (List Nat) := if hb then (match bss with
  | [] => []
  | b :: r => (h ++ b) :: r) else bss
structure GI (F : List (List Nat)) (m : Nat) (hb : Bool) (bss : List (List Nat)) (h : List Nat) : Prop where
  full : F.drop m = fullT hb bss h
  off : hb = false → h = []
  on : hb = true → h ≠ [] ∧ bss ≠ []
  ne : ∀ b ∈ bss, b ≠ []
  le : m ≤ F.length
theorem fieldsT_whole {bss : List (List Nat)} {k : Nat} {n : Int} (h : n ≤ 0) : fieldsT bss k n = bss.take k := by
  unfold fieldsT
  rw [if_pos h, List.append_nil]
theorem fieldsT_cut {bss : List (List Nat)} {k : Nat} {n : Int} {b : List Nat} (h : 0 < n) (hb : bss[k]? = some b) : fieldsT bss k n = bss.take k ++ [b.take n.toNat] := by
  unfold fieldsT
  rw [if_neg (by omega), List.getD_eq_getElem?_getD, hb]
  rfl
theorem drop_at {α : Type} {l : List α} {k : Nat} {b : α} (h : l[k]? = some b) : l.drop k = b :: l.drop (k + 1) := by
  obtain ⟨hk, e⟩ := List.getElem?_eq_some_iff.1 h
  rw [List.drop_eq_getElem_cons hk, e]
theorem getLastD_snoc (l : List (List Nat)) (a : List Nat) : (l ++ [a]).getLastD [] = a := by simp [List.getLastD_eq_getLast?]
theorem put_beg {fi : Nat} {bss : List (List Nat)} {k N i : Nat} {n : Int} (hN : i + (fieldsT bss k n).length = N) (hb : ∀ b ∈ bss, b ≠ [] ∧ b.length ≤ 1000) (hc : fi % 2 = if n ≤ 0 then 0 else 1) (h0 : i = 0 → fi / 2 % 2 = 0) (hk : n ≤ 0 ∨ ∃ b, bss[k]? = some b) :
    goG fi N i (fieldsT bss k n) ⟨[], 0⟩ = (⟨if n ≤ 0 then [] else (bss.getD k []).take n.toNat, 0⟩, bss.take k) := by
  have hall : ∀ f ∈ fieldsT bss k n, f ≠ [] ∧ f.length ≤ 1000 := by
    intro f hf
    unfold fieldsT at hf
    rw [List.mem_append] at hf
    rcases hf with hf | hf
    · exact hb f (List.mem_of_mem_take hf)
    · split at hf
      · cases hf
      · rename_i hn
        rw [List.mem_singleton] at hf
        rcases hk with hk | ⟨b, hk⟩
        · omega
        · rw [List.getD_eq_getElem?_getD, hk] at hf
          simp only [Option.getD_some] at hf
          obtain ⟨q1, q2⟩ := hb b (List.mem_of_getElem? hk)
          have hl : 0 < b.length := List.length_pos_iff.2 q1
          subst hf
          refine ⟨fun e => ?_, ?_⟩
          · have := congrArg List.length e
            rw [List.length_take, List.length_nil] at this
            omega
          · rw [List.length_take]
            omega
  rcases Int.lt_or_le 0 n with hn | hn
  · have h := goG_beg fi N true (fieldsT bss k n) i hN hall (by rw [hc, if_neg (by omega)]; rfl) h0
    rw [h, if_pos rfl, if_neg (by omega)]
    unfold fieldsT
    rw [if_neg (by omega), getLastD_snoc, List.dropLast_concat]
  · have h := goG_beg fi N false (fieldsT bss k n) i hN hall (by rw [hc, if_pos hn]; rfl) h0
    rw [h, if_neg (by decide), if_pos hn, fieldsT_whole hn]
theorem fi_facts (hb : Bool) (n : Int) : (((if hb then 2 else 0) + (if n ≤ 0 then 0 else 1) : Int).toNat % 2 = if n ≤ 0 then 0 else 1) ∧ ((((if hb then 2 else 0) + (if n ≤ 0 then 0 else 1) : Int).toNat / 2 % 2 = 0) ↔ hb = false) := by
  by_cases hn : n ≤ 0
  · rw [if_pos hn, if_pos hn]
    cases hb <;> decide
  · rw [if_neg hn, if_neg hn]
    cases hb <;> decide
/-- a piece is put: its ended texts are told -/
theorem GI.put {F : List (List Nat)} {m : Nat} {hb hb' : Bool} {bss bss' : List (List Nat)} {h : List Nat} {x : Pc} (g : GI F m hb bss h) (hs : CStep hb bss x hb' bss') (hF : ∀ f ∈ F, f.length ≤ 1000) :
    ∃ h', putG x.fi.toNat (texts x.L) false ⟨h, 0⟩ = (⟨h', 0⟩, (F.drop m).take x.k) ∧ GI F (m + x.k) hb' bss' h' := by
  obtain ⟨n, hkn, hk, htx, hfi, h24, hr⟩ := hs
  obtain ⟨fc, f0⟩ := fi_facts hb n
  rw [← hfi] at fc f0
  unfold putG
  rw [if_neg (by decide), htx]
  have hkk : n ≤ 0 ∨ ∃ b, bss[x.k]? = some b := by
    rcases hr with ⟨h1, _⟩ | ⟨_, _, b, h1, _⟩
    · exact .inl h1
    · exact .inr ⟨b, h1⟩
  have hlen : m + x.k ≤ F.length := by
    have h1 := congrArg List.length g.full
    rw [List.length_drop] at h1
    have h2 : (fullT hb bss h).length = bss.length := by
      unfold fullT
      cases hb
      · rfl
      · cases bss <;> rfl
    have := g.le
    omega
  have hmem : ∀ f ∈ F.drop m, f.length ≤ 1000 := fun f hf => hF f (List.mem_of_mem_drop hf)
  rw [g.full] at hmem
  cases hb with
  | false =>
    obtain rfl := g.off rfl
    have hfull := g.full
    rw [show fullT false bss [] = bss from rfl] at hmem hfull
    rw [put_beg (by omega) (fun b hb => ⟨g.ne b hb, hmem b hb⟩) fc (fun _ => f0.2 rfl) hkk, hfull]
    refine ⟨_, rfl, ?_⟩
    rcases hr with ⟨h1, rfl, rfl⟩ | ⟨h1, rfl, b, h2, h3, rfl⟩
    · rw [if_pos h1]
      exact ⟨by rw [← List.drop_drop, hfull]; rfl, fun _ => rfl, (fun h => by cases h), fun b hb => g.ne b (List.mem_of_mem_drop hb), hlen⟩
    · have hg : bss.getD x.k [] = b := by rw [List.getD_eq_getElem?_getD, h2]; rfl
      rw [if_neg (by omega), hg]
      refine ⟨?_, (fun h => by cases h), fun _ => ⟨fun e => ?_, by simp⟩, fun y hy => ?_, hlen⟩
      · rw [← List.drop_drop, hfull, drop_at h2]
        show _ = (b.take n.toNat ++ b.drop n.toNat) :: _
        rw [List.take_append_drop]
      · have := congrArg List.length e
        first | (rw [List.length_take, List.length_nil] at this; omega) | (rw [List.length_drop, List.length_nil] at this; omega)
      · rcases List.mem_cons.1 hy with rfl | hy
        · intro e
          have := congrArg List.length e
          first | (rw [List.length_take, List.length_nil] at this; omega) | (rw [List.length_drop, List.length_nil] at this; omega)
        · exact g.ne y (List.mem_of_mem_drop hy)
  | true =>
    obtain ⟨hh, hbs⟩ := g.on rfl
    cases bss with
    | nil => exact absurd rfl hbs
    | cons b0 r =>
      have hfull := g.full
      rw [show fullT true (b0 :: r) h = (h ++ b0) :: r from rfl] at hmem hfull
      have hl0 := hmem _ (List.mem_cons_self ..)
      rw [List.length_append] at hl0
      have hb0 : beg x.fi.toNat 0 = false := by
        unfold beg
        have : ¬ x.fi.toNat / 2 % 2 = 0 := fun e => by have := f0.1 e; cases this
        simp [this]
      have hcome : ∀ f e, f.length ≤ b0.length → (⟨h, 0⟩ : GS).come f false e = ⟨h ++ f, 0⟩ := by
        intro f e hf
        unfold GS.come
        rw [if_neg (by decide), if_neg hh, if_pos (by show h.length + f.length ≤ 1000; omega)]
      rcases hx : x.k with _ | j
      · -- nothing ends
        have hn : 0 < n := by omega
        obtain ⟨b, h2, h3, h4, h5⟩ : ∃ b, (b0 :: r)[x.k]? = some b ∧ n < b.length ∧ hb' = true ∧ bss' = b.drop n.toNat :: (b0 :: r).drop (x.k + 1) := by
          rcases hr with ⟨h1, _⟩ | ⟨_, h1, b, h2, h3, h4⟩
          · omega
          · exact ⟨b, h2, h3, h1, h4⟩
        rw [hx] at h2 h5
        simp at h2
        subst h2 h4 h5
        rw [fieldsT_cut (b := b0) hn rfl]
        have hfin : fin x.fi.toNat 1 0 = false := by
          unfold fin
          rw [fc, if_neg (by omega)]
          rfl
        simp only [List.take_zero, List.nil_append, List.length_singleton, goG, hb0, hfin]
        rw [hcome _ _ (by simp; omega)]
        refine ⟨h ++ b0.take n.toNat, by simp [GS.told], ?_, (fun h => by cases h), fun _ => ⟨by simp [hh], by simp⟩, fun y hy => ?_, by rw [hx] at hlen; exact hlen⟩
        · rw [Nat.add_zero, hfull]
          show _ = ((h ++ b0.take n.toNat) ++ b0.drop n.toNat) :: _
          rw [List.append_assoc, List.take_append_drop]
          simp
        · rcases List.mem_cons.1 hy with rfl | hy
          · intro e
            have := congrArg List.length e
            first | (rw [List.length_take, List.length_nil] at this; omega) | (rw [List.length_drop, List.length_nil] at this; omega)
          · exact g.ne y (List.mem_of_mem_drop hy)
      · rw [hx] at hk hkk hr hlen
        have hf : fieldsT (b0 :: r) (j + 1) n = b0 :: fieldsT r j n := by unfold fieldsT; simp
        rw [hf]
        have hfin : fin x.fi.toNat (b0 :: fieldsT r j n).length 0 = true := by
          unfold fin
          rcases Int.lt_or_le 0 n with hn | hn
          · have : 0 + 1 < (b0 :: fieldsT r j n).length := by
              unfold fieldsT
              rw [if_neg (by omega)]
              simp
            rw [decide_eq_true this]
            rfl
          · rw [fc, if_pos hn]
            simp
        simp only [goG, hb0, hfin]
        rw [hcome _ _ (Nat.le_refl _)]
        have ht : (⟨h ++ b0, 0⟩ : GS).told true = (⟨[], 0⟩, [h ++ b0]) := by
          unfold GS.told
          simp [hh]
        rw [ht]
        simp only
        have hkk' : n ≤ 0 ∨ ∃ b, r[j]? = some b := by simpa using hkk
        rw [put_beg (bss := r) (k := j) (by simp; omega) (fun b hb => ⟨g.ne b (List.mem_cons_of_mem _ hb), hmem b (List.mem_cons_of_mem _ hb)⟩) fc (by omega) hkk', hfull]
        refine ⟨if n ≤ 0 then [] else (r.getD j []).take n.toNat, by simp, ?_⟩
        have hdr : F.drop (m + (j + 1)) = r.drop j := by
          rw [← List.drop_drop, hfull]
          rfl
        rcases hr with ⟨h1, rfl, rfl⟩ | ⟨h1, rfl, b, h2, h3, rfl⟩
        · rw [if_pos h1]
          exact ⟨by rw [hdr]; rfl, fun _ => rfl, (fun h => by cases h), fun b hb => g.ne b (List.mem_of_mem_drop hb), hlen⟩
        · have h2' : r[j]? = some b := by simpa using h2
          have hg : r.getD j [] = b := by rw [List.getD_eq_getElem?_getD, h2']; rfl
          rw [if_neg (by omega), hg]
          refine ⟨?_, (fun h => by cases h), fun _ => ⟨fun e => ?_, by simp⟩, fun y hy => ?_, hlen⟩
          · rw [hdr, drop_at h2']
            show _ = (b.take n.toNat ++ b.drop n.toNat) :: _
            rw [List.take_append_drop]
            rfl
          · have := congrArg List.length e
            first | (rw [List.length_take, List.length_nil] at this; omega) | (rw [List.length_drop, List.length_nil] at this; omega)
          · rcases List.mem_cons.1 hy with rfl | hy
            · intro e
              have := congrArg List.length e
              first | (rw [List.length_take, List.length_nil] at this; omega) | (rw [List.length_drop, List.length_nil] at this; omega)
            · exact g.ne y (List.mem_of_mem_drop hy)
end Go.Proofs.Ytgdpjaojlhdhdaa
namespace Go.Proofs.Ytgdpjaojlhdhdaa
open Go.ChangeShapes Go.WideShapes Go.ChangeAt Go.RowKit Go.Deep


theorem Try.cells5 : Try.prog.cellsOf 5 = 1 := by kernel_rfl
theorem Try.cells30 : Try.prog.cellsOf 30 = 1 := by kernel_rfl
theorem nums_src {W : World} {a : Addr} {cap len : Nat} {zs : List Int} (hl : len ≤ cap) (hz : zs.length = cap) (hc : ∀ j, j < cap → W.cell? (a.add j) = some (.int .u8 (zs.getD j 0))) (hw : ∀ n ∈ zs, (Lit.int .u8 n).wf = true) :
    ((zs.take len).map Int.toNat).length = len ∧ Src W (some a) (bts ((zs.take len).map Int.toNat)) ∧ ∀ b ∈ (zs.take len).map Int.toNat, b < 256 := by
  have hlen : ((zs.take len).map Int.toNat).length = len := by rw [List.length_map, List.length_take]; omega
  refine ⟨hlen, fun h0 => ⟨a, rfl, fun j u hu => ?_⟩, fun b hb => ?_⟩
  · have hj : j < len := by
      have h1 := (List.getElem?_eq_some_iff.1 hu).1
      rw [length_bts, hlen] at h1
      exact h1
    have h2 := hc j (by omega)
    rw [h2]
    have hjz : j < zs.length := by omega
    have hww := bounds_u8 (hw zs[j] (List.getElem_mem hjz))
    have h3 : ((zs.take len).map Int.toNat)[j]? = some zs[j].toNat := by
      rw [List.getElem?_map, List.getElem?_take, if_pos hj, List.getElem?_eq_getElem hjz]
      rfl
    have h4 := bts_at h3
    rw [h4] at hu
    injection hu with hu
    rw [← hu, List.getD_eq_getElem?_getD, List.getElem?_eq_getElem hjz]
    simp only [Option.getD_some]
    rw [Int.toNat_of_nonneg hww.1]
  · rw [List.mem_map] at hb
    obtain ⟨z, hz2, rfl⟩ := hb
    have hww := bounds_u8 (hw z (List.mem_of_mem_take hz2))
    omega
set_option maxRecDepth 100000 in
theorem bytes_arg {H : Type} {enc : TypeId × Value → H} {W : World} {base : Nat} {v : Value} {d : DataW H} {p : List MemPlace} (hok : Value.okWide Try.prog W .any base 30 v)
    (h : DataW.Trod enc Try.prog W 0 (fun _ => true) true 30 v d p) : ∃ (A : Option Addr) (cap : Nat) (l : List Nat), v = .slice A l.length cap ∧ l.length ≤ cap ∧ cap ≤ 9223372036854775807 ∧ Src W A (bts l) ∧ ∀ b ∈ l, b < 256 := by
  obtain ⟨a0, len, cap, rfl⟩ := okWide_slice Try.underlying30 hok
  obtain ⟨fuel, hf⟩ := h
  rcases open_ints Try.underlying30 Try.underlying5 Try.cells5 hf with ⟨hcs, _⟩ | ⟨a, len', cap', zs, hcs, _, hl, hm, hz, _, hcell, hwz⟩
  · simp only [Value.cells] at hcs
    have e : Value.slice a0 len cap = .slice none 0 0 := by simpa using hcs
    rw [e]
    exact ⟨none, 0, [], rfl, Nat.le_refl _, by omega, fun h0 => absurd h0 (by simp [bts]), fun b hb => by cases hb⟩
  · have e : Value.slice a0 len cap = .slice (some a) len' cap' := by simpa [Value.cells] using hcs
    rw [e]
    have hz' : zs.length = cap' := by simpa using hz
    obtain ⟨h1, h2, h3⟩ := nums_src (W := W) (a := a) hl hz' (fun j hj => hcell j (by omega)) hwz
    exact ⟨some a, cap', _, by rw [h1], by omega, by unfold maxLen at hm; exact hm, h2, h3⟩
set_option maxRecDepth 100000 in
theorem rows_cells {H : Type} {enc : TypeId × Value → H} {W : World} {fuel : Nat} {v : Value} {y : DataW H × List MemPlace} (hf : DataW.trod enc Try.prog W 0 (fun _ => true) true fuel 40 [v] = some y) :
    ∃ (A : Option Addr) (cap : Nat) (L : List RowB), v = .slice A L.length cap ∧ L.length ≤ cap ∧ cap ≤ 9223372036854775807 ∧ RSrc W A L ∧ ∀ m ∈ lens L, m ≤ 9223372036854775807 := by
  rcases open_int_rows Try.underlying40 Try.underlying30 Try.underlying5 Try.cells30 Try.cells5 hf with ⟨hcs, _⟩ | ⟨a, len', cap', A, L, C, Z, hcs, _, hl, hm, _, hx⟩
  · have e : v = .slice none 0 0 := by simpa [Value.cells] using hcs
    rw [e]
    exact ⟨none, 0, [], rfl, Nat.le_refl _, by omega, fun h0 => absurd h0 (by simp), fun m hm => by cases hm⟩
  · have e : v = .slice (some a) len' cap' := by simpa [Value.cells] using hcs
    rw [e]
    have hlen : ((List.range len').map fun k => (⟨A k, C k, ((Z k).take (L k)).map Int.toNat⟩ : RowB)).length = len' := by simp
    have hrow : ∀ k r, ((List.range len').map fun k => (⟨A k, C k, ((Z k).take (L k)).map Int.toNat⟩ : RowB))[k]? = some r → W.cell? (a.add k) = some r.v ∧ r.ok W := by
      intro k r hr
      have hk : k < len' := by
        have h1 := (List.getElem?_eq_some_iff.1 hr).1
        rw [hlen] at h1
        exact h1
      have hr' : r = ⟨A k, C k, ((Z k).take (L k)).map Int.toNat⟩ := by
        rw [List.getElem?_map, List.getElem?_range hk] at hr
        simp only [Option.map_some, Option.some.injEq] at hr
        exact hr.symm
      subst hr'
      obtain ⟨h1, h2, h3, h4, h5, h6, h7⟩ := hx k (by omega)
      unfold maxLen at h3
      have hll : (((Z k).take (L k)).map Int.toNat).length = L k := by rw [List.length_map, List.length_take]; omega
      refine ⟨by rw [h1]; show _ = some (Value.slice (A k) (((Z k).take (L k)).map Int.toNat).length (C k)); rw [hll], ?_⟩
      cases hA : A k with
      | none =>
        have hc0 := h6 hA
        have hl0 : L k = 0 := by omega
        refine ⟨fun h0 => ?_, by rw [hll]; exact h2, h3, fun b hb => ?_⟩
        · rw [length_bts, hll] at h0; omega
        · rw [hl0] at hb; simp at hb
      | some a' =>
        obtain ⟨_, hc⟩ := h7 a' hA
        obtain ⟨_, g2, g3⟩ := nums_src (W := W) h2 h4 hc h5
        exact ⟨g2, by rw [hll]; exact h2, h3, g3⟩
    refine ⟨some a, cap', (List.range len').map fun k => ⟨A k, C k, ((Z k).take (L k)).map Int.toNat⟩, by rw [hlen], by omega, by unfold maxLen at hm; exact hm, fun h0 => ⟨a, rfl, hrow⟩, fun m hm2 => ?_⟩
    obtain ⟨k, hk⟩ := List.getElem?_of_mem hm2
    simp only [lens, List.getElem?_map, Option.map_eq_some_iff] at hk
    obtain ⟨r, hr, rfl⟩ := hk
    have h9 := (hrow k r (by rw [List.getElem?_map, Option.map_eq_some_iff]; exact hr)).2
    have := h9.2.1
    have := h9.2.2.1
    omega
set_option maxRecDepth 100000 in
/-- a packet of umd as it came in -/
theorem upack_arg {H : Type} {enc : TypeId × Value → H} {W : World} {base : Nat} {v : Value} {d : DataW H} {p : List MemPlace} (hok : Value.okWide Try.prog W .any base 42 v)
    (h : DataW.Trod enc Try.prog W 0 (fun _ => true) true 42 v d p) : ∃ (fi sn : Int) (A : Option Addr) (cap : Nat) (L : List RowB), v = .agg #[.int .i64 fi, .int .i64 sn, .slice A L.length cap] ∧ L.length ≤ cap ∧ cap ≤ 9223372036854775807 ∧ RSrc W A L ∧ ∀ m ∈ lens L, m ≤ 9223372036854775807 := by
  obtain ⟨v0, v1, v2, y0, y1, y2, k, rfl, _, _, h0, h1, h2⟩ := Joins.open_agg3 Try.underlying42 (by kernel_rfl) (by kernel_rfl) hok h
  obtain ⟨A, cap, L, rfl, g1, g2, g3, g4⟩ := rows_cells h2
  obtain ⟨fi, rfl⟩ : ∃ fi, v0 = .int .i64 fi := by
    obtain ⟨n, h9, _⟩ := DataW.trod_int Try.underlying3 h0
    exact ⟨n, by simpa using h9⟩
  obtain ⟨sn, rfl⟩ : ∃ sn, v1 = .int .i64 sn := by
    obtain ⟨n, h9, _⟩ := DataW.trod_int Try.underlying3 h1
    exact ⟨n, by simpa using h9⟩
  exact ⟨fi, sn, A, cap, L, rfl, g1, g2, g3, g4⟩
end Go.Proofs.Ytgdpjaojlhdhdaa
namespace Go.Proofs.Ytgdpjaojlhdhdaa
open Go.RowKit

theorem uf_tail {B : Nat} {w : World} {kv : Value} {L : List RowB} (h : w.ownsRow B 30 1 kv L.length (L.map RowB.v)) (r : RowB) (hB : B ≤ w.heap.size) (hL : L.length ≤ 1000) :
    ∃ A' c' w2, (Builtin.append_ #[40, 40] 40 #[kv, .slice (some ⟨w.heap.size, 0, none⟩) 1 1]).run Try.prog (w.alloc (.cells #[r.v] 30)) = .ok (.slice A' (L.length + 1) c') w2 ∧
      w2.ownsRow B 30 1 (.slice A' (L.length + 1) c') (L.length + 1) ((L ++ [r]).map RowB.v) ∧ Only (fun k => kv.ownBlock = some k) w w2 := by
  obtain ⟨i0, hi, hi0, hi1, hi2⟩ := info_parts Try.info30
  have hbA := bl_alloc (Below.refl w.heap.size w) (.cells #[r.v] 30)
  have a4' := own_later2 h hbA
  obtain ⟨v', w2, hrun, hown, hgr, _, hat⟩ := run_append_own_at (P := Try.prog) (w := w.alloc (.cells #[r.v] 30)) B 40 40 30 i0 _ 1 24 Try.underlying40 hi hi0 hi1 hi2 rfl (by omega) kv L.length (L.map RowB.v) a4' ⟨w.heap.size, 0, none⟩ 1 1 [r.v] rfl
    (fun j u hu => by
      match j, hu with
      | 0, hu =>
        simp only [List.getElem?_cons_zero, Option.some.injEq] at hu
        subst hu
        rw [add_zero_q]
        exact (Row.made w 30 #[r.v]).read rfl
      | j + 1, hu => simp at hu) (by intro u hu; simp at hu; subst hu; rfl) (by unfold maxLen; omega) (by omega) (by have := hbA.size; omega)
  have hon : Only (fun k => kv.ownBlock = some k) w w2 := (Only.of_below hbA).andThen ((Only.refl _ _).grown hgr (fun k hk => .inl hk) : Only (fun k => kv.ownBlock = some k) _ _) (fun k _ hk => hk)
  obtain ⟨A', c', rfl⟩ : ∃ A' c', v' = .slice A' (L.length + 1) c' := by
    rcases hown.2 with ⟨_, e⟩ | ⟨g, cap, cur, e, _⟩
    · omega
    · exact ⟨some ⟨g, 0, none⟩, cap, e⟩
  exact ⟨A', c', w2, hrun, by rw [List.map_append]; exact hown, hon⟩
theorem uf_form {B e s n : Nat} {w : World} {v : Value} {xs : List Value} (h : w.ownsRow B e s v n xs) : ∃ A c, v = .slice A n c ∧ n ≤ c := by
  rcases h.2 with ⟨rfl, e⟩ | ⟨g, cap, cur, rfl, _, _, h1, _⟩
  · exact ⟨none, 0, by rw [e], by omega⟩
  · exact ⟨_, cap, rfl, h1⟩
theorem uf_cell {W w : World} {A : Option Addr} {xs : List Value} {j : Nat} {u : Value} (h : Src W A xs) (hb : Below W.heap.size W w) (hj : xs[j]? = some u) : ∃ ad, A = some ad ∧ w.cell? (ad.add j) = some u := by
  obtain ⟨ad, rfl, hc⟩ := h (by have := (List.getElem?_eq_some_iff.1 hj).1; omega)
  exact ⟨ad, rfl, cell_below hb (hc j u hj)⟩
theorem uf_step {B p last k : Nat} {n : Int} {w : World} {ts ts' : List Txt} {x : Pc} {R : Int} (hq : QS B p R w last ts) (hr : RestT ts k n ts') (hkn : 0 < k ∨ 0 < n) (hk : k ≤ ts.length) (hn : ∀ t, ts[k]? = some t → n < t.bs.length) (hxk : x.k = k) (hL : texts x.L = fieldsT (ts.map Txt.bs) k n) (hfi : x.fi = fiT ts n) (h24 : x.L.length ≤ 24) :
    CStep (headBg ts) (ts.map Txt.bs) x (headBg ts') (ts'.map Txt.bs) := by
  subst hxk
  refine ⟨n, hkn, by simpa using hk, hL, by rw [hfi]; rfl, h24, ?_⟩
  have hh : headBg ts' = decide (0 < n) := by
    rcases hr with ⟨h0, rfl⟩ | ⟨h0, t, t', h1, h2, h3, h4, rfl⟩
    · rw [decide_eq_false (by omega)]
      cases h : ts.drop x.k with
      | nil => rfl
      | cons a r =>
        refine hq.bg a ?_
        have : a ∈ ts.drop x.k := by rw [h]; exact List.mem_cons_self ..
        rw [show x.k = 1 + (x.k - 1) by omega, ← List.drop_drop] at this
        exact List.mem_of_mem_drop this
    · rw [decide_eq_true h0]
      exact h4.1
  rcases hr with ⟨h0, rfl⟩ | ⟨h0, t, t', h1, h2, h3, h4, rfl⟩
  · exact .inl ⟨h0, by rw [hh]; exact decide_eq_false (by omega), by rw [List.map_drop]⟩
  · exact .inr ⟨h0, by rw [hh]; exact decide_eq_true h0, t.bs, by rw [List.getElem?_map, h1]; rfl, hn t h1, by rw [List.map_cons, h3, List.map_drop]⟩
theorem uf_old {B : Nat} {w w' : World} {v : Value} {L : List RowB} {S : Nat → Prop} (h : OwnR B w v L) (ho : Only S w w') (hS : ∀ k, S k → k < B) : OwnR B w' v L :=
  h.only ho (fun k hk hs => by have := (h.own.lt k hk).1; have := hS k hs; omega) (fun k _ _ hb hs => by have := hS k hs; omega)
theorem rest_far {D k : Nat} {n : Int} {ts ts' : List Txt} (h : RestT ts k n ts') (hD : ∀ t ∈ ts, t.g < D) : ∀ t ∈ ts', t.g < D := by
  intro y hy
  rcases h with ⟨h0, rfl⟩ | ⟨h0, t, t', h1, h2, h3, h4, rfl⟩
  · exact hD y (List.mem_of_mem_drop hy)
  · rcases List.mem_cons.1 hy with rfl | hy
    · rw [h4.2]; exact hD t (List.mem_of_getElem? h1)
    · exact hD y (List.mem_of_mem_drop hy)
theorem uf_held {F : List (List Nat)} {m : Nat} {hb : Bool} {bss : List (List Nat)} {h : List Nat} (g : GI F m hb bss h) (hF : ∀ f ∈ F, f.length ≤ 1000) (hb8 : ∀ f ∈ F, ∀ x ∈ f, x < 256) : h.length ≤ 1000 ∧ ∀ x ∈ h, x < 256 := by
  cases hb with
  | false => rw [g.off rfl]; simp
  | true =>
    obtain ⟨_, h2⟩ := g.on rfl
    cases bss with
    | nil => exact absurd rfl h2
    | cons b r =>
      have hm : (h ++ b) ∈ F := List.mem_of_mem_drop (i := m) (by rw [g.full]; exact List.mem_cons_self ..)
      have h3 := hF _ hm
      rw [List.length_append] at h3
      exact ⟨by omega, fun x hx => hb8 _ hm x (List.mem_append_left _ hx)⟩
theorem uf_good {hb hb' : Bool} {bss bss' : List (List Nat)} {x : Pc} (hs : CStep hb bss x hb' bss') (hr : ∀ r ∈ x.L, 0 < r.bs.length) : okG (x.fi.toNat : Int) (lens x.L) = true ∧ x.fi = (x.fi.toNat : Int) ∧ x.fi.toNat ≤ 3 := by
  obtain ⟨n, hkn, hk, htx, hfi, h24, hr2⟩ := hs
  have hf : 0 ≤ x.fi ∧ x.fi ≤ 3 := by
    rw [hfi]
    cases hb <;> (by_cases hn : n ≤ 0 <;> simp [hn])
  have hl : 0 < x.L.length := by
    rw [← length_texts, htx]
    unfold fieldsT
    rcases Int.lt_or_le 0 n with hn | hn
    · rw [if_neg (by omega)]
      simp
    · rw [if_pos hn, List.append_nil, List.length_take]
      omega
  refine ⟨?_, by omega, by omega⟩
  unfold okG
  simp only [Bool.and_eq_true, decide_eq_true_eq, Bool.not_eq_true', decide_eq_false_iff_not, length_lens]
  refine ⟨⟨⟨⟨by omega, by omega⟩, hl⟩, h24⟩, fun h0 => ?_⟩
  unfold lens at h0
  rw [List.mem_map] at h0
  obtain ⟨r, hr1, e⟩ := h0
  have := hr r hr1
  omega
section
variable {W0 W w v : World} {x q p B : Nat} {c : Cf} {sn wd last : Nat} {ts : List Txt} {kept hv : Value} {K : List RowB} {hd : List Nat}
theorem QRep.besides {room : Int} {S : Nat → Prop} (h : QRep B w p room last ts) (ho : Only S w v) (hS : ∀ k, S k → ∀ t cs, Row w k t cs → (t ≠ 170 ∧ t ≠ 284 ∧ t ≠ 5) ∨ (t = 5 ∧ ∀ x ∈ ts, x.g ≠ k)) : QRep B v p room last ts := by
  obtain ⟨h1, h2, sv, h3, h4, h5⟩ := h
  refine ⟨h1, by have := ho.size; omega, sv, h3.only ho (fun hk => ?_), h4.only ho (fun k hk hk' => ?_), fun t ht => ?_⟩
  · rcases hS _ hk _ _ h3 with h9 | h9
    · exact h9.1 rfl
    · exact absurd h9.1 (by decide)
  · rcases h4.2 with ⟨rfl, _⟩ | ⟨g, cap, cur, rfl, _, hh, _⟩
    · simp [Value.ownBlock] at hk
    · have e : g = k := by simpa [Value.ownBlock] using hk
      subst e
      rcases hS _ hk' _ _ hh with h9 | h9
      · exact h9.2.1 rfl
      · exact absurd h9.1 (by decide)
  · obtain ⟨g1, g2, g3, cs, g4, g5⟩ := h5 t ht
    refine ⟨g1, g2, g3, cs, g4.only ho (fun hk => ?_), g5⟩
    rcases hS _ hk _ _ g4 with h9 | h9
    · exact h9.2.2 rfl
    · exact h9.2 t ht rfl
theorem US.glue {D : Nat} {s : GS} (h : US W w x q c sn wd last ts) (hg : GRep D w p hv s) (hD : ∀ t ∈ ts, t.g < D) (hWD : W.heap.size ≤ D) (hDp : D ≤ p) (ho : Only (GS1 p hv) w v) : US W v x q c sn wd last ts := by
  refine { h with snd := h.snd.only ho (fun hk => ?_), qs := h.qs.with (h.qs.q.besides ho fun k hk t cs hr => ?_), bl := h.bl.trans (ho.below h.bl.size fun k _ hk => ?_) }
  · rcases hk with rfl | hk
    · exact absurd (row_type h.snd hg.1) (by decide)
    · exact own_apart hg.2 h.snd (by decide) hk
  · rcases hk with rfl | hk
    · have e := row_type hr hg.1
      subst e
      exact .inl (by decide)
    · by_cases ht : t = 5
      · exact .inr ⟨ht, fun y hy e => by have h1 := hD y hy; have h2 := (own_block hg.2 k hk).1; omega⟩
      · exact absurd hk (own_apart hg.2 hr (fun e => ht e.symm))
  · rcases hk with rfl | hk
    · omega
    · have := (own_block hg.2 k hk).1; omega
theorem US.other {e s n : Nat} {kv : Value} {xs : List Value} (h : US W w x q c sn wd last ts) (hx : w.ownsRow W.heap.size e s kv n xs) (h1 : e ≠ 170) (h2 : e ≠ 284) (h3 : e ≠ 5) (h4 : e ≠ 202) (ho : Only (fun k => kv.ownBlock = some k) w v) : US W v x q c sn wd last ts := by
  refine { h with snd := h.snd.only ho (fun hk => own_apart hx h.snd h4 hk), qs := h.qs.with (h.qs.q.besides ho fun k hk t cs hr => ?_), bl := h.bl.trans (ho.below h.bl.size fun k _ hk => by have := (own_block hx k hk).1; omega) }
  have key : ∀ t : TypeId, e ≠ t → ∀ ds, ¬ Row w k t ds := fun t hne ds hr => own_apart hx hr hne hk
  refine .inl ⟨fun e => ?_, fun e => ?_, fun e => ?_⟩ <;> (subst e; exact key _ (by assumption) _ hr)
theorem own_uq {B' e size n : Nat} {y : Value} {xs : List Value} {D : Nat} (h : w.ownsRow B' e size y n xs) (h1 : e ≠ 170) (h2 : e ≠ 284) (ho : QOnly D w v) : v.ownsRow B' e size y n xs :=
  own_only h ho fun k hk ⟨_, t, cs, hr, ht⟩ => by
    refine own_apart h hr (fun e => ?_) hk
    subst e
    rcases ht with ht | ht
    · exact h1 ht
    · exact h2 ht
theorem own_uu {B' e size n : Nat} {y : Value} {xs : List Value} {D : Nat} {cs : Array Value} (h : w.ownsRow B' e size y n xs) (hx : Row w x 202 cs) (h1 : e ≠ 170) (h2 : e ≠ 284) (h3 : e ≠ 202) (ho : UOnly D x w v) : v.ownsRow B' e size y n xs :=
  own_only h ho fun k hk hq => by
    rcases hq with ⟨_, t, cs, hr, ht⟩ | hq
    · refine own_apart h hr (fun e => ?_) hk
      subst e
      rcases ht with ht | ht
      · exact h1 ht
      · exact h2 ht
    · subst hq
      exact own_apart h hx h3 hk
/-- while texts are pushed -/
structure UK (W0 W w : World) (x q : Nat) (c : Cf) (wd last : Nat) (ts : List Txt) (kept : Value) (K : List RowB) : Prop where
  us : US W w x q c 0 wd last ts
  keep : w.ownsRow W.heap.size 30 1 kept K.length (K.map RowB.v)
  same : ts.map Txt.bs = K.map RowB.bs
  ok : ∀ r ∈ K, r.ok W0
  noBg : ∀ t ∈ ts, t.bg = false
  b0 : Below W0.heap.size W0 W
theorem UK.push (h : UK W0 W w x q c wd last ts kept K) (r : RowB) (m : Nat) (hm : r.bs.length = m) (hr : r.ok W0) (hlast : last ≤ 100) :
    Calls Try.prog 22 #[.pointer (some ⟨x, 0, none⟩), .slice r.A m r.cap] w fun e w' =>
      (∃ nid er : Int, e = .returned (.tuple #[.int .u64 nid, .int .i64 er]) ∧ er ≠ 0 ∧ UK W0 W w' x q c wd last ts kept K) ∨
      (∃ nid : Nat, e = .returned (.tuple #[.int .u64 nid, .int .i64 0]) ∧ Below W.heap.size W w' ∧ ∃ A n d, kept = .slice A n d ∧ ∃ A' c' w2 t, (Builtin.append_ #[40, 40] 40 #[.slice A n d, .slice (some ⟨w'.heap.size, 0, none⟩) 1 1]).run Try.prog (w'.alloc (.cells #[.slice r.A m r.cap] 30)) = .ok (.slice A' (n + 1) c') w2 ∧
        UK W0 W w2 x q c wd (last + 1) (ts ++ [t]) (.slice A' (n + 1) c') (K ++ [r])) := by
  subst hm
  have hlen := hr.2.1
  have hcap := hr.2.2.1
  have hKl : K.length = ts.length := by have := congrArg List.length h.same; simpa using this.symm
  have hmany := h.us.qs.many
  refine (h.us.push r.A r.bs r.bs.length r.cap rfl (by omega) (by omega) hr.2.2.2 (src_later hr.1 h.b0)).mono ?_
  rintro e w' ⟨nid, er, last2, ts2, rfl, hu, hl2, hoo, ⟨rfl, h0, h1, h2, h3, rfl, rfl, t, k1, k2, k3, rfl⟩ | ⟨h1, rfl, rfl⟩⟩
  · refine .inr ⟨_, rfl, hu.bl, ?_⟩
    have hk' := own_uq h.keep (by decide) (by decide) hoo
    obtain ⟨A, d, ea, _⟩ := uf_form h.keep
    obtain ⟨A', c', w2, g1, g2, g3⟩ := uf_tail hk' r hu.bl.size (by omega)
    refine ⟨A, K.length, d, ea, A', c', w2, t, by rw [ea] at g1; exact g1, hu.other hk' (by decide) (by decide) (by decide) (by decide) g3, by rw [List.length_append]; exact g2, by rw [List.map_append, List.map_append, h.same]; simp [k2], ?_, ?_, h.b0⟩
    · intro y hy
      rw [List.mem_append, List.mem_singleton] at hy
      rcases hy with hy | rfl
      · exact h.ok y hy
      · exact hr
    · intro y hy
      rw [List.mem_append, List.mem_singleton] at hy
      rcases hy with hy | rfl
      · exact h.noBg y hy
      · exact k3
  · exact .inl ⟨nid, er, rfl, h1, hu, own_uq h.keep (by decide) (by decide) hoo, h.same, h.ok, h.noBg, h.b0⟩
/-- while packets are built -/
structure UQ (W0 W w : World) (x q : Nat) (c : Cf) (sn wd last : Nat) (ts : List Txt) (kept : Value) (K : List RowB) (p : Nat) (hv : Value) (hd : List Nat) : Prop where
  us : US W w x q c sn wd last ts
  keep : w.ownsRow W.heap.size 30 1 kept K.length (K.map RowB.v)
  ok : ∀ r ∈ K, r.ok W0
  small : ∀ r ∈ K, 0 < r.bs.length ∧ r.bs.length ≤ 1000
  rep : GRep p w p hv ⟨hd, 0⟩
  far : ∀ t ∈ ts, t.g < p
  hp : W.heap.size ≤ p
  b0 : Below W0.heap.size W0 W
theorem UQ.later (h : UQ W0 W w x q c sn wd last ts kept K p hv hd) (hb : Below w.heap.size w v) : UQ W0 W v x q c sn wd last ts kept K p hv hd :=
  { h with us := h.us.later hb, keep := own_later2 h.keep hb, rep := h.rep.later hb }
theorem UK.start (h : UK W0 W w x q c wd last ts kept K) (hb : Below w.heap.size w v) (hg : GRep w.heap.size v w.heap.size (.slice none 0 0) ⟨[], 0⟩) : UQ W0 W v x q c 0 wd last ts kept K w.heap.size (.slice none 0 0) [] ∧ GI (K.map RowB.bs) 0 (headBg ts) (ts.map Txt.bs) [] := by
  have hsm : ∀ r ∈ K, 0 < r.bs.length ∧ r.bs.length ≤ 1000 := fun r hr => by
    have : r.bs ∈ ts.map Txt.bs := by rw [h.same]; exact List.mem_map.2 ⟨r, hr, rfl⟩
    obtain ⟨t, ht, e⟩ := List.mem_map.1 this
    rw [← e]
    exact ⟨(h.us.qs.bytes t ht).1, (h.us.qs.bytes t ht).2.1⟩
  have hh : headBg ts = false := by
    cases ts with
    | nil => rfl
    | cons t r => exact h.noBg t (List.mem_cons_self ..)
  refine ⟨⟨h.us.later hb, own_later2 h.keep hb, h.ok, hsm, hg, fun t ht => ?_, h.us.bl.size, h.b0⟩, ?_⟩
  · obtain ⟨_, _, _, _, _, h5⟩ := h.us.qs.q
    obtain ⟨_, _, _, cs, g4, _⟩ := h5 t ht
    exact g4.inside
  · rw [hh]
    refine ⟨h.same.symm, fun _ => rfl, (fun h => by cases h), fun b hb e => ?_, Nat.zero_le _⟩
    obtain ⟨t, ht, rfl⟩ := List.mem_map.1 hb
    have := (h.us.qs.bytes t ht).1
    rw [e] at this
    simp at this
theorem UQ.build {ts' : List Txt} {sn2 k : Nat} {n : Int} (h : UQ W0 W w x q c sn wd last ts kept K p hv hd) (hu : US W v x q c sn2 wd last ts') (ho : UOnly W.heap.size x w v) (hr : RestT ts k n ts') : UQ W0 W v x q c sn2 wd last ts' kept K p hv hd :=
  { h with us := hu, keep := own_uu h.keep h.us.snd (by decide) (by decide) (by decide) ho, rep := ⟨ho.row h.rep.1 (by decide) (by decide) (fun e => by subst e; exact absurd (row_type h.rep.1 h.us.snd) (by decide)), h.rep.2.u h.us.snd ho⟩, far := rest_far hr h.far }
theorem UQ.put {hv' : Value} {h' : List Nat} (h : UQ W0 W w x q c sn wd last ts kept K p hv hd) (ho : Only (GS1 p hv) w v) (hg : GRep p v p hv' ⟨h', 0⟩) : UQ W0 W v x q c sn wd last ts kept K p hv' h' :=
  { h with us := h.us.glue h.rep h.far h.hp (Nat.le_refl _) ho, rep := hg, keep := own_only h.keep ho (fun k hk hx => by
      rcases hx with hx | hx
      · subst hx; exact own_apart h.keep h.rep.1 (by decide) hk
      · exact own_rows_apart h.keep h.rep.2 (by decide) k hk hx) }
theorem UQ.kept_src {A : Option Addr} {nk d : Nat} (h : UQ W0 W w x q c sn wd last ts (.slice A nk d) K p hv hd) : RSrc w A K := by
  have hb : Below W0.heap.size W0 w := bl_step h.b0 h.us.bl
  rcases h.keep.2 with ⟨e, h0⟩ | ⟨g, cap, cur, e, _, _, _⟩
  · intro h9
    omega
  · injection e with e1 e2 e3
    subst e1
    exact fun _ => ⟨_, rfl, fun k r hr => ⟨h.keep.cells (g := g) rfl k _ (by rw [List.getElem?_map, hr]; rfl), (h.ok r (List.mem_of_getElem? hr)).later hb⟩⟩
/-- a packet's texts are put -/
theorem UQ.puts {n : Nat} {hb0 hb1 : Bool} {bss0 bss1 : List (List Nat)} {y : Pc} {m d f : Nat} (h : UQ W0 W w x q c sn wd last ts kept K p hv hd) (g : GI (K.map RowB.bs) n hb0 bss0 hd) (hs : CStep hb0 bss0 y hb1 bss1) (hf : y.fi = (f : Int)) (hrl : ∀ r ∈ y.L, 0 < r.bs.length ∧ r.bs.length ≤ 1000) (hm : y.L.length = m) (ho : OwnR B w (.slice y.A m d) y.L) (hB : ∀ k, GS1 p hv k → k < B) :
    Calls Try.prog 31 #[.pointer (some ⟨p, 0, none⟩), .int .i64 f, .slice y.A m d, .bool false] w fun e w' => ∃ hv' h' L2 A2, e = .returned (.tuple #[.slice A2 y.k y.k, .int .i64 0]) ∧ L2.length = y.k ∧ texts L2 = ((K.map RowB.bs).drop n).take y.k ∧ n + y.k ≤ K.length ∧ RSrc w' A2 L2 ∧ UQ W0 W w' x q c sn wd last ts kept K p hv' h' ∧ GI (K.map RowB.bs) (n + y.k) hb1 bss1 h' := by
  subst hm
  have hF : ∀ f ∈ K.map RowB.bs, f.length ≤ 1000 := fun f hf => by
    obtain ⟨r, hr, rfl⟩ := List.mem_map.1 hf
    exact (h.small r hr).2
  have hF8 : ∀ f ∈ K.map RowB.bs, ∀ x ∈ f, x < 256 := fun f hf => by
    obtain ⟨r, hr, rfl⟩ := List.mem_map.1 hf
    exact (h.ok r hr).2.2.2
  obtain ⟨ok1, ok2, ok3⟩ := uf_good hs (fun r hr => (hrl r hr).1)
  obtain ⟨hh1, hh2⟩ := uf_held g hF hF8
  obtain ⟨h', hp1, hp2⟩ := g.put hs hF
  have hft : y.fi.toNat = f := by omega
  have hsz : p ≤ w.heap.size := by have := h.rep.1.inside; omega
  have hput := gput_ok (p := p) (B := p) (s := ⟨hd, 0⟩) y.fi.toNat y.L.length d false h.rep rfl hsz (fun V hV => (uf_old ho hV hB).src) ok1 (fun _ r hr => by have := (hrl r (List.mem_of_getElem? hr)).2; omega) (by show 0 ≤ 10000; omega) hh1 hh2
  rw [hft] at hput hp1
  rw [hp1] at hput
  refine hput.mono ?_
  rintro e w' ⟨hv', L2, A2, rfl, k1, k2, k3, k4, k5, _⟩
  have hle := hp2.le
  have hl2 : L2.length = y.k := by
    have := congrArg List.length k1
    rw [length_texts, List.length_take, List.length_drop] at this
    omega
  exact ⟨hv', h', L2, A2, by rw [hl2], hl2, k1, by rw [List.length_map] at hle; exact hle, k3, h.put k4 k2, hp2⟩
end
end Go.Proofs.Ytgdpjaojlhdhdaa
namespace Go.Proofs.Ytgdpjaojlhdhdaa
open Go.RowKit

theorem bytesF_dropl {ts : List Txt} {k : Nat} (hp : ∀ t ∈ ts, 0 < t.bs.length) (h0 : 0 < k) (hk : k ≤ ts.length) : bytesF (ts.drop k) < bytesF ts := by
  cases ts with
  | nil => simp at hk; omega
  | cons a r =>
    obtain ⟨j, rfl⟩ : ∃ j, k = j + 1 := ⟨k - 1, by omega⟩
    rw [List.drop_succ_cons, bytesF_cons]
    have h1 := bytesF_sub (List.drop_sublist j r)
    have h2 := hp a (List.mem_cons_self ..)
    omega
theorem rest_less {k : Nat} {n : Int} {ts ts' : List Txt} (h : RestT ts k n ts') (hp : ∀ t ∈ ts, 0 < t.bs.length) (hkn : 0 < k ∨ 0 < n) (hk : k ≤ ts.length) (hn : ∀ t, ts[k]? = some t → n < t.bs.length) : bytesF ts' < bytesF ts := by
  rcases h with ⟨h0, rfl⟩ | ⟨h0, t, t', h1, h2, h3, h4, rfl⟩
  · exact bytesF_dropl hp (by omega) hk
  · have h5 := bytesF_sub (List.drop_sublist k ts)
    rw [drop_at h1, bytesF_cons] at h5
    rw [bytesF_cons, h3, List.length_drop]
    have := hn t h1
    omega
theorem bytesF_none {ts : List Txt} (hp : ∀ t ∈ ts, 0 < t.bs.length) (h : bytesF ts = 0) : ts = [] := by
  cases ts with
  | nil => rfl
  | cons a r =>
    have h2 := hp a (List.mem_cons_self ..)
    rw [bytesF_cons] at h
    omega
section
variable {W0 W w v : World} {x q p B : Nat} {c : Cf} {sn wd last : Nat} {ts : List Txt} {kept hv : Value} {K : List RowB} {hd : List Nat}
theorem UQ.builds (h : UQ W0 W w x q c sn wd last ts kept K p hv hd) (g : Int) (hg : g ≤ 203) (hf : faultU g (bytesF ts : Nat) c.bits = 0) :
    Calls Try.prog 24 #[.pointer (some ⟨x, 0, none⟩), .int .i64 g] w fun e w' => ∃ (k f : Nat) (ts' : List Txt) (D : Option Addr) (L : List RowB) (A : Option Addr) (m cp : Nat), e = .returned (.tuple #[.slice A m cp, .slice D k k, .int .i64 0]) ∧ (m : Int) ≤ g ∧ UQ W0 W w' x q c ((sn + 1) % 2 ^ wd) wd last ts' kept K p hv hd ∧ bytesF ts' < bytesF ts ∧ (umdBytes f sn L wd).length = m ∧ OwnY w.heap.size w' (.slice A m cp) (umdBytes f sn L wd) ∧ umdF f sn (lens L) wd ≠ 0 ∧ (∀ t ∈ texts L, ∀ b ∈ t, b < 256) ∧
      (∀ (M : List RowB) (E : Option Addr), texts M = texts L → CStep (headBg ts) (ts.map Txt.bs) ⟨f, E, M, D, k⟩ (headBg ts') (ts'.map Txt.bs) ∧ ∀ r ∈ M, 0 < r.bs.length ∧ r.bs.length ≤ 1000) := by
  refine (h.us.build g hf).mono ?_
  rintro e w' ⟨k, f, n, ts', D, L, v, rfl, e2, e3, e4, e5, e6, e7, e8, e9, e10, e11, e12⟩
  obtain ⟨A, cp, rfl, _⟩ := e3.form
  have hp9 : ∀ t ∈ ts, 0 < t.bs.length := fun t ht => (h.us.qs.bytes t ht).1
  have hlm : ∀ l ∈ lenT ts, l ≤ 1000 := by
    intro l hl
    unfold lenT at hl
    obtain ⟨t, ht, rfl⟩ := List.mem_map.1 hl
    exact (h.us.qs.bytes t ht).2.1
  have hlens : lens L = fieldsL (lenT ts) k n := lens_fieldsT e6 (by rcases e7.less with h | h; exact .inl h; exact .inr (by omega))
  have hbi := h.us.bits
  have h00 := faultU_zero hf
  have hfit := e7.fits (lenT_pos hp9) (by rcases hbi with hb | hb <;> rw [hb] at h00 ⊢ <;> omega) (show 0 < sizeF 1 11 by decide)
  rw [← hlens] at hfit
  have h24 : L.length ≤ 24 := by have := hfit.2.2; rw [length_lens] at this; exact this
  have hkle : k ≤ ts.length := by have := e7.le; rw [length_lenT] at this; exact this
  have hlen := umd_len e4
  refine ⟨k, f, ts', D, L, A, _, cp, rfl, by omega, h.build e10 e12 e8, rest_less e8 hp9 e9 hkle (e7.below hp9), rfl, e3, e4, by rw [e6]; exact fieldsT_small (fun t ht => (h.us.qs.bytes t ht).2.2), fun M E hM => ⟨?_, fun r hr => ?_⟩⟩
  · exact uf_step (x := ⟨f, E, M, D, k⟩) h.us.qs e8 e9 hkle (e7.below hp9) rfl (hM.trans e6) e2.symm (by have := congrArg List.length hM; rw [length_texts, length_texts] at this; show M.length ≤ 24; omega)
  · have h8 : r.bs.length ∈ fieldsL (lenT ts) k n := by
      rw [← hlens, lens_texts, ← hM]
      exact List.mem_map.2 ⟨r.bs, List.mem_map.2 ⟨r, hr, rfl⟩, rfl⟩
    exact mem_fieldsL e7 (lenT_pos hp9) hlm _ h8
theorem GI.done {F : List (List Nat)} {n : Nat} {h : List Nat} (g : GI F n (headBg []) (([] : List Txt).map Txt.bs) h) : n = F.length ∧ h = [] := by
  have h1 := congrArg List.length g.full
  rw [List.length_drop] at h1
  have h2 := g.le
  refine ⟨?_, g.off rfl⟩
  have h3 : (fullT (headBg []) (([] : List Txt).map Txt.bs) h).length = 0 := rfl
  omega
end
end Go.Proofs.Ytgdpjaojlhdhdaa
namespace Go.Proofs.Ytgdpjaojlhdhdaa
open Go.RowKit

set_option maxRecDepth 100000 in
theorem built_read5 {B f sn m cp : Nat} {A : Option Addr} {L : List RowB} {w : World} (ho : OwnY B w (.slice A m cp) (umdBytes f sn L 5)) (hm : (umdBytes f sn L 5).length = m) (hw : umdF f sn (lens L) ((5 : Nat) : Int) ≠ 0) (hb : ∀ t ∈ texts L, ∀ b ∈ t, b < 256) :
    Calls Try.prog 25 #[.slice A m cp, .int .i64 5] w fun e w' => ∃ (M : List RowB) (A : Option Addr) (c : Nat), e = .returned (.tuple #[.agg #[.int .i64 f, .int .i64 sn, .slice A M.length c], .int .i64 0]) ∧ texts M = texts L ∧ OwnR w.heap.size w' (.slice A M.length c) M ∧ Below w.heap.size w w' := built_read ho hm hw hb
set_option maxRecDepth 100000 in
theorem built_read10 {B f sn m cp : Nat} {A : Option Addr} {L : List RowB} {w : World} (ho : OwnY B w (.slice A m cp) (umdBytes f sn L 10)) (hm : (umdBytes f sn L 10).length = m) (hw : umdF f sn (lens L) ((10 : Nat) : Int) ≠ 0) (hb : ∀ t ∈ texts L, ∀ b ∈ t, b < 256) :
    Calls Try.prog 25 #[.slice A m cp, .int .i64 10] w fun e w' => ∃ (M : List RowB) (A : Option Addr) (c : Nat), e = .returned (.tuple #[.agg #[.int .i64 f, .int .i64 sn, .slice A M.length c], .int .i64 0]) ∧ texts M = texts L ∧ OwnR w.heap.size w' (.slice A M.length c) M ∧ Below w.heap.size w w' := built_read ho hm hw hb
end Go.Proofs.Ytgdpjaojlhdhdaa
