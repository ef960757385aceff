/-
  Pieces of texts, some of them missing: what a glue makes of them (plain lists). GlueLoses: what stands beside the glue. GlueLoses walked. A law's row follows from its walk: the call returns true, and below the heap's old size the world is as it was; then every argument reads as it did. How lists of rows of bytes that a statement draws read.
-/
import Derived.Test.YtjobgnemklpiaaaJGlueLoses24
import Derived.StillTailTactics
import Derived.Deep.RegionHeld3
import Derived.Deep.DeepCutAuto
import Derived.Test.YtjobgnemklpiaaaJGlueLoses22
import Derived.Test.YtjobgnemklpiaaaRows
import Derived.WalkKit
import Derived.ProofKit
import Derived.OpenShut
namespace Go.Proofs.Ytjobgnemklpiaaa
open Go.RowKit

theorem goG_begL (fi N : Nat) (c : Bool) (lo : Nat) (gs : List (List Nat)) : ∀ i, i + gs.length = N → (∀ f ∈ gs, f ≠ [] ∧ f.length ≤ 1000) → fi % 2 = (if c then 1 else 0) → (i = 0 → fi / 2 % 2 = 0) →
    goG fi N i gs ⟨[], lo⟩ = if c then (⟨gs.getLastD [], lo⟩, gs.dropLast) else (⟨[], lo⟩, gs) := by
  induction gs with
  | nil => intro i _ _ _ _; cases c <;> rfl
  | cons f r ih =>
    intro i hi hf hc h0
    have hb : beg fi i = true := by
      unfold beg
      rcases Nat.eq_zero_or_pos i with h | h
      · simp [h, h0 h]
      · simp [h]
    obtain ⟨f1, f2⟩ := hf f (List.mem_cons_self ..)
    have hcome : (⟨[], lo⟩ : GS).come f true (fin fi N i) = ⟨f, lo⟩ := by
      unfold GS.come GS.lose
      simp [f2]
    simp only [goG, hb, hcome]
    cases r with
    | nil =>
      have hN : ¬ i + 1 < N := by simp at hi; omega
      have he : fin fi N i = !c := by
        unfold fin
        rw [decide_eq_false hN, hc]
        cases c <;> rfl
      rw [he]
      cases c
      · simp [GS.told, f1, goG]
      · simp [GS.told, goG, List.getLastD]
    | cons g r2 =>
      have he : fin fi N i = true := by
        unfold fin
        rw [decide_eq_true (by simp at hi; omega)]
        rfl
      rw [he]
      have ht : (⟨f, lo⟩ : GS).told true = (⟨[], lo⟩, [f]) := by unfold GS.told; simp [f1]
      rw [ht]
      simp only
      rw [ih (i + 1) (by simp at hi ⊢; omega) (fun y hy => hf y (List.mem_cons_of_mem _ hy)) hc (by omega)]
      cases c
      · simp
      · simp [List.getLastD, List.dropLast]
theorem goG_lost (fi N : Nat) (gs : List (List Nat)) : ∀ i (h : List Nat) (lo d : Nat), goG fi N i gs ⟨h, lo + d⟩ = (⟨(goG fi N i gs ⟨h, lo⟩).1.held, (goG fi N i gs ⟨h, lo⟩).1.lost + d⟩, (goG fi N i gs ⟨h, lo⟩).2) := by
  induction gs with
  | nil => intro i h lo d; rfl
  | cons f r ih =>
    intro i h lo d
    have key : ∀ b e, ((⟨h, lo + d⟩ : GS).come f b e).told e = (⟨(((⟨h, lo⟩ : GS).come f b e).told e).1.held, (((⟨h, lo⟩ : GS).come f b e).told e).1.lost + d⟩, (((⟨h, lo⟩ : GS).come f b e).told e).2) := by
      intro b e
      unfold GS.come GS.told GS.lose
      cases b <;> cases e <;> simp <;> (repeat' split) <;> simp_all <;> omega
    simp only [goG]
    rw [key]
    simp only
    rw [ih]
/-- nothing is held, and the first field does not begin a text -/
theorem put_headless {fi : Nat} {f0 : List Nat} {r : List (List Nat)} (hb0 : beg fi 0 = false) : ∃ d, d ≤ 1 ∧ ∀ lo N, goG fi N 0 (f0 :: r) ⟨[], lo⟩ = goG fi N 1 r ⟨[], lo + (if fin fi N 0 then 1 else 0)⟩ := by
  refine ⟨1, Nat.le_refl _, fun lo N => ?_⟩
  simp only [goG, hb0]
  unfold GS.come GS.told
  cases fin fi N 0 <;> simp
/-- a piece is put behind missing ones: what is held is the beginning of a text, or nothing; or a gap is told -/
theorem GI.put2 {F : List (List Nat)} {m lo : Nat} {hb hb' : Bool} {bss bss' : List (List Nat)} {h h0 : List Nat} {x : Pc} (gap : Bool) (gi : GI F m hb bss h0) (hh : gap = true ∨ h = h0 ∨ h = []) (hs : CStep hb bss x hb' bss') (hF : ∀ f ∈ F, f.length ≤ 1000) :
    ∃ h' lo' d h0', putG x.fi.toNat (texts x.L) gap ⟨h, lo⟩ = (⟨h', lo'⟩, (F.drop (m + d)).take (x.k - d)) ∧ lo' ≤ lo + 2 ∧ m + x.k ≤ F.length ∧ d ≤ 1 ∧ d ≤ x.k ∧ (d = 1 → hb = true) ∧ GI F (m + x.k) hb' bss' h0' ∧ (h' = h0' ∨ h' = []) ∧ (gap = false → h = h0 → d = 0 ∧ h' = h0') := by
  obtain ⟨h1, hp1, hp2⟩ := gi.put hs hF
  -- the state in which the fields come
  obtain ⟨h2, lo2, hl2, hst, hh2, hg2⟩ : ∃ h2 lo2, lo2 ≤ lo + 1 ∧ (if gap then (⟨h, lo⟩ : GS).lose else ⟨h, lo⟩) = ⟨h2, lo2⟩ ∧ (h2 = h0 ∨ h2 = []) ∧ (gap = false → h2 = h) := by
    cases gap
    · exact ⟨h, lo, by omega, by simp, by rcases hh with h | h | h; cases h; exact .inl h; exact .inr h, fun _ => rfl⟩
    · unfold GS.lose
      by_cases he : h = []
      · exact ⟨[], lo, by omega, by simp [he], .inr rfl, fun h => by cases h⟩
      · exact ⟨[], lo + 1, by omega, by simp [he], .inr rfl, fun h => by cases h⟩
  have hpg : putG x.fi.toNat (texts x.L) gap ⟨h, lo⟩ = goG x.fi.toNat (texts x.L).length 0 (texts x.L) ⟨h2, lo2⟩ := by
    unfold putG
    rw [hst]
  have hp1' : goG x.fi.toNat (texts x.L).length 0 (texts x.L) ⟨h0, 0⟩ = (⟨h1, 0⟩, (F.drop m).take x.k) := by
    have := hp1
    unfold putG at this
    simpa using this
  by_cases hcase : h2 = h0
  · -- nothing of it is missing
    subst hcase
    have e := goG_lost x.fi.toNat (texts x.L).length (texts x.L) 0 h2 0 lo2
    rw [Nat.zero_add, hp1'] at e
    refine ⟨h1, lo2, 0, h1, ?_, by omega, hp2.le, by omega, by omega, by omega, hp2, .inl rfl, fun _ _ => ⟨rfl, rfl⟩⟩
    rw [hpg, e]
    simp
  · have h20 : h2 = [] := by rcases hh2 with h | h; exact absurd h hcase; exact h
    subst h20
    have hbt : hb = true := by
      cases hb with
      | true => rfl
      | false => exact absurd (gi.off rfl).symm hcase
    subst hbt
    have hne : h0 ≠ [] := (gi.on rfl).1
    have hnot : gap = false → h = h0 → False := by
      rintro hg rfl
      exact hne (hg2 hg).symm
    obtain ⟨n, hkn, hk, htx, hfi, h24, hr⟩ := id hs
    obtain ⟨fc, f0⟩ := fi_facts true n
    rw [← hfi] at fc f0
    have hb0 : beg x.fi.toNat 0 = false := by
      unfold beg
      have : ¬ x.fi.toNat / 2 % 2 = 0 := fun e => by have := f0.1 e; cases this
      simp [this]
    cases hbs : bss with
    | nil => exact absurd hbs (gi.on rfl).2
    | cons b0 r =>
      subst hbs
      have hfull := gi.full
      rw [show fullT true (b0 :: r) h0 = (h0 ++ b0) :: r from rfl] at hfull
      have hmem : ∀ f ∈ r, f.length ≤ 1000 := fun f hf => hF f (List.mem_of_mem_drop (i := m) (by rw [hfull]; exact List.mem_cons_of_mem _ hf))
      rcases hx : x.k with _ | j
      · have hn : 0 < n := by omega
        have hfs : texts x.L = [b0.take n.toNat] := by
          rw [htx, hx, fieldsT_cut (b := b0) hn rfl]
          rfl
        have hfin : fin x.fi.toNat 1 0 = false := by
          unfold fin
          rw [fc, if_neg (by omega)]
          rfl
        rw [hx] at hp2
        refine ⟨[], lo2, 0, h1, ?_, by omega, hp2.le, by omega, by omega, by omega, hp2, .inr rfl, fun hg hw => (hnot hg hw).elim⟩
        rw [hpg, hfs]
        simp only [List.length_singleton, goG, hb0, hfin]
        unfold GS.come GS.told
        simp
      · have hkk : n ≤ 0 ∨ ∃ b, r[j]? = some b := by
          rcases hr with ⟨h9, _⟩ | ⟨_, _, b, h9, _⟩
          · exact .inl h9
          · rw [hx] at h9
            exact .inr ⟨b, by simpa using h9⟩
        have hfs : texts x.L = b0 :: fieldsT r j n := by
          rw [htx, hx]
          unfold fieldsT
          simp
        have hfin : fin x.fi.toNat (b0 :: fieldsT r j n).length 0 = true := by
          unfold fin
          rcases Int.lt_or_le 0 n with hn | hn
          · have : 0 + 1 < (b0 :: fieldsT r j n).length := by
              unfold fieldsT
              rw [if_neg (by omega)]
              simp
            rw [decide_eq_true this]
            rfl
          · rw [fc, if_pos hn]
            simp
        -- the rest of the fields each begin a text, as they did with all of it there
        have hcome : (⟨h0, 0⟩ : GS).come b0 false true = ⟨h0 ++ b0, 0⟩ := by
          have hl0 := hF (h0 ++ b0) (List.mem_of_mem_drop (i := m) (by rw [hfull]; exact List.mem_cons_self ..))
          rw [List.length_append] at hl0
          unfold GS.come
          rw [if_neg (by decide), if_neg hne, if_pos hl0]
        have ht : (⟨h0 ++ b0, 0⟩ : GS).told true = (⟨[], 0⟩, [h0 ++ b0]) := by
          unfold GS.told
          simp [hne]
        have hrest : goG x.fi.toNat (b0 :: fieldsT r j n).length 1 (fieldsT r j n) ⟨[], 0⟩ = (⟨h1, 0⟩, r.take j) := by
          have := hp1'
          rw [hfs] at this
          simp only [goG, hb0, hfin] at this
          rw [hcome, ht] at this
          simp only [Prod.mk.injEq] at this
          obtain ⟨q1, q2⟩ := this
          rw [hfull, hx] at q2
          simp at q2
          exact Prod.ext q1 q2
        have e := goG_lost x.fi.toNat (b0 :: fieldsT r j n).length (fieldsT r j n) 1 [] 0 (lo2 + 1)
        rw [hrest, Nat.zero_add] at e
        obtain ⟨_, _, hhl⟩ := put_headless (f0 := b0) (r := fieldsT r j n) hb0
        have e2 := hhl lo2 (b0 :: fieldsT r j n).length
        rw [hfin, if_pos rfl, e] at e2
        rw [hx] at hp2
        refine ⟨h1, lo2 + 1, 1, h1, ?_, by omega, hp2.le, by omega, by omega, fun _ => rfl, hp2, .inl rfl, fun hg hw => (hnot hg hw).elim⟩
        rw [hpg, hfs, e2]
        have hd1 : F.drop (m + 1) = r := by
          rw [← List.drop_drop, hfull]
          rfl
        rw [hd1]
        simp
end Go.Proofs.Ytjobgnemklpiaaa
namespace Go.Proofs.Ytjobgnemklpiaaa
open Go.RowKit

/-- behind some pieces, of which some were missing -/
structure JL (w1 : World) (p2 : Nat) (F : List (List Nat)) (P : List Pc) (i m : Nat) (gap whole : Bool) (hv : Value) (hb : Bool) (bss : List (List Nat)) (h : List Nat) (lo : Nat) (w : World) : Prop where
  rep : GRep p2 w p2 hv ⟨h, lo⟩
  below : Below p2 w1 w
  base : p2 = w1.heap.size
  ch : Chain hb bss (P.drop i) false []
  gi : ∃ h0, GI F m hb bss h0 ∧ (gap = true ∨ h = h0 ∨ h = []) ∧ (whole = true → gap = false ∧ h = h0)
  lost : lo ≤ 2 * i
  held : h.length ≤ 1000
  bytes : ∀ x ∈ h, x < 256
theorem JL.later {w1 w v : World} {p2 : Nat} {F : List (List Nat)} {P : List Pc} {i m : Nat} {gap whole : Bool} {hv : Value} {hb : Bool} {bss : List (List Nat)} {h : List Nat} {lo : Nat} (g : JL w1 p2 F P i m gap whole hv hb bss h lo w) (hbl : Below w.heap.size w v) : JL w1 p2 F P i m gap whole hv hb bss h lo v :=
  ⟨g.rep.later hbl, g.below.trans (hbl.mono (Nat.le_of_lt g.rep.1.inside)), g.base, g.ch, g.gi, g.lost, g.held, g.bytes⟩
/-- a piece is missing -/
theorem JL.skip {w1 w : World} {p2 : Nat} {F : List (List Nat)} {OA : Option Addr} {P : List Pc} {i m : Nat} {gap whole : Bool} {hv : Value} {hb : Bool} {bss : List (List Nat)} {h : List Nat} {lo : Nat} {x : Pc} (g : JL w1 p2 F P i m gap whole hv hb bss h lo w) (_ : PM w1 OA P) (hF : ∀ f ∈ F, f.length ≤ 1000) (hx : P[i]? = some x) :
    ∃ hb' bss', m + x.k ≤ F.length ∧ JL w1 p2 F P (i + 1) (m + x.k) true false hv hb' bss' h lo w := by
  have hch := g.ch
  rw [drop_at hx] at hch
  obtain ⟨hb', bss', hs, hc2⟩ := hch
  obtain ⟨h0, gi, _, _⟩ := g.gi
  obtain ⟨h1, _, hp2⟩ := gi.put hs hF
  exact ⟨hb', bss', hp2.le, g.rep, g.below, g.base, hc2, ⟨h1, hp2, .inl rfl, fun h => by cases h⟩, by have := g.lost; omega, g.held, g.bytes⟩
/-- a piece is put -/
theorem JL.put {w1 w : World} {p2 : Nat} {F : List (List Nat)} {OA : Option Addr} {P : List Pc} {i m : Nat} {gap whole : Bool} {hv : Value} {hb : Bool} {bss : List (List Nat)} {h : List Nat} {lo : Nat} {x : Pc} (g : JL w1 p2 F P i m gap whole hv hb bss h lo w) (hm : PM w1 OA P) (hF : ∀ f ∈ F, f.length ≤ 1000) (hF8 : ∀ f ∈ F, ∀ x ∈ f, x < 256) (hi : i ≤ 3000) (hx : P[i]? = some x) :
    Calls Try.prog 62 #[.pointer (some ⟨p2, 0, none⟩), .int .i64 x.fi, .slice x.A x.L.length x.L.length, .bool gap] w fun e w' => ∃ hv' hb' bss' h' lo' d q L2 A2, e = .returned (.tuple #[.slice A2 q q, .int .i64 0]) ∧ q + d = x.k ∧ d ≤ 1 ∧ (d = 1 → whole = false ∧ 2 ≤ x.fi) ∧ L2.length = q ∧ texts L2 = (F.drop (m + d)).take q ∧ m + x.k ≤ F.length ∧ RSrc w' A2 L2 ∧ JL w1 p2 F P (i + 1) (m + x.k) false whole hv' hb' bss' h' lo' w' := by
  have hch := g.ch
  rw [drop_at hx] at hch
  obtain ⟨hb', bss', hs, hc2⟩ := hch
  obtain ⟨hrs, hrl⟩ := hm.rows x (List.mem_of_getElem? hx)
  obtain ⟨ok1, ok2, ok3⟩ := hs.good (fun r hr => (hrl r hr).1)
  obtain ⟨h0, gi, hh, hw⟩ := g.gi
  obtain ⟨h', lo', d, h0', q1, q2, q3, q4, q5, q6, q7, q8, q9⟩ := gi.put2 (lo := lo) gap hh hs hF
  have hsz : p2 ≤ w.heap.size := Nat.le_of_lt g.rep.1.inside
  have hl := g.lost
  have hput := gput_ok (p := p2) (B := p2) (s := ⟨h, lo⟩) x.fi.toNat x.L.length x.L.length gap g.rep rfl hsz (fun V hV => hrs.later ((g.below.trans (hV.below hsz (fun k hk hx => by have := g.rep.block_ge (Nat.le_refl _) k hx; omega))).mono (Nat.le_of_eq g.base.symm))) ok1 (fun _ r hr => (hrl r (List.mem_of_getElem? hr)).2) (by show lo ≤ 10000; omega) g.held g.bytes
  rw [← ok2, q1] at hput
  have hheld : h'.length ≤ 1000 ∧ ∀ x ∈ h', x < 256 := by
    rcases q8 with h9 | h9
    · rw [h9]; exact q7.held hF hF8
    · rw [h9]; simp
  refine hput.mono ?_
  rintro e w' ⟨hv', L2, A2, rfl, k1, k2, k3, k4, k5, _⟩
  have hl2 : L2.length = x.k - d := by
    have := congrArg List.length k1
    rw [length_texts, List.length_take, List.length_drop] at this
    omega
  refine ⟨hv', hb', bss', h', lo', d, x.k - d, L2, A2, by rw [hl2], by omega, q4, fun hd => ⟨?_, ?_⟩, hl2, k1, q3, k3, k2, g.below.trans (k4.below hsz (fun k hk hx => by have := g.rep.block_ge (Nat.le_refl _) k hx; omega)), g.base, hc2, ⟨h0', q7, .inr q8, fun h9 => ⟨rfl, (q9 (hw h9).1 (hw h9).2).2⟩⟩, by omega, hheld.1, hheld.2⟩
  · cases whole with
    | false => rfl
    | true =>
      have := (q9 (hw rfl).1 (hw rfl).2).1
      omega
  · have hbt := q6 hd
    obtain ⟨n, _, _, _, hfi, _⟩ := hs
    rw [hfi, hbt]
    by_cases hn : n ≤ 0 <;> simp [hn]
end Go.Proofs.Ytjobgnemklpiaaa
namespace Go.Proofs.Ytjobgnemklpiaaa
open Go.RowKit

set_option maxRecDepth 100000 in
set_option maxHeartbeats 25600000 in
theorem gloses_every {A0 A1 A2 : Option Addr} {L0 : List RowB} {l1 l2 : List Nat} (N0 N1 N2 c0 c1 c2 : Nat) (W : World) (hN0 : L0.length = N0) (hN1 : l1.length = N1) (hN2 : l2.length = N2) (hn0 : N0 ≤ 9223372036854775807) (hn1 : N1 ≤ 9223372036854775807) (hn2 : N2 ≤ 9223372036854775807)
    (hs0 : RSrc W A0 L0) (hs1 : Src W A1 (u16v l1)) (hs2 : Src W A2 (bts l2)) (hb1 : ∀ b ∈ l1, b < 65536) (hb2 : ∀ b ∈ l2, b < 256) :
    Calls Try.prog 10 #[.slice A0 N0 c0, .slice A1 N1 c1, .slice A2 N2 c2] W fun e w' => e = .returned (.bool true) ∧ Below W.heap.size W w' := by
  have HAL := Lib.hid (fun V => galive_any V)
  have HPC := Lib.hid (pieces_any N0 N1 c0 c1 W hN0 hN1 hn0 hn1 hs0 hs1 hb1)
  have HS2 := Lib.hid hs2
  have HB2 := Lib.hid hb2
  have HL2 := Lib.hid hN2
  clear hN0 hN1 hN2 hs0 hs1 hs2 hb1 hb2
  go_enter Try.func10, Try.ntmps10
  go_wp2_with fail
  refine HPC.out.mono ?_
  rintro e w1 (⟨v1, v2, rfl, hbl⟩ | ⟨last, A, c, nk, K, OA, d, P, rfl, hnk, hnk9, hnp9, hCP⟩)
  · have HB1 := Lib.hid hbl
    clear hbl
    go_wp2_with (go_at_call 60; (with_reducible refine (HAL.out _).mono ?_); rintro e w6 ⟨rfl, hb6⟩; (have HB6 := Lib.hid hb6; clear hb6))
    go_ret
    exact ⟨rfl, bl_step HB1.out HB6.out⟩
  · have HPM := Lib.hid (hCP.pm rfl)
    have HKS := Lib.hid hCP.kept_src
    have hF : ∀ f ∈ K.map RowB.bs, f.length ≤ 1000 := fun f hf => by
      obtain ⟨r, hr, rfl⟩ := List.mem_map.1 hf
      exact (hCP.small r hr).2
    have hF8 : ∀ f ∈ K.map RowB.bs, ∀ x ∈ f, x < 256 := fun f hf => by
      obtain ⟨r, hr, rfl⟩ := List.mem_map.1 hf
      exact (hCP.ok r hr).2.2.2
    have hFn : ∀ f ∈ K.map RowB.bs, f ≠ [] := fun f hf e => by
      obtain ⟨r, hr, rfl⟩ := List.mem_map.1 hf
      have := (hCP.small r hr).1
      rw [e] at this
      simp at this
    have HF := Lib.hid hF
    have HF8 := Lib.hid hF8
    have HB1 := Lib.hid (hCP.below)
    have HCH := Lib.hid (show Chain false (K.map RowB.bs) P false [] from hCP.ch)
    have HNK := Lib.hid hnk
    have HKB := Lib.hid hCP.q.q.2.1
    generalize hpl : P.length = np at *
    have HNP := Lib.hid hpl
    clear hCP hF hF8 hnk hpl
    go_wp2_with fail
    refine (gnew_any w1).mono ?_
    rintro e w2 ⟨rfl, hg, hb2⟩
    have HJ0 := Lib.hid (show JL w1 w1.heap.size (K.map RowB.bs) P 0 0 false true (.slice none 0 0) false (K.map RowB.bs) [] 0 w2 from ⟨hg, hb2, rfl, HCH.out, ⟨[], ⟨rfl, fun _ => rfl, (fun h => by cases h), hFn, Nat.zero_le _⟩, .inr (.inl rfl), fun _ => ⟨rfl, rfl⟩⟩, by omega, by simp, by simp⟩)
    generalize w1.heap.size = p2 at *
    clear hg hb2 hFn
    go_wp2_with fail
    go_loopw [11, 12, 13, 14, 15] (fun nv fv gv wv iv wr => ∃ (i n m : Nat) (gap whole : Bool) (hv : Value) (hb : Bool) (bss : List (List Nat)) (h : List Nat) (lo : Nat), i ≤ np ∧ n ≤ m ∧ m ≤ nk ∧ nv = .int .i64 n ∧ fv = .int .i64 m ∧ gv = .bool gap ∧ wv = .bool whole ∧ iv = .int .i64 i ∧ Hid (JL w1 p2 (K.map RowB.bs) P i m gap whole hv hb bss h lo wr)) (fun _ _ _ _ iv _ => np - (intOf iv).toNat)
    case atStart => exact ⟨0, 0, 0, false, true, _, _, _, _, _, by omega, by omega, by omega, rfl, rfl, rfl, rfl, rfl, HJ0⟩
    case round =>
      clear HJ0
      obtain ⟨i, n, m, gap, whole, hv, hb, bss, h, lo, hi, hn, hm, rfl, rfl, rfl, rfl, rfl, HJ⟩ := hrel
      rcases Nat.lt_or_ge i np with hlt | hge
      · obtain ⟨x, hx⟩ : ∃ x, P[i]? = some x := ⟨_, List.getElem?_eq_getElem (by rw [HNP.out]; exact hlt)⟩
        obtain ⟨g3, rfl, hc0, hc1, hc2⟩ := HPM.out.cell i x hx
        have hbw : Below w1.heap.size w1 wr := HJ.out.below.mono (Nat.le_of_eq HJ.out.base.symm)
        have hbW : Below W.heap.size W wr := HB1.out.trans (HJ.out.below.mono HKB.out)
        have hi0 : (0 : Int) ≤ (i : Int) := by omega
        have hi1 : (i : Int) < (np : Int) := by omega
        have HBWW := Lib.hid hbW
        clear hbW
        go_upto_region 9 with fail
        go_cut [49] (fun s49 wx => ∃ lb : Bool, s49 = .bool lb ∧ wr = wx)
        case first =>
          rcases Nat.lt_or_ge i N2 with h2 | h2
          · obtain ⟨b, hb⟩ : ∃ b, l2[i]? = some b := ⟨_, List.getElem?_eq_getElem (by rw [HL2.out]; exact h2)⟩
            obtain ⟨a2, rfl, z2⟩ := f_src_cell HS2.out HBWW.out (bts_at hb)
            have hi2 : (i : Int) < (N2 : Int) := by omega
            rcases hbit : (bits BinOp.and IntKind.u8 (b : Int) 1 == 1) with _ | _
            all_goals
              go_wp2_with fail
              go_meet
              exact ⟨_, rfl, rfl⟩
          · have hi2 : (N2 : Int) ≤ (i : Int) := by omega
            go_wp2_with fail
            go_meet
            exact ⟨_, rfl, rfl⟩
        case rest =>
          obtain ⟨lb, rfl, rfl⟩ := hcut
          have y0 := kept_box hbw hc0
          have y1 := kept_box hbw hc1
          have y2 := kept_box hbw hc2
          have HC2 := Lib.hid hc2
          cases lb
          · have HPU := Lib.hid ((HJ.out.later (bl_drew (Below.refl _ _))).put HPM.out HF.out HF8.out (by omega) hx)
            obtain ⟨fi, hfi⟩ : ∃ fi, x.fi = fi := ⟨_, rfl⟩
            obtain ⟨xl, hxl⟩ : ∃ xl, x.L.length = xl := ⟨_, rfl⟩
            obtain ⟨xk, hxk⟩ : ∃ xk, x.k = xk := ⟨_, rfl⟩
            rw [hfi] at y0 HPU hc0
            rw [hxl] at y1 HPU hc1
            rw [hxk] at y2 HPU HC2
            have HC0 := Lib.hid hc0
            have HC1 := Lib.hid hc1
            clear hc0 hc1 hc2 hbw hx hfi hxl hxk
            go_wp2_with fail
            have k0 : wr.drew.cell? ⟨g3, i * 3, none⟩ = some (.int .i64 fi) ∧ wr.drew.cell? ⟨g3, i * 3 + 1, none⟩ = some (.slice x.A xl xl) := ⟨y0, y1⟩
            go_region_held3 (fun w' => w'.cell? ⟨g3, i * 3, none⟩ = some (.int .i64 fi) ∧ w'.cell? ⟨g3, i * 3 + 1, none⟩ = some (.slice x.A xl xl)) (first | assumption | exact k0 | exact k1 | go_keep) (first
              | (go_at_call 62; (with_reducible refine HPU.out.mono ?_); rintro e w3 ⟨hv', hb', bss', h', lo', dd, q, L2, A9, rfl, hqd, hd1, hdw, hl2, htx2, hle2, hrs2, hj2⟩; (have hbw3 : Below w1.heap.size w1 w3 := hj2.below.mono (Nat.le_of_eq hj2.base.symm)); (have HJ2 := Lib.hid hj2); (have HL9 := Lib.hid hl2); (have HT2 := Lib.hid htx2); (have HRS2 := Lib.hid hrs2); (have HBW3 := Lib.hid hbw3); (have HDW := Lib.hid hdw); (have x2 := kept_box hbw3 HC2.out); (have x0 := kept_box hbw3 HC0.out); (have hmk2 : m + xk ≤ nk := by rw [List.length_map] at hle2; have := HNK.out; omega); (have k1 : w3.cell? ⟨g3, i * 3, none⟩ = some (.int .i64 fi) ∧ w3.cell? ⟨g3, i * 3 + 1, none⟩ = some (.slice x.A xl xl) := ⟨kept_box hbw3 HC0.out, kept_box hbw3 HC1.out⟩); clear hj2 hl2 htx2 hle2 hrs2 hbw3 hdw))
            have dq : decide ((xk : Int) < (q : Int)) = false := decide_eq_false (by omega)
            have dqn : decide (xk < q) = false := decide_eq_false (by omega)
            have dqm : ¬ xk < q := by omega
            clear k0 k1 y0 y1 y2
            go_upto_region 16 with fail
            go_cut [106] (fun s106 wx => ∃ lb : Bool, s106 = .bool lb ∧ Hid (lb = false → dd = 0) ∧ w3 = wx)
            case first =>
              cases whole
              · by_cases hf2 : 2 ≤ fi
                · rcases Nat.eq_zero_or_pos xk with hx0 | hx0
                  · have hx0i : ¬ (0 : Int) < (xk : Int) := by omega
                    have hx0b : decide ((0 : Int) < (xk : Int)) = false := decide_eq_false (by omega)
                    have hx0c : decide (0 < xk) = false := decide_eq_false (by omega)
                    have HZ := Lib.hid (show dd = 0 from by omega)
                    clear hx0
                    go_wp2_with fail
                    go_meet
                    exact ⟨_, rfl, Lib.hid (fun _ => HZ.out), rfl⟩
                  · have hx0i : (0 : Int) < (xk : Int) := by omega
                    go_wp2_with fail
                    go_meet
                    exact ⟨_, rfl, Lib.hid (fun h => by cases h), rfl⟩
                · have HZ := Lib.hid (show dd = 0 from by
                    have := HDW.out
                    rcases Nat.eq_zero_or_pos dd with h | h
                    · exact h
                    · exact absurd (this (by omega)).2 hf2)
                  have hf2b : decide (2 ≤ fi) = false := decide_eq_false hf2
                  go_wp2_with fail
                  go_meet
                  exact ⟨_, rfl, Lib.hid (fun _ => HZ.out), rfl⟩
              · have HZ := Lib.hid (show dd = 0 from by
                  have := HDW.out
                  rcases Nat.eq_zero_or_pos dd with h | h
                  · exact h
                  · have := (this (by omega)).1
                    cases this)
                go_wp2_with fail
                go_meet
                exact ⟨_, rfl, Lib.hid (fun _ => HZ.out), rfl⟩
            case rest =>
              obtain ⟨lb, rfl, HLB, rfl⟩ := hcut
              obtain ⟨at0, hat0⟩ : ∃ at0, m + dd = at0 := ⟨_, rfl⟩
              have HAT := Lib.hid hat0
              have hE : (m : Int) + (xk : Int) - (q : Int) = (at0 : Int) := by omega
              have hatm : m ≤ at0 := by omega
              have hatk : at0 + q ≤ nk := by omega
              have HSQ := Lib.hid (show at0 + q = m + xk by omega)
              have HCM := Lib.hid HC2.out
              clear hat0 HDW
              have hdl : (lb = false ∧ q = xk) ∨ (lb = true ∧ xk ≤ q + 1) := by
                cases lb
                · exact .inl ⟨rfl, by have := HLB.out rfl; omega⟩
                · exact .inr ⟨rfl, by omega⟩
              rcases hdl with ⟨rfl, hqx⟩ | ⟨rfl, hqx⟩
              · have e1 : decide ((q : Int) < (xk : Int)) = false := decide_eq_false (by omega)
                have e2 : decide (q < xk) = false := decide_eq_false (by omega)
                have e3 : ¬ q < xk := by omega
                clear hqx dq dqn dqm
                go_wp2_with fail
                go_loopw [11, 20] (fun nv kv wu => ∃ k' n' : Nat, k' ≤ q ∧ kv = .int .i64 k' ∧ nv = .int .i64 n' ∧ n' ≤ at0 + k' ∧ Hid (Below w3.heap.size w3 wu)) (fun _ kv _ => q - (intOf kv).toNat)
                case atStart => exact ⟨0, n, by omega, rfl, rfl, by omega, Lib.hid (Below.refl _ _)⟩
                case round =>
                  clear x0 x2
                  obtain ⟨k', n', hk', rfl, rfl, hn', HBU⟩ := hrel
                  rcases Nat.lt_or_ge k' q with hlt2 | hge2
                  · obtain ⟨r2, hr2⟩ : ∃ r, L2[k']? = some r := ⟨_, List.getElem?_eq_getElem (by rw [HL9.out]; exact hlt2)⟩
                    obtain ⟨rk, hrk⟩ : ∃ r, K[at0 + k']? = some r := ⟨_, List.getElem?_eq_getElem (by have := HNK.out; omega)⟩
                    obtain ⟨ad2, rfl, hcl2⟩ := (HRS2.out.later HBU.out) (by rw [HL9.out]; omega)
                    obtain ⟨adk, rfl, hclk⟩ := ((HKS.out.later HBW3.out).later HBU.out) (by have := (List.getElem?_eq_some_iff.1 hrk).1; omega)
                    have heq : r2.bs = rk.bs := by
                      have h1 := texts_at hr2
                      rw [HT2.out, HAT.out, List.getElem?_take, if_pos hlt2, List.getElem?_drop, List.getElem?_map, hrk] at h1
                      injection h1 with h1
                      exact h1.symm
                    obtain ⟨q1, q2⟩ := hcl2 k' r2 hr2
                    obtain ⟨q3, q4⟩ := hclk (at0 + k') rk hrk
                    unfold RowB.v at q1 q3
                    have cv1 := conv_src (w := wr.drew) (A := r2.A) (l := r2.bs) r2.bs.length r2.cap rfl (src_later q2.1 (bl_drew (Below.refl _ _))) q2.2.2.2
                    have cv2 := conv_src (w := wr.drew) (A := rk.A) (l := r2.bs) r2.bs.length rk.cap rfl (by rw [heq]; exact src_later q4.1 (bl_drew (Below.refl _ _))) q2.2.2.2
                    rw [← heq] at q3
                    have hwr : IntKind.i64.wrap ((at0 : Int) + (k' : Int)) = (at0 : Int) + (k' : Int) := by rw [IntKind.wrap_i64]; omega
                    have htn : ((at0 : Int) + (k' : Int)).toNat = at0 + k' := by omega
                    have d1 : decide ((at0 : Int) + (k' : Int) < (n' : Int)) = false := decide_eq_false (by omega)
                    have d2 : decide ((nk : Int) ≤ (at0 : Int) + (k' : Int)) = false := decide_eq_false (by omega)
                    have d3 : decide (at0 + k' < n') = false := decide_eq_false (by omega)
                    have d4 : decide (nk ≤ at0 + k') = false := decide_eq_false (by omega)
                    have d5 : ¬ (at0 : Int) + (k' : Int) < (n' : Int) := by omega
                    have d6 : ¬ (nk : Int) ≤ (at0 : Int) + (k' : Int) := by omega
                    have hm0 : (0 : Int) ≤ (k' : Int) := by omega
                    have hm1 : (k' : Int) < (q : Int) := by omega
                    have hn0' : (0 : Int) ≤ (at0 : Int) + (k' : Int) := by omega
                    have hn1' : (at0 : Int) + (k' : Int) < (nk : Int) := by omega
                    have x1 : wr.drew.cell? (ad2.add k') = some (.slice r2.A r2.bs.length r2.cap) := q1
                    have x2 : wr.drew.cell? (adk.add (at0 + k')) = some (.slice rk.A r2.bs.length rk.cap) := q3
                    clear hcl2 hclk q1 q2 q3 q4 heq hr2 hrk
                    generalize r2.bs.length = bl at *
                    generalize strOf r2.bs = st at *
                    go_wp2_with fail
                    refine wp_region_still_lit (by kernel_rfl) (by kernel_rfl) ?_
                    change wpStill _ _ wr.drew (fun b => _) _ _
                    generalize wr.drew = w9 at x1 x2 cv1 cv2 ⊢
                    repeat still_step
                    refine wpStill_nil ?_
                    clear hwr htn d1 d2 d3 d4 d5 d6
                    go_wp2_with fail
                    go_roundw
                    case rel => exact ⟨k' + 1, at0 + k' + 1, by omega, by go_num, by go_num, by omega, Lib.hid (bl_step HBU.out (bl_drew (Below.refl _ _)))⟩
                    case measure => simp [intOf]; omega
                  · obtain rfl : q = k' := by omega
                    have hbw9 : Below w1.heap.size w1 wr := HBW3.out.trans (HBU.out.mono HBW3.out.size)
                    have x2 := kept_box hbw9 HCM.out
                    have HJ9 := Lib.hid (HJ2.out.later HBU.out)
                    have hnf : n' ≤ m + xk := by have := HSQ.out; omega
                    clear hbw9
                    go_wp2_with fail
                    go_roundw
                    case rel => exact ⟨i + 1, n', m + xk, false, _, _, _, _, _, _, by omega, hnf, hmk2, rfl, by go_num, rfl, rfl, by go_num, HJ9⟩
                    case measure => simp [intOf]; omega
              · have e1 : decide ((q : Int) < (xk : Int) - 1) = false := decide_eq_false (by omega)
                clear hqx dq dqn dqm
                go_wp2_with fail
                go_loopw [11, 20] (fun nv kv wu => ∃ k' n' : Nat, k' ≤ q ∧ kv = .int .i64 k' ∧ nv = .int .i64 n' ∧ n' ≤ at0 + k' ∧ Hid (Below w3.heap.size w3 wu)) (fun _ kv _ => q - (intOf kv).toNat)
                case atStart => exact ⟨0, n, by omega, rfl, rfl, by omega, Lib.hid (Below.refl _ _)⟩
                case round =>
                  clear x0 x2
                  obtain ⟨k', n', hk', rfl, rfl, hn', HBU⟩ := hrel
                  rcases Nat.lt_or_ge k' q with hlt2 | hge2
                  · obtain ⟨r2, hr2⟩ : ∃ r, L2[k']? = some r := ⟨_, List.getElem?_eq_getElem (by rw [HL9.out]; exact hlt2)⟩
                    obtain ⟨rk, hrk⟩ : ∃ r, K[at0 + k']? = some r := ⟨_, List.getElem?_eq_getElem (by have := HNK.out; omega)⟩
                    obtain ⟨ad2, rfl, hcl2⟩ := (HRS2.out.later HBU.out) (by rw [HL9.out]; omega)
                    obtain ⟨adk, rfl, hclk⟩ := ((HKS.out.later HBW3.out).later HBU.out) (by have := (List.getElem?_eq_some_iff.1 hrk).1; omega)
                    have heq : r2.bs = rk.bs := by
                      have h1 := texts_at hr2
                      rw [HT2.out, HAT.out, List.getElem?_take, if_pos hlt2, List.getElem?_drop, List.getElem?_map, hrk] at h1
                      injection h1 with h1
                      exact h1.symm
                    obtain ⟨q1, q2⟩ := hcl2 k' r2 hr2
                    obtain ⟨q3, q4⟩ := hclk (at0 + k') rk hrk
                    unfold RowB.v at q1 q3
                    have cv1 := conv_src (w := wr.drew) (A := r2.A) (l := r2.bs) r2.bs.length r2.cap rfl (src_later q2.1 (bl_drew (Below.refl _ _))) q2.2.2.2
                    have cv2 := conv_src (w := wr.drew) (A := rk.A) (l := r2.bs) r2.bs.length rk.cap rfl (by rw [heq]; exact src_later q4.1 (bl_drew (Below.refl _ _))) q2.2.2.2
                    rw [← heq] at q3
                    have hwr : IntKind.i64.wrap ((at0 : Int) + (k' : Int)) = (at0 : Int) + (k' : Int) := by rw [IntKind.wrap_i64]; omega
                    have htn : ((at0 : Int) + (k' : Int)).toNat = at0 + k' := by omega
                    have d1 : decide ((at0 : Int) + (k' : Int) < (n' : Int)) = false := decide_eq_false (by omega)
                    have d2 : decide ((nk : Int) ≤ (at0 : Int) + (k' : Int)) = false := decide_eq_false (by omega)
                    have d3 : decide (at0 + k' < n') = false := decide_eq_false (by omega)
                    have d4 : decide (nk ≤ at0 + k') = false := decide_eq_false (by omega)
                    have d5 : ¬ (at0 : Int) + (k' : Int) < (n' : Int) := by omega
                    have d6 : ¬ (nk : Int) ≤ (at0 : Int) + (k' : Int) := by omega
                    have hm0 : (0 : Int) ≤ (k' : Int) := by omega
                    have hm1 : (k' : Int) < (q : Int) := by omega
                    have hn0' : (0 : Int) ≤ (at0 : Int) + (k' : Int) := by omega
                    have hn1' : (at0 : Int) + (k' : Int) < (nk : Int) := by omega
                    have x1 : wr.drew.cell? (ad2.add k') = some (.slice r2.A r2.bs.length r2.cap) := q1
                    have x2 : wr.drew.cell? (adk.add (at0 + k')) = some (.slice rk.A r2.bs.length rk.cap) := q3
                    clear hcl2 hclk q1 q2 q3 q4 heq hr2 hrk
                    generalize r2.bs.length = bl at *
                    generalize strOf r2.bs = st at *
                    go_wp2_with fail
                    refine wp_region_still_lit (by kernel_rfl) (by kernel_rfl) ?_
                    change wpStill _ _ wr.drew (fun b => _) _ _
                    generalize wr.drew = w9 at x1 x2 cv1 cv2 ⊢
                    repeat still_step
                    refine wpStill_nil ?_
                    clear hwr htn d1 d2 d3 d4 d5 d6
                    go_wp2_with fail
                    go_roundw
                    case rel => exact ⟨k' + 1, at0 + k' + 1, by omega, by go_num, by go_num, by omega, Lib.hid (bl_step HBU.out (bl_drew (Below.refl _ _)))⟩
                    case measure => simp [intOf]; omega
                  · obtain rfl : q = k' := by omega
                    have hbw9 : Below w1.heap.size w1 wr := HBW3.out.trans (HBU.out.mono HBW3.out.size)
                    have x2 := kept_box hbw9 HCM.out
                    have HJ9 := Lib.hid (HJ2.out.later HBU.out)
                    have hnf : n' ≤ m + xk := by have := HSQ.out; omega
                    clear hbw9
                    go_wp2_with fail
                    go_roundw
                    case rel => exact ⟨i + 1, n', m + xk, false, _, _, _, _, _, _, by omega, hnf, hmk2, rfl, by go_num, rfl, rfl, by go_num, HJ9⟩
                    case measure => simp [intOf]; omega
          · obtain ⟨hb', bss', hmk, hj2⟩ := HJ.out.skip HPM.out HF.out hx
            have HJ2 := Lib.hid hj2
            have hmk2 : m + x.k ≤ nk := by rw [List.length_map] at hmk; have := HNK.out; omega
            generalize x.k = xk at *
            clear hc0 hc1 hc2 hbw hx hj2 hmk y0 y1
            go_wp2_with fail
            go_roundw
            case rel => exact ⟨i + 1, n, m + xk, true, false, _, _, _, _, _, by omega, by omega, hmk2, rfl, by go_num, rfl, rfl, by go_num, HJ2⟩
            case measure => simp [intOf]; omega
      · obtain rfl : np = i := by omega
        have HBW := Lib.hid HJ.out.below
        go_wp2_with (go_at_call 60; (with_reducible refine (HAL.out _).mono ?_); rintro e v1 ⟨rfl, hb1⟩; (have HV1 := Lib.hid hb1); clear hb1)
        go_ret
        exact ⟨rfl, HB1.out.trans ((HBW.out.trans (HV1.out.mono (Nat.le_of_lt HJ.out.rep.1.inside))).mono HKB.out)⟩
end Go.Proofs.Ytjobgnemklpiaaa
namespace Go.Proofs.Ytjobgnemklpiaaa
open Go.ChangeShapes Go.WideShapes Go.ChangeAt Go.RowKit

theorem lawOwn : ownKnob Try.prog.godebug = none := by kernel_rfl
theorem lawLaid : laidOutB Try.prog = true := by kernel_rfl

section
variable {H : Type} {enc : TypeId × Value → H} {P : Program}
/-- what was read in the old world is read in the new one -/
theorem args_stay (hl : laidOutB P = true) {W W' : World} (hb : Below W.heap.size W W') : ∀ (ts : List TypeId) (vs : List Value) (ds : List (DataW H)) (ps : List MemPlace),
    (∀ t ∈ ts, P.readableRec t = true ∧ t < P.types.size) → DataW.TrodAll enc P W 0 (fun _ => true) true ts vs ds ps → (∀ x ∈ ps, x.block < W.heap.size) →
    DataW.TrodAll enc P W' 0 (fun b => decide (b < W.heap.size)) true ts vs ds ps := by
  intro ts
  induction ts with
  | nil =>
    intro vs ds ps _ h _
    obtain ⟨rfl, rfl, rfl⟩ := trodAll_nil h
    exact trodAll_mk0
  | cons t ts ih =>
    intro vs ds ps hr h hlt
    obtain ⟨v, vs', d, ds', p, q, rfl, rfl, rfl, h1, h2⟩ := trodAll_cons h
    have ht := hr t (List.mem_cons_self ..)
    exact trodAll_cons_mk (Below.trod hl ht.1 ht.2 h1 hb fun x hx => hlt x (List.mem_append_left _ hx))
      (ih vs' ds' q (fun u hu => hr u (List.mem_cons_of_mem _ hu)) h2 fun x hx => hlt x (List.mem_append_right _ hx))

theorem law_post {f : Func} {s : ChangeSpec} {W W' : World} {args : Array Value} {ds gs : List (DataW H)} {before : List MemPlace} {B : TypeId}
    (hl : laidOutB P = true) (hr : f.params.toList.all (fun t => P.readableRec t && decide (t < P.types.size)) = true) (hv : s.vars = [])
    (hW : DataW.Whole enc P f.params.toList s.vars false W args.toList ds gs before)
    (hs : s.fn H (ds ++ gs) = { results := [.lit (.bool true)], args := ds }) (ht : f.resultTypes = #[B]) (hB : P.underlying B = some .bool)
    (hb : Below W.heap.size W W') : s.post enc P f false true false false W args (.bool true) W' := by
  have hW' := hW
  obtain ⟨p, q, hA, hV, rfl, _, _⟩ := hW
  rw [hv] at hV
  obtain ⟨rfl, rfl⟩ := trodVars_none hV
  refine ⟨ds, [], p ++ [], [], p, [], hW', ?_, ?_, ?_, hb.frame _, fun h => by cases h⟩
  · rw [hs, ht]
    exact trodAll_mk1 (shut_bool hB true)
  · rw [hs]
    exact args_stay hl hb _ _ _ _ (fun t h => by have := List.all_eq_true.1 hr t h; simpa using this) hA fun x hx => hW'.lt x (List.mem_append_left _ hx)
  · rw [hs, hv]
    exact rfl
end
end Go.Proofs.Ytjobgnemklpiaaa
namespace Go.Proofs.Ytjobgnemklpiaaa
open Go.ChangeShapes Go.WideShapes Go.ChangeAt Go.RowKit Go.Deep

set_option maxRecDepth 100000 in
theorem rows_arg {H : Type} {enc : TypeId × Value → H} {W : World} {base : Nat} {v : Value} {d : DataW H} {p : List MemPlace} (hok : Value.okWide Try.prog W .any base 57 v)
    (h : DataW.Trod enc Try.prog W 0 (fun _ => true) true 57 v d p) : ∃ (A : Option Addr) (cap : Nat) (L : List RowB), v = .slice A L.length cap ∧ L.length ≤ cap ∧ cap ≤ 9223372036854775807 ∧ RSrc W A L ∧ ∀ m ∈ lens L, m ≤ 9223372036854775807 := by
  obtain ⟨a0, len, cap, rfl⟩ := okWide_slice Try.underlying57 hok
  obtain ⟨fuel, hf⟩ := h
  exact rows_cells hf
end Go.Proofs.Ytjobgnemklpiaaa
