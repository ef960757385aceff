/-
  StatusGrows: the steps of the list that is made longer. StatusGrows: the walk. StatusGrows: the walk behind region 4. StatusGrows: both ways. A law's row follows from its walk: the call returns true, and below the heap's old size the world is as it was; then every argument reads as it did. Fields' lengths: which may be, how many bytes they are: plain lists.
-/
import Derived.Test.YtolinlnnbdjimaaJStatusGrows09
import Derived.Test.YtolinlnnbdjimaaJStatusGrows10
import Derived.Test.YtolinlnnbdjimaaJStatusGrows11
import Derived.Deep.RegionHeld3
import Derived.Deep.DeepCutAuto
import Derived.Test.YtolinlnnbdjimaaRows
import Derived.WalkKit
import Derived.ProofKit
import Derived.OpenShut
import Derived.Test.YtolinlnnbdjimaaJStatusGrows02
namespace Go.Proofs.Ytolinlnnbdjimaa
open Go.RowKit

section
variable {w v u : World} {B : Nat}
theorem mcells_one (L : List MissM) : ∀ x ∈ mcells L, x.oneCell' = true := by
  intro x hx
  unfold mcells at hx
  rw [List.mem_flatMap] at hx
  obtain ⟨m, _, hx⟩ := hx
  simp at hx
  rcases hx with rfl | rfl | rfl | rfl <;> rfl
/-- append of a list of misses to an empty one -/
theorem step_m0 {ops : Array Oper} {o : Oper} {a : Act} {K : Act → World → Prop} {Q : Exit → Act → World → Prop} {F : Prop} {A : Option Addr} {g0 n c : Nat} {L : List MissM} (hgd : o.guard = none) (s y : Operand)
    (ho : o.op = .call { callee := .builtin .append, args := #[s, y], argTypes := #[22, 22] }) (hty : o.type = 22) (hs : a.eval s = .slice (some ⟨g0, 0, none⟩) 0 0) (hy : a.eval y = .slice A n c) (hl : L.length = n) (hn : n ≤ 32)
    (hsrc : MSrc w A L) (hrow : Row w g0 26 #[]) (hg : B ≤ g0) (hB : B ≤ w.heap.size)
    (hK : ∀ A' c' w', OwnM B w' (.slice A' n c') L → Below B w w' → w.heap.size ≤ w'.heap.size → (∀ g t cs, Row w g t cs → g ≠ g0 → Row w' g t cs) → K (a.put o.dst (.slice A' n c')) w') :
    if Region.wanted o (yielded ops a.tmps) = true then Oper.wp Try.prog o a w K Q else F := by
  subst hl
  obtain ⟨i0, hi, hi0, hi1, hi2⟩ := info_parts Try.infomiss2
  have hown : w.ownsRow B 26 4 (.slice (some ⟨g0, 0, none⟩) 0 0) 0 [] := ⟨by simp, .inr ⟨g0, 0, #[], rfl, hg, hrow, Nat.le_refl _, by simp [maxLen], by simp, by simp⟩⟩
  rcases Nat.eq_zero_or_pos L.length with h0 | h0
  · have hL : L = [] := List.eq_nil_of_length_eq_zero h0
    subst hL
    have hr : (Builtin.append_ #[22, 22] 22 #[.slice (some ⟨g0, 0, none⟩) 0 0, .slice A 0 c]).run Try.prog w = .ok (.slice (some ⟨g0, 0, none⟩) 0 0) w := by
      cases A <;> simp [Builtin.append_, run_underlying Try.underlying22, sizeOf, typeInfo, hi, Builtin.lenOf, Builtin.firstCells, loadCells, loadCellsFrom, storeCells]
    exact step_run hgd s y 22 ho _ _ hs hy (by rw [hty]; exact hr) (hK _ 0 w hown (Below.refl _ _) (Nat.le_refl _) (fun _ _ _ h _ => h))
  · obtain ⟨bq, off, rfl, hc⟩ := hsrc h0
    obtain ⟨v', w2, hrun, hown2, hgr, _, hat⟩ := run_append_own_at (P := Try.prog) (w := w) B 22 22 26 i0 _ 4 32 Try.underlying22 hi hi0 hi1 hi2 rfl (by omega) _ 0 [] hown ⟨bq, off, none⟩ L.length c (mcells L) (len_mcells L)
      (fun j u hu => by
        have hj := (List.getElem?_eq_some_iff.1 hu).1
        rw [len_mcells] at hj
        have hadd : (⟨bq, off, none⟩ : Addr).add j = ⟨bq, off + j, none⟩ := by
          unfold Addr.add
          split
          · rename_i h; rw [h]; rfl
          · rfl
        rw [hadd]
        obtain ⟨k, r, hk, hr⟩ : ∃ k r, j = k * 4 + r ∧ r < 4 := ⟨j / 4, j % 4, by omega, Nat.mod_lt _ (by omega)⟩
        have hm : L[k]? = some L[k] := List.getElem?_eq_getElem (by omega)
        obtain ⟨a1, a2, a3, a4⟩ := mcells_at hm
        obtain ⟨b1, b2, b3, b4⟩ := hc k _ hm
        subst hk
        obtain rfl | rfl | rfl | rfl : r = 0 ∨ r = 1 ∨ r = 2 ∨ r = 3 := by omega
        · rw [Nat.add_zero] at hu ⊢; rw [a1] at hu; rw [← hu]; exact b1
        · rw [a2] at hu; rw [← hu, ← Nat.add_assoc]; exact b2
        · rw [a3] at hu; rw [← hu, ← Nat.add_assoc]; exact b3
        · rw [a4] at hu; rw [← hu, ← Nat.add_assoc]; exact b4) (mcells_one L) (by unfold maxLen; omega) (by omega) hB
    have hon : Only (fun k => (Value.slice (some ⟨g0, 0, none⟩) 0 0).ownBlock = some k) w w2 := (Only.refl _ _).grown hgr (fun k hk => .inl hk)
    have hkeep : ∀ g t cs, Row w g t cs → g ≠ g0 → Row w2 g t cs := fun g t cs hr hne => hr.only hon (fun hk => hne (by simpa [Value.ownBlock] using hk.symm))
    obtain ⟨A', c', rfl⟩ : ∃ A' c', v' = .slice A' L.length c' := by
      rcases hown2.2 with ⟨_, e⟩ | ⟨g, cap, cur, e, _⟩
      · omega
      · exact ⟨some ⟨g, 0, none⟩, cap, by rw [e]; simp⟩
    refine step_run hgd s y 22 ho _ _ hs hy (by rw [hty]; exact hrun) (hK A' c' w2 ?_ (hon.below hB (fun k hk hk2 => by
      have : g0 = k := by simpa [Value.ownBlock] using hk2
      omega)) hon.size hkeep)
    unfold OwnM
    rw [Nat.zero_add, List.nil_append] at hown2
    exact hown2
/-- one miss more -/
theorem step_m1 {ops : Array Oper} {o : Oper} {a : Act} {K : Act → World → Prop} {Q : Exit → Act → World → Prop} {F : Prop} {A : Option Addr} {g1 n c : Nat} {L : List MissM} {m : MissM} (hgd : o.guard = none) (s y : Operand)
    (ho : o.op = .call { callee := .builtin .append, args := #[s, y], argTypes := #[22, 22] }) (hty : o.type = 22) (hs : a.eval s = .slice A n c) (hy : a.eval y = .slice (some ⟨g1, 0, none⟩) 1 1) (hl : L.length = n) (hn : n ≤ 32)
    (hown : OwnM B w (.slice A n c) L) (hrow : Row w g1 26 #[.int .i64 m.sn, .bool m.part, .int .i64 m.fr, .int .i64 m.to]) (hB : B ≤ w.heap.size)
    (hK : ∀ A' c' w', OwnM B w' (.slice A' (n + 1) c') (L ++ [m]) → KR (fun t => t = 26) B w w' → K (a.put o.dst (.slice A' (n + 1) c')) w') :
    if Region.wanted o (yielded ops a.tmps) = true then Oper.wp Try.prog o a w K Q else F := by
  subst hl
  obtain ⟨i0, hi, hi0, hi1, hi2⟩ := info_parts Try.infomiss2
  obtain ⟨v', w2, hrun, hown2, hgr, _, hat⟩ := run_append_own_at (P := Try.prog) (w := w) B 22 22 26 i0 _ 4 32 Try.underlying22 hi hi0 hi1 hi2 rfl (by omega) _ L.length (mcells L) hown ⟨g1, 0, none⟩ 1 1 [.int .i64 m.sn, .bool m.part, .int .i64 m.fr, .int .i64 m.to] rfl
    (World.news_of_block (cs := #[.int .i64 m.sn, .bool m.part, .int .i64 m.fr, .int .i64 m.to]) hrow) (by intro u hu; simp at hu; rcases hu with rfl | rfl | rfl | rfl <;> rfl) (by unfold maxLen; omega) (by omega) hB
  have hon : Only (fun k => (Value.slice A L.length c).ownBlock = some k) w w2 := (Only.refl _ _).grown hgr (fun k hk => .inl hk)
  obtain ⟨A', c', rfl⟩ : ∃ A' c', v' = .slice A' (L.length + 1) c' := by
    rcases hown2.2 with ⟨_, e⟩ | ⟨g, cap, cur, e, _⟩
    · omega
    · exact ⟨some ⟨g, 0, none⟩, cap, e⟩
  refine step_run hgd s y 22 ho _ _ hs hy (by rw [hty]; exact hrun) (hK A' c' w2 ?_ ⟨hB, hon.below hB (fun k hk hk2 => by have := (own_block hown k hk2).1; omega), hon.size, fun g' t cs hr hne => hr.only hon (fun hk => own_apart hown hr (fun e => hne e.symm) hk)⟩)
  unfold OwnM
  rw [List.length_append, mcells_append]
  exact hown2
end
end Go.Proofs.Ytolinlnnbdjimaa
namespace Go.Proofs.Ytolinlnnbdjimaa
open Go.RowKit

section
variable {w v u : World} {B : Nat}
theorem srow2 {x : Nat} {ack : Int} {A : Option Addr} {n c : Nat} (h : Row w x 24 #[.int .i64 ack, .slice A n c]) : w.cell? ⟨x, 0, none⟩ = some (.int .i64 ack) ∧ w.cell? ⟨x, 1, none⟩ = some (.slice A n c) := ⟨h.read rfl, h.read rfl⟩
theorem mrow4 {x : Nat} {m : MissM} (h : Row w x 26 #[.int .i64 m.sn, .bool m.part, .int .i64 m.fr, .int .i64 m.to]) : w.cell? ⟨x, 0, none⟩ = some (.int .i64 m.sn) ∧ w.cell? ⟨x, 1, none⟩ = some (.bool m.part) ∧ w.cell? ⟨x, 2, none⟩ = some (.int .i64 m.fr) ∧ w.cell? ⟨x, 3, none⟩ = some (.int .i64 m.to) := ⟨h.read rfl, h.read rfl, h.read rfl, h.read rfl⟩
set_option maxRecDepth 100000 in
set_option maxHeartbeats 1600000 in
theorem sgrows_zero {A : Option Addr} {L : List MissM} (ack x : Int) (m : MissM) (n cap : Nat) (w : World) (hL : L.length = n) (hn : n ≤ 9223372036854775807) (hs : MSrc w A L) (hz : statusF ack L x = 0) :
    Calls Try.prog 3 #[.agg #[.int .i64 ack, .slice A n cap], m.v, .int .i64 x] w fun e w' => e = .returned (.bool true) ∧ Below w.heap.size w w' := by
  have HS := Lib.hid (fun W (hb : Below w.heap.size w W) => by have h := ssize_any ack x n cap W hL hn (hs.later hb); rw [hz] at h; exact h)
  have HA := Lib.hid stalive_any
  clear hs hz hL
  obtain ⟨sn, part, fr, tq⟩ := m
  unfold MissM.v
  have HB0 := Lib.hid (bl_alloc (bl_alloc (Below.refl w.heap.size w) (.cells #[.int .i64 ack, .slice A n cap] 24)) (.cells #[.int .i64 sn, .bool part, .int .i64 fr, .int .i64 tq] 26))
  go_enter Try.func3, Try.ntmps3
  go_wp2_with (first
    | (go_at_call 17; (with_reducible refine (HS.out _ HB0.out).mono ?_); rintro e w1 ⟨rfl, hb⟩; (have HB1 := Lib.hid (bl_step HB0.out hb); clear hb))
    | (go_at_call 18; (with_reducible refine (HA.out _).mono ?_); rintro e w2 ⟨rfl, hb⟩; (have HB2 := Lib.hid (bl_step HB1.out hb); clear hb)))
  go_ret
  exact ⟨rfl, HB2.out⟩
theorem step_at {ops : Array Oper} {o : Oper} {a : Act} {K : Act → World → Prop} {Q : Exit → Act → World → Prop} {F : Prop} (s y : Operand) (T : TypeId) (_ho : o.op = .call { callee := .builtin .append, args := #[s, y], argTypes := #[T, T] }) (h : if Region.wanted o (yielded ops a.tmps) = true then Oper.wp Try.prog o a w K Q else F) : if Region.wanted o (yielded ops a.tmps) = true then Oper.wp Try.prog o a w K Q else F := h
def Six (w : World) (a b : Nat) (ack : Int) (A : Option Addr) (n cap : Nat) (m : MissM) : Prop :=
  w.cell? ⟨a, 0, none⟩ = some (.int .i64 ack) ∧ w.cell? ⟨a, 1, none⟩ = some (.slice A n cap) ∧ w.cell? ⟨b, 0, none⟩ = some (.int .i64 m.sn) ∧ w.cell? ⟨b, 1, none⟩ = some (.bool m.part) ∧ w.cell? ⟨b, 2, none⟩ = some (.int .i64 m.fr) ∧ w.cell? ⟨b, 3, none⟩ = some (.int .i64 m.to)
theorem cell_alloc {g i : Nat} {x : Value} (h : w.cell? ⟨g, i, none⟩ = some x) (o : Obj) : (w.alloc o).cell? ⟨g, i, none⟩ = some x := kept_box (bl_alloc (Below.refl _ _) o) h
theorem cell_set {g i r j : Nat} {x u : Value} (h : w.cell? ⟨g, i, none⟩ = some x) (hne : g ≠ r) : (w.setCell ⟨r, j, none⟩ u).cell? ⟨g, i, none⟩ = some x := by
  refine cell_only h ((Only.refl (fun k => k = r) w).set (p := ⟨r, j, none⟩) (.inl rfl) u) hne
theorem six_alloc {a b n cap : Nat} {ack : Int} {A : Option Addr} {m : MissM} (h : Six w a b ack A n cap m) (o : Obj) : Six (w.alloc o) a b ack A n cap m := by
  obtain ⟨h1, h2, h3, h4, h5, h6⟩ := h
  exact ⟨cell_alloc h1 o, cell_alloc h2 o, cell_alloc h3 o, cell_alloc h4 o, cell_alloc h5 o, cell_alloc h6 o⟩
theorem six_set {a b n cap r j : Nat} {ack : Int} {A : Option Addr} {m : MissM} {u : Value} (h : Six w a b ack A n cap m) (h1 : a ≠ r) (h2 : b ≠ r) : Six (w.setCell ⟨r, j, none⟩ u) a b ack A n cap m := by
  obtain ⟨q1, q2, q3, q4, q5, q6⟩ := h
  exact ⟨cell_set q1 h1, cell_set q2 h1, cell_set q3 h2, cell_set q4 h2, cell_set q5 h2, cell_set q6 h2⟩
theorem six_of {a b n cap : Nat} {ack : Int} {A : Option Addr} {m : MissM} (h1 : Row w a 24 #[.int .i64 ack, .slice A n cap]) (h2 : Row w b 26 #[.int .i64 m.sn, .bool m.part, .int .i64 m.fr, .int .i64 m.to]) : Six w a b ack A n cap m := by
  obtain ⟨c0, c1⟩ := srow2 h1
  obtain ⟨d0, d1, d2, d3⟩ := mrow4 h2
  exact ⟨c0, c1, d0, d1, d2, d3⟩
theorem row_low {g : Nat} {t : TypeId} {cs : Array Value} (h : Row w g t cs) (hb : Below B w v) (hg : g < B) : Row v g t cs := (hb.block g hg).trans h
theorem OwnM.more {x : Value} {L : List MissM} (h : OwnM B w x L) (o : Obj) : OwnM B (w.alloc o) x L := World.ownsRow.alloc h o
theorem OwnM.drawn {x : Value} {L : List MissM} (h : OwnM B w x L) : OwnM B w.drew x L := h
def GotM (B : Nat) (w V : World) (r : Nat) (ack : Int) (A : Option Addr) (n c : Nat) (L : List MissM) : Prop := Row V r 24 #[.int .i64 ack, .slice A n c] ∧ OwnM B V (.slice A n c) L ∧ Below w.heap.size w V
end
end Go.Proofs.Ytolinlnnbdjimaa
namespace Go.Proofs.Ytolinlnnbdjimaa
open Go.RowKit

section
variable {w v u : World} {B : Nat}
theorem bitsS_snoc (x : Int) (L : List MissM) (m : MissM) : bitsS x (L ++ [m]) = bitsS x L + missBits x m := by
  unfold bitsS
  rw [List.map_append, List.sum_append]
  simp
theorem sg_facts {ack x sf : Int} {L : List MissM} {n : Nat} (hL : L.length = n) (h : statusF ack L x = sf) (h0 : (sf == 0) = false) : okS x = true ∧ n ≤ 32 ∧ sf = (4 + x + 1 + bitsS x L + 7) / 8 := by
  unfold statusF at h
  cases hr : rightB ack L x
  · rw [hr] at h; simp at h; subst h; simp at h0
  · rw [hr] at h
    unfold rightB at hr
    simp only [Bool.and_eq_true, decide_eq_true_eq] at hr
    exact ⟨hr.1.1.1, by omega, by simpa using h.symm⟩
theorem sg_more {ack x sf : Int} {L : List MissM} (m : MissM) (hx : okS x = true) (h : sf = (4 + x + 1 + bitsS x L + 7) / 8) : statusF ack (L ++ [m]) x = 0 ∨ (sf ≤ statusF ack (L ++ [m]) x ∧ statusF ack (L ++ [m]) x - sf ≤ 7) := by
  unfold statusF
  cases rightB ack (L ++ [m]) x
  · exact .inl rfl
  · right
    have hb := missBits_bd hx m
    rw [bitsS_snoc]
    subst h
    simp only [if_true]
    omega
theorem Six.later {a b : Nat} {ack : Int} {A : Option Addr} {n cap : Nat} {m : MissM} (h : Six w a b ack A n cap m) (hb : Below w.heap.size w v) : Six v a b ack A n cap m := by
  obtain ⟨q1, q2, q3, q4, q5, q6⟩ := h
  exact ⟨cell_below hb q1, cell_below hb q2, cell_below hb q3, cell_below hb q4, cell_below hb q5, cell_below hb q6⟩
theorem gotM_a {wQ : World} {ack : Int} {A : Option Addr} {n c : Nat} {L : List MissM} (h : OwnM B wQ (.slice A n c) L) (hb : Below w.heap.size w wQ) : GotM B w (wQ.alloc (.cells #[.int .i64 ack, .slice A n c] 24)) wQ.heap.size ack A n c L :=
  ⟨Row.made _ _ _, h.more _, bl_alloc hb _⟩
theorem gotM_b {wQ : World} {ack : Int} {A : Option Addr} {n c g : Nat} {L : List MissM} (h : OwnM B wQ (.slice A n c) L) (hb : Below w.heap.size w wQ) (hr : Row wQ g 24 #[.int .i64 0, .slice none 0 0]) (hg : w.heap.size ≤ g) :
    GotM B w ((wQ.setCell ⟨g, 0, none⟩ (.int .i64 ack)).setCell ⟨g, 1, none⟩ (.slice A n c)) g ack A n c L :=
  ⟨row_set2 hr, (h.set hr (by decide) _).set (hr.written 0 _) (by decide) _, (hb.setCell (p := ⟨g, 0, none⟩) hg _).setCell (p := ⟨g, 1, none⟩) hg _⟩
set_option maxRecDepth 100000 in
set_option maxHeartbeats 6400000 in
theorem sgrows_ok {A : Option Addr} {L : List MissM} (ack x : Int) (m : MissM) (n cap : Nat) (w : World) (hL : L.length = n) (hn : n ≤ 32) (hs : MSrc w A L) (hz : statusF ack L x ≠ 0) :
    Calls Try.prog 3 #[.agg #[.int .i64 ack, .slice A n cap], m.v, .int .i64 x] w fun e w' => e = .returned (.bool true) ∧ Below w.heap.size w w' := by
  have HS := Lib.hid (fun W (hb : Below w.heap.size w W) => ssize_any ack x n cap W hL (by omega) (hs.later hb))
  have HM := Lib.hid hs
  have HLN := Lib.hid hL
  have HA := Lib.hid stalive_any
  have hzb : (statusF ack L x == 0) = false := by simpa using hz
  generalize hsf : statusF ack L x = sf at *
  have HSF := Lib.hid hsf
  clear hs hz hL hsf
  have HMV := Lib.hid (show m.v = .agg #[.int .i64 m.sn, .bool m.part, .int .i64 m.fr, .int .i64 m.to] from rfl)
  rw [HMV.out]
  have HB0 := Lib.hid (bl_alloc (bl_alloc (Below.refl w.heap.size w) (.cells #[.int .i64 ack, .slice A n cap] 24)) (.cells #[.int .i64 m.sn, .bool m.part, .int .i64 m.fr, .int .i64 m.to] 26))
  have HR1 := Lib.hid ((Row.made w 24 #[.int .i64 ack, .slice A n cap]).more (.cells #[.int .i64 m.sn, .bool m.part, .int .i64 m.fr, .int .i64 m.to] 26))
  have HR2 := Lib.hid (row_made_at (w := w.alloc (.cells #[.int .i64 ack, .slice A n cap] 24)) (t := 26) (cs := #[.int .i64 m.sn, .bool m.part, .int .i64 m.fr, .int .i64 m.to]) (g := w.heap.size + 1) (by simp))
  have hn60 : ¬ (60 : Int) < n := by omega
  go_enter Try.func3, Try.ntmps3
  go_wp2_with (go_at_call 17; (with_reducible refine (HS.out _ HB0.out).mono ?_); rintro e w1 ⟨rfl, hb⟩; (have HB1 := Lib.hid (bl_step HB0.out hb); have HR11 := Lib.hid (HR1.out.later hb); have HR12 := Lib.hid (HR2.out.later hb); obtain ⟨c0, c1⟩ := srow2 HR11.out; obtain ⟨d0, d1, d2, d3⟩ := mrow4 HR12.out; clear hb))
  have hb1s : w.heap.size < w1.heap.size := HR11.out.inside
  have hb2s : w.heap.size + 1 < w1.heap.size := HR12.out.inside
  have HBd := Lib.hid (bl_drew HB1.out)
  go_upto_region 4 with fail
  go_cut [8] (fun s8 wx => ∃ (r : Nat) (A2 : Option Addr) (c2 : Nat), s8 = .pointer (some ⟨r, 0, none⟩) ∧ Hid (GotM w1.heap.size w wx r ack A2 (n + 1) c2 (L ++ [m])) ∧ Hid (Six wx w.heap.size (w.heap.size + 1) ack A n cap m))
  case first =>
    go_region_held3 (fun w' => w'.cell? ⟨w.heap.size, 0, none⟩ = some (.int .i64 ack) ∧ w'.cell? ⟨w.heap.size, 1, none⟩ = some (.slice A n cap) ∧ w'.cell? ⟨w.heap.size + 1, 0, none⟩ = some (.int .i64 m.sn) ∧ w'.cell? ⟨w.heap.size + 1, 1, none⟩ = some (.bool m.part) ∧ w'.cell? ⟨w.heap.size + 1, 2, none⟩ = some (.int .i64 m.fr) ∧ w'.cell? ⟨w.heap.size + 1, 3, none⟩ = some (.int .i64 m.to)) (first | assumption | (refine six_of (A := A) (n := n) (cap := cap) (m := m) (ack := ack) (a := w.heap.size) (b := w.heap.size + 1) ?_ ?_ <;> (repeat (first | exact HR11.out | exact HR12.out | refine Row.more ?_ _ | (with_reducible refine Row.drawn ?_))); done) | exact K2.out | exact K1.out | exact ⟨c0, c1, d0, d1, d2, d3⟩ | exact K1.out | exact K2.out | go_keep | exact six_alloc K2.out _ | exact six_alloc (six_alloc K2.out _) _ | exact six_alloc K1.out _ | exact six_alloc (six_alloc K1.out _) _ | exact six_set (six_set K2.out (by first | omega | (simp <;> omega)) (by first | omega | (simp <;> omega))) (by first | omega | (simp <;> omega)) (by first | omega | (simp <;> omega)))
      (first
        | (refine step_at (.tmp 26) (.tmp 28) 22 rfl ?_; refine step_m0 (B := w1.heap.size) (A := A) (n := n) (c := cap) (L := L) rfl (.tmp 26) (.tmp 28) rfl rfl (by rfl) (by rfl) HLN.out hn (HM.out.later (by repeat (first | exact HB1.out | refine bl_alloc ?_ _ | refine bl_drew ?_))) (by repeat (first | exact row_made_at (by simp) | refine Row.more ?_ _ | (with_reducible refine Row.drawn ?_))) (by first | omega | (simp <;> omega)) (by first | omega | (simp <;> omega)) ?_; intro A1 k1 wP ho1 hb1 hsz1 hk1; (have K1 : Hid (Six wP w.heap.size (w.heap.size + 1) ack A n cap m) := Lib.hid (six_of (row_low (by repeat (first | exact HR11.out | refine Row.more ?_ _ | (with_reducible refine Row.drawn ?_))) hb1 (by omega)) (row_low (by repeat (first | exact HR12.out | refine Row.more ?_ _ | (with_reducible refine Row.drawn ?_))) hb1 (by omega))); have HO1 := Lib.hid ho1; have HP1 := Lib.hid (HB1.out.trans ((show Below w1.heap.size w1 wP from Below.trans (by repeat (first | exact Below.refl _ _ | refine bl_alloc ?_ _ | refine bl_drew ?_)) hb1).mono HB1.out.size)); have hps : w1.heap.size ≤ wP.heap.size := Nat.le_trans (by first | omega | (simp <;> omega)) hsz1; have HPR1 : Hid (Row wP w.heap.size 24 #[.int .i64 ack, .slice A n cap]) := Lib.hid (row_low (by repeat (first | exact HR11.out | refine Row.more ?_ _ | (with_reducible refine Row.drawn ?_))) hb1 hb1s); have HPR2 : Hid (Row wP (w.heap.size + 1) 26 #[.int .i64 m.sn, .bool m.part, .int .i64 m.fr, .int .i64 m.to]) := Lib.hid (row_low (by repeat (first | exact HR12.out | refine Row.more ?_ _ | (with_reducible refine Row.drawn ?_))) hb1 hb2s); have HK1 := Lib.hid hk1; clear ho1 hb1 hk1))
        | (refine step_at (.tmp 29) (.tmp 31) 22 rfl ?_; refine step_m1 (B := w1.heap.size) (n := n) (c := k1) (L := L) (m := m) rfl (.tmp 29) (.tmp 31) rfl rfl (by rfl) (by rfl) HLN.out hn (by repeat (first | exact HO1.out | refine OwnM.more ?_ _)) (by repeat (first | exact row_made_at (by simp) | refine Row.more ?_ _ | (with_reducible refine Row.drawn ?_) | refine HK1.out _ _ _ ?_ (by first | omega | (simp <;> omega)))) (by first | omega | (simp <;> omega)) ?_; intro A2 k2 wQ ho2 hk2; (have K2 : Hid (Six wQ w.heap.size (w.heap.size + 1) ack A n cap m) := Lib.hid (six_of (row_low (by repeat (first | exact HPR1.out | refine Row.more ?_ _)) hk2.below hb1s) (row_low (by repeat (first | exact HPR2.out | refine Row.more ?_ _)) hk2.below hb2s)); have HO2 := Lib.hid ho2; have HQ1 := Lib.hid (HP1.out.trans ((show Below w1.heap.size wP wQ from Below.trans (by repeat (first | exact Below.refl _ _ | refine Below.alloc ?_ (by first | omega | (simp <;> omega)) _)) hk2.below).mono HB1.out.size)); have HQS := Lib.hid (show w1.heap.size ≤ wQ.heap.size from Nat.le_trans (by first | omega | (simp <;> omega)) hk2.size); have HK2 := Lib.hid hk2; (try (have rr : Row wQ (w1.heap.size) 24 #[.int .i64 0, .slice none 0 0] := hk2.rows _ _ _ ?hrow0 (by decide); (case hrow0 => ((repeat (first | (refine row_made_at ?_; simp; done) | refine Row.more ?_ _ | (with_reducible refine Row.drawn ?_) | (refine HK1.out _ _ _ ?_ ?_; rotate_left; (first | omega | (simp; done) | (simp; omega))))); done)); have RR0 := Lib.hid rr; have qa0 := rr.read (i := 0) (x := .int .i64 0) rfl; have qb0 := rr.read (i := 1) (x := .slice none 0 0) rfl; have fa0 := rr.free 0; have fb0 := rr.free 1; clear rr)); (try (have rr : Row wQ (w1.heap.size + 1) 24 #[.int .i64 0, .slice none 0 0] := hk2.rows _ _ _ ?hrow1 (by decide); (case hrow1 => ((repeat (first | (refine row_made_at ?_; simp; done) | refine Row.more ?_ _ | (with_reducible refine Row.drawn ?_) | (refine HK1.out _ _ _ ?_ ?_; rotate_left; (first | omega | (simp; done) | (simp; omega))))); done)); have RR1 := Lib.hid rr; have qa1 := rr.read (i := 0) (x := .int .i64 0) rfl; have qb1 := rr.read (i := 1) (x := .slice none 0 0) rfl; have fa1 := rr.free 0; have fb1 := rr.free 1; clear rr)); (try (have rr : Row wQ (w1.heap.size + 2) 24 #[.int .i64 0, .slice none 0 0] := hk2.rows _ _ _ ?hrow2 (by decide); (case hrow2 => ((repeat (first | (refine row_made_at ?_; simp; done) | refine Row.more ?_ _ | (with_reducible refine Row.drawn ?_) | (refine HK1.out _ _ _ ?_ ?_; rotate_left; (first | omega | (simp; done) | (simp; omega))))); done)); have RR2 := Lib.hid rr; have qa2 := rr.read (i := 0) (x := .int .i64 0) rfl; have qb2 := rr.read (i := 1) (x := .slice none 0 0) rfl; have fa2 := rr.free 0; have fb2 := rr.free 1; clear rr)); (try (have rr : Row wQ (wP.heap.size) 24 #[.int .i64 0, .slice none 0 0] := hk2.rows _ _ _ ?hrow3 (by decide); (case hrow3 => ((repeat (first | (refine row_made_at ?_; simp; done) | refine Row.more ?_ _ | (with_reducible refine Row.drawn ?_) | (refine HK1.out _ _ _ ?_ ?_; rotate_left; (first | omega | (simp; done) | (simp; omega))))); done)); have RR3 := Lib.hid rr; have qa3 := rr.read (i := 0) (x := .int .i64 0) rfl; have qb3 := rr.read (i := 1) (x := .slice none 0 0) rfl; have fa3 := rr.free 0; have fb3 := rr.free 1; clear rr)); (try (have rr : Row wQ (wP.heap.size + 1) 24 #[.int .i64 0, .slice none 0 0] := hk2.rows _ _ _ ?hrow4 (by decide); (case hrow4 => ((repeat (first | (refine row_made_at ?_; simp; done) | refine Row.more ?_ _ | (with_reducible refine Row.drawn ?_) | (refine HK1.out _ _ _ ?_ ?_; rotate_left; (first | omega | (simp; done) | (simp; omega))))); done)); have RR4 := Lib.hid rr; have qa4 := rr.read (i := 0) (x := .int .i64 0) rfl; have qb4 := rr.read (i := 1) (x := .slice none 0 0) rfl; have fa4 := rr.free 0; have fb4 := rr.free 1; clear rr)); clear ho2 hk2)))
    all_goals (first | go_meet | (go_wp2_with fail; go_meet))
    all_goals (first
      | exact ⟨_, _, _, rfl, Lib.hid (gotM_a HO2.out HQ1.out), Lib.hid (by unfold Six; assumption)⟩
      | exact ⟨_, _, _, rfl, Lib.hid (gotM_b HO2.out HQ1.out RR0.out (by omega)), Lib.hid (by unfold Six; assumption)⟩
      | exact ⟨_, _, _, rfl, Lib.hid (gotM_b HO2.out HQ1.out RR1.out (by omega)), Lib.hid (by unfold Six; assumption)⟩
      | exact ⟨_, _, _, rfl, Lib.hid (gotM_b HO2.out HQ1.out RR2.out (by omega)), Lib.hid (by unfold Six; assumption)⟩
      | exact ⟨_, _, _, rfl, Lib.hid (gotM_b HO2.out HQ1.out RR3.out (by omega)), Lib.hid (by unfold Six; assumption)⟩
      | exact ⟨_, _, _, rfl, Lib.hid (gotM_b HO2.out HQ1.out RR4.out (by omega)), Lib.hid (by unfold Six; assumption)⟩
      | (trace_state; fail))
  case rest =>
    obtain ⟨r, A2, c2, rfl, HG, HR⟩ := hcut
    obtain ⟨hx, hn32, hsv⟩ := sg_facts HLN.out HSF.out hzb
    have HSM := Lib.hid (sg_more (ack := ack) m hx hsv)
    have hxb : x = 10 ∨ x = 16 := okS_nat hx
    have hbd := bitsS_bd hx L
    rw [HLN.out] at hbd
    have hsf0 : 0 ≤ sf := by omega
    have hsf1 : sf ≤ 300 := by omega
    have HSV := Lib.hid hsv
    have hx0 : 10 ≤ x := by omega
    have hx1 : x ≤ 16 := by omega
    have HXB := Lib.hid hxb
    have HPB : Hid (pbF x = if x = 10 then 15 else 16) := Lib.hid rfl
    clear hx hxb hbd hsv hn32
    obtain ⟨g1, g2, g3⟩ := HG.out
    have HGB := Lib.hid g3
    obtain ⟨e0, e1⟩ := srow2 g1
    have HSZ := Lib.hid (ssize_any (L := L ++ [m]) ack x (n + 1) c2 wc (by rw [List.length_append, HLN.out]; rfl) (by omega) g2.src)
    generalize hkk : statusF ack (L ++ [m]) x = kk at *
    clear g1 g2 g3 hkk c0 c1 d0 d1 d2 d3
    go_upto_region 6 with (go_at_call 17; (with_reducible refine (HSZ.out).mono ?_); rintro e w2 ⟨rfl, hb⟩; (have HB2 := Lib.hid (bl_step HGB.out hb); have HS2 := Lib.hid (HR.out.later hb); clear hb e0 e1))
    go_upto_region 8 with fail
    have hkk0 : (0 : Int) ≤ 26 := by omega
    go_loopw [10, 11] (fun s i wr => ∃ (k : Nat) (q : Int), k ≤ n ∧ i = .int .i64 k ∧ s = .int .i64 q ∧ 0 ≤ q ∧ q ≤ 21 + 50 * k ∧ Hid (q = 5 + x + bitsS x (L.take k)) ∧ Hid (Below w2.heap.size w2 wr)) (fun _ i _ => n - (intOf i).toNat)
    case atStart => exact ⟨0, 5 + x, by omega, rfl, rfl, by omega, by omega, Lib.hid (by simp [bitsS]), Lib.hid (Below.refl _ _)⟩
    case round =>
      obtain ⟨k, q, hk, rfl, rfl, hq0, hq1, HQ, HB⟩ := hrel
      have HWR := Lib.hid (bl_step HB2.out HB.out)
      obtain ⟨b0, b1, _⟩ := HS2.out.later HB.out
      have hn32 : n ≤ 32 := hn
      by_cases hlt : k < n
      · obtain ⟨ab, ao, hA, hc⟩ := HM.out (by rw [HLN.out]; omega)
        obtain ⟨⟨sn, part, fr, tq⟩, hr⟩ : ∃ r, L[k]? = some r := ⟨_, List.getElem?_eq_getElem (by rw [HLN.out]; exact hlt)⟩
        obtain ⟨e0, e1, e2, e3⟩ := hc k _ hr
        have f1 := cell_below HWR.out e1
        rw [hA] at b1
        have HT := Lib.hid (bitsS_take (x := x) hr)
        have hkI : (k : Int) < (n : Int) := by omega
        clear hc hr e0 e1 e2 e3 hA
        simp only at f1
        cases part
        · go_wp2
          go_roundw
          case rel => exact ⟨k + 1, q + x + 2, by omega, by go_num, by go_num, by omega, by omega, Lib.hid (by rw [HT.out, HQ.out]; simp [missBits]; omega), Lib.hid HB.out⟩
          case measure => simp [intOf]; omega
        · rcases HXB.out with hx | hx
          · have hx16 : (x == 16) = false := by subst hx; rfl
            have HXE := Lib.hid hx
            clear hx
            go_wp2
            go_roundw
            case rel => exact ⟨k + 1, q + x + 2 + 30, by omega, by go_num, by go_num, by omega, by omega, Lib.hid (by rw [HT.out, HQ.out]; simp [missBits, pbF, HXE.out]; omega), Lib.hid HB.out⟩
            case measure => simp [intOf]; omega
          · have hx16 : (x == 16) = true := by subst hx; rfl
            have HXE := Lib.hid hx
            clear hx
            go_wp2
            go_roundw
            case rel => exact ⟨k + 1, q + x + 2 + 30 + 2, by omega, by go_num, by go_num, by omega, by omega, Lib.hid (by rw [HT.out, HQ.out]; simp [missBits, pbF, HXE.out]; omega), Lib.hid HB.out⟩
            case measure => simp [intOf]; omega
      · obtain rfl : n = k := by omega
        have hkI : ¬ (n : Int) < (n : Int) := by omega
        have hqe := HQ.out
        rw [List.take_of_length_le (by rw [HLN.out]; exact Nat.le_refl _)] at hqe
        have hs1 : q ≤ 8 * sf := by have := HSV.out; omega
        have hs2 : 8 * sf < q + 8 := by have := HSV.out; omega
        clear hqe
        have hkc := HSM.out
        rcases hk0 : (kk == 0) with _ | _
        · have hk1 : sf ≤ kk ∧ kk - sf ≤ 7 := by
            rcases hkc with h | h
            · subst h; simp at hk0
            · exact h
          obtain ⟨hk1, hk2⟩ := hk1
          clear hkc
          go_wp2_with (go_at_call 18; (with_reducible refine (HA.out _).mono ?_); rintro e w3 ⟨rfl, hb⟩)
          go_ret
          exact ⟨rfl, bl_step HWR.out hb⟩
        · clear hkc
          go_wp2_with (go_at_call 18; (with_reducible refine (HA.out _).mono ?_); rintro e w3 ⟨rfl, hb⟩)
          go_ret
          exact ⟨rfl, bl_step HWR.out hb⟩
end
end Go.Proofs.Ytolinlnnbdjimaa
namespace Go.Proofs.Ytolinlnnbdjimaa
open Go.RowKit

section
theorem sgrows_every {A : Option Addr} {L : List MissM} (ack x : Int) (m : MissM) (n cap : Nat) (w : World) (hL : L.length = n) (hn : n ≤ 9223372036854775807) (hs : MSrc w A L) :
    Calls Try.prog 3 #[.agg #[.int .i64 ack, .slice A n cap], m.v, .int .i64 x] w fun e w' => e = .returned (.bool true) ∧ Below w.heap.size w w' := by
  by_cases hz : statusF ack L x = 0
  · exact sgrows_zero ack x m n cap w hL hn hs hz
  · obtain ⟨_, h32, _⟩ := sg_facts hL (rfl : statusF ack L x = statusF ack L x) (by simpa using hz)
    exact sgrows_ok ack x m n cap w hL h32 hs hz
end
end Go.Proofs.Ytolinlnnbdjimaa
namespace Go.Proofs.Ytolinlnnbdjimaa
open Go.ChangeShapes Go.WideShapes Go.ChangeAt Go.RowKit

theorem lawOwn : ownKnob Try.prog.godebug = none := by kernel_rfl
theorem lawLaid : laidOutB Try.prog = true := by kernel_rfl

section
variable {H : Type} {enc : TypeId × Value → H} {P : Program}
/-- what was read in the old world is read in the new one -/
theorem args_stay (hl : laidOutB P = true) {W W' : World} (hb : Below W.heap.size W W') : ∀ (ts : List TypeId) (vs : List Value) (ds : List (DataW H)) (ps : List MemPlace),
    (∀ t ∈ ts, P.readableRec t = true ∧ t < P.types.size) → DataW.TrodAll enc P W 0 (fun _ => true) true ts vs ds ps → (∀ x ∈ ps, x.block < W.heap.size) →
    DataW.TrodAll enc P W' 0 (fun b => decide (b < W.heap.size)) true ts vs ds ps := by
  intro ts
  induction ts with
  | nil =>
    intro vs ds ps _ h _
    obtain ⟨rfl, rfl, rfl⟩ := trodAll_nil h
    exact trodAll_mk0
  | cons t ts ih =>
    intro vs ds ps hr h hlt
    obtain ⟨v, vs', d, ds', p, q, rfl, rfl, rfl, h1, h2⟩ := trodAll_cons h
    have ht := hr t (List.mem_cons_self ..)
    exact trodAll_cons_mk (Below.trod hl ht.1 ht.2 h1 hb fun x hx => hlt x (List.mem_append_left _ hx))
      (ih vs' ds' q (fun u hu => hr u (List.mem_cons_of_mem _ hu)) h2 fun x hx => hlt x (List.mem_append_right _ hx))

theorem law_post {f : Func} {s : ChangeSpec} {W W' : World} {args : Array Value} {ds gs : List (DataW H)} {before : List MemPlace} {B : TypeId}
    (hl : laidOutB P = true) (hr : f.params.toList.all (fun t => P.readableRec t && decide (t < P.types.size)) = true) (hv : s.vars = [])
    (hW : DataW.Whole enc P f.params.toList s.vars false W args.toList ds gs before)
    (hs : s.fn H (ds ++ gs) = { results := [.lit (.bool true)], args := ds }) (ht : f.resultTypes = #[B]) (hB : P.underlying B = some .bool)
    (hb : Below W.heap.size W W') : s.post enc P f false true false false W args (.bool true) W' := by
  have hW' := hW
  obtain ⟨p, q, hA, hV, rfl, _, _⟩ := hW
  rw [hv] at hV
  obtain ⟨rfl, rfl⟩ := trodVars_none hV
  refine ⟨ds, [], p ++ [], [], p, [], hW', ?_, ?_, ?_, hb.frame _, fun h => by cases h⟩
  · rw [hs, ht]
    exact trodAll_mk1 (shut_bool hB true)
  · rw [hs]
    exact args_stay hl hb _ _ _ _ (fun t h => by have := List.all_eq_true.1 hr t h; simpa using this) hA fun x hx => hW'.lt x (List.mem_append_left _ hx)
  · rw [hs, hv]
    exact rfl
end
end Go.Proofs.Ytolinlnnbdjimaa
namespace Go.Proofs.Ytolinlnnbdjimaa


def okAt (n k m : Nat) : Bool := decide (1 ≤ m) && decide (m ≤ if k + 1 = n then 4000 else 2047)
/-- the first k of these lengths may be -/
def okTo (ls : List Nat) (k : Nat) : Bool := (List.range k).all fun j => okAt ls.length j (ls.getD j 0)
theorem okTo_zero (ls : List Nat) : okTo ls 0 = true := rfl
theorem okTo_succ (ls : List Nat) (k : Nat) : okTo ls (k + 1) = (okTo ls k && okAt ls.length k (ls.getD k 0)) := by
  unfold okTo
  rw [List.range_succ, List.all_append]
  simp
theorem okTo_at {ls : List Nat} {k m : Nat} (h : ls[k]? = some m) (h0 : okTo ls k = true) : okTo ls (k + 1) = okAt ls.length k m := by
  rw [okTo_succ, h0, List.getD_eq_getElem?_getD, h]
  rfl
theorem okTo_later {ls : List Nat} {k n : Nat} (h : okTo ls k = false) (hk : k ≤ n) : okTo ls n = false := by
  rw [← Bool.not_eq_true] at h ⊢
  intro h1
  apply h
  unfold okTo at *
  rw [List.all_eq_true] at *
  intro j hj
  exact h1 j (by rw [List.mem_range] at *; omega)
theorem okAt_small {n k m : Nat} (h : okAt n k m = true) : 1 ≤ m ∧ m ≤ 4000 ∧ (k + 1 ≠ n → m ≤ 2047) := by
  unfold okAt at h
  rw [Bool.and_eq_true, decide_eq_true_iff, decide_eq_true_iff] at h
  obtain ⟨h1, h2⟩ := h
  by_cases hk : k + 1 = n
  · rw [if_pos hk] at h2
    exact ⟨h1, h2, fun h => absurd hk h⟩
  · rw [if_neg hk] at h2
    exact ⟨h1, by omega, fun _ => h2⟩
theorem okTo_small {ls : List Nat} (h : okTo ls ls.length = true) {k m : Nat} (hm : ls[k]? = some m) : 1 ≤ m ∧ m ≤ 4000 ∧ (k + 1 ≠ ls.length → m ≤ 2047) := by
  have hk : k < ls.length := (List.getElem?_eq_some_iff.1 hm).1
  unfold okTo at h
  rw [List.all_eq_true] at h
  have h1 := h k (by rw [List.mem_range]; exact hk)
  rw [List.getD_eq_getElem?_getD, hm] at h1
  exact okAt_small h1
def sumTo (ls : List Nat) (k : Nat) : Nat := (ls.take k).sum
theorem sumTo_zero (ls : List Nat) : sumTo ls 0 = 0 := by simp [sumTo]
theorem sumTo_all (ls : List Nat) : sumTo ls ls.length = ls.sum := by simp [sumTo]
theorem sumTo_succ {ls : List Nat} {k m : Nat} (h : ls[k]? = some m) : sumTo ls (k + 1) = sumTo ls k + m := by
  obtain ⟨hk, rfl⟩ := List.getElem?_eq_some_iff.1 h
  unfold sumTo
  rw [List.take_succ_eq_append_getElem hk, List.sum_append]
  simp
theorem sumTo_le (ls : List Nat) (k : Nat) : sumTo ls k ≤ ls.sum := by
  have h := List.take_append_drop k ls
  have h1 : ls.sum = (ls.take k).sum + (ls.drop k).sum := by rw [← List.sum_append, h]
  unfold sumTo
  omega
theorem sumTo_bound {ls : List Nat} {k : Nat} (h : okTo ls k = true) (hk : k ≤ ls.length) : sumTo ls k ≤ 4000 * k := by
  induction k with
  | zero => simp [sumTo]
  | succ k ih =>
    have hm : ls[k]? = some ls[k] := List.getElem?_eq_getElem (by omega)
    rw [okTo_succ, Bool.and_eq_true, List.getD_eq_getElem?_getD, hm] at h
    have h1 := okAt_small h.2
    have h2 := ih h.1 (by omega)
    rw [sumTo_succ hm]
    simp only [Option.getD_some] at h1
    omega

/-- how many bytes fields have, with their lengths; 0: they may not be -/
def szF (ls : List Nat) (wd : Int) : Int := if 1 ≤ ls.length ∧ ls.length ≤ 24 ∧ okTo ls ls.length = true then sizeF ((ls.length : Int) - 1) wd + ls.sum else 0
/-- .. behind a head, at most 4000 in all -/
def fieldsF (ls : List Nat) (head wd : Int) : Int := if 1 ≤ ls.length ∧ ls.length ≤ 24 ∧ okTo ls ls.length = true ∧ head + sizeF ((ls.length : Int) - 1) wd + ls.sum ≤ 4000 then head + sizeF ((ls.length : Int) - 1) wd + ls.sum else 0
theorem sizeF_nonneg (n x : Int) : 0 ≤ sizeF n x ∧ sizeF n x ≤ 46 := by
  unfold sizeF
  split
  · rename_i h
    rw [Bool.and_eq_true, Bool.and_eq_true, decide_eq_true_iff, decide_eq_true_iff] at h
    obtain ⟨h1, h2, h3⟩ := h
    rcases okW_nat h1 with rfl | rfl <;> omega
  · omega
theorem szF_pos {ls : List Nat} {wd : Int} : (szF ls wd = 0 ∧ ¬ (1 ≤ ls.length ∧ ls.length ≤ 24 ∧ okTo ls ls.length = true)) ∨ (szF ls wd = sizeF ((ls.length : Int) - 1) wd + ls.sum ∧ 1 ≤ szF ls wd ∧ szF ls wd ≤ 100000 ∧ 1 ≤ ls.length ∧ ls.length ≤ 24 ∧ okTo ls ls.length = true) := by
  unfold szF
  split
  · rename_i h
    right
    obtain ⟨h1, h2, h3⟩ := h
    have h4 := sumTo_bound h3 (Nat.le_refl _)
    rw [sumTo_all] at h4
    have h5 := sizeF_nonneg ((ls.length : Int) - 1) wd
    have h6 : 1 ≤ ls.sum := by
      have hm : ls[0]? = some ls[0] := List.getElem?_eq_getElem (by omega)
      have h7 := okTo_small h3 hm
      have h8 := sumTo_succ hm
      have h9 := sumTo_le ls (0 + 1)
      omega
    exact ⟨rfl, by omega, by omega, h1, h2, h3⟩
  · exact .inl ⟨rfl, by assumption⟩
/-- the code's way to it -/
theorem fieldsF_code (ls : List Nat) (head wd : Int) : fieldsF ls head wd = if szF ls wd = 0 ∨ 4000 < head + szF ls wd then 0 else head + szF ls wd := by
  rcases szF_pos (ls := ls) (wd := wd) with ⟨h1, h2⟩ | ⟨h1, h2, h3, h4, h5, h6⟩
  · rw [if_pos (.inl h1)]
    unfold fieldsF
    rw [if_neg (fun h => h2 ⟨h.1, h.2.1, h.2.2.1⟩)]
  · unfold fieldsF
    by_cases h7 : 4000 < head + szF ls wd
    · rw [if_neg (fun h => by omega), if_pos (.inr h7)]
    · rw [if_pos ⟨h4, h5, h6, by omega⟩, if_neg (by omega)]
      omega
end Go.Proofs.Ytolinlnnbdjimaa
