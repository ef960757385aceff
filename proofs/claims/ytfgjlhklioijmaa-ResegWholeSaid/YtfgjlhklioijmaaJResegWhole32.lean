/-
  reseg: parts put together: a step of each; a list of what was told. A list of the call's own of one-cell elements: one more (append); how it looks. glue: what is told lies in what was held, or in new memory. reseg: two glues side by side, and what one of them told.
-/
import Derived.Test.YtfgjlhklioijmaaJResegWhole31
import Derived.Test.YtfgjlhklioijmaaJResegWhole22
import Derived.Test.YtfgjlhklioijmaaJResegWhole01
namespace Go.Proofs.Ytfgjlhklioijmaa
open Go.RowKit

theorem okG_of {fi : Int} {ls : List Nat} (h0 : 0 ≤ fi) (h3 : fi ≤ 3) (h1 : 1 ≤ ls.length) (h24 : ls.length ≤ 24) (hp : ∀ l ∈ ls, 0 < l) : okG fi ls = true := by
  unfold okG
  have hz : ¬ 0 ∈ ls := fun h => by have := hp 0 h; omega
  simp [h0, h3, hz, h24]
  omega
/-- what a cut answers, told for a glue -/
def RwAns (L : List RowB) (fi a : Nat) (snv : Int) (w : World) (e : Ending) (w' : World) : Prop :=
  ∃ (pt lb : Bool) (f2 : Nat) (off2 : Int) (g k q : Nat) (M : List RowB), e = .returned (.tuple #[.agg #[.bool false, .int .i64 (f2 : Int), .int .i64 snv, .bool pt, .bool lb, .int .i64 off2, .slice (some ⟨g, 0, none⟩) k k], .int .i64 (q : Nat), .int .i64 0]) ∧ M.length = k ∧ OwnR w.heap.size w' (.slice (some ⟨g, 0, none⟩) k k) M ∧ Below w.heap.size w w' ∧
    a < q ∧ q ≤ (lens L).sum ∧ okG (f2 : Int) (lens M) = true ∧ f2 ≤ 3 ∧ (∀ s : GS, s.held.length + (q - a) ≤ 1000 → putG f2 (texts M) false s = runB (flat L) (lens L) fi a (q - a) s) ∧ (lens M).sum ≤ 96000
theorem lens_map (L : List RowB) : lens L = (texts L).map List.length := by simp [lens, texts]
theorem rsw_cut {A : Option Addr} {L : List RowB} (poll last : Bool) (f : Nat) (sn off wd grant : Int) (n cap a : Nat) (w : World) (hL : L.length = n) (hs : RSrc w A L) (h0 : amdF false last (f : Int) sn off (lens L) wd ≠ 0) (ha : a < (lens L).sum) (hg : leastR wd ≤ grant) (hg2 : grant ≤ 4000) (hsm : (lens L).sum ≤ 1000) :
    Calls Try.prog 107 #[.agg #[.bool poll, .int .i64 (f : Int), .int .i64 sn, .bool false, .bool last, .int .i64 off, .slice A n cap], .int .i64 a, .int .i64 ((lens L).sum : Nat), .int .i64 grant, .int .i64 wd] w (RwAns L f a sn w) := by
  obtain ⟨hwd, hf0, hf3, _, _, hl1, hl24, hok, _⟩ := amdF_pos h0
  have hp : ∀ l ∈ lens L, 0 < l := by
    intro m hm
    obtain ⟨k, hk⟩ := List.getElem?_of_mem hm
    have := okTo_small hok hk
    omega
  have hh := headA_nonneg true wd
  have hfr : faultR false last f sn off (lens L) a ((lens L).sum : Nat) grant wd = 0 := by
    unfold faultR
    rw [if_neg (by simp; exact h0), if_neg (by
      unfold leastR at hg
      split at hg <;> omega), if_neg (by omega)]
  have hdl : (flat L).length = (lens L).sum := length_flat L
  by_cases hall : a = 0 ∧ amdF false last f sn off (lens L) wd ≤ grant
  · obtain ⟨rfl, hgr⟩ := hall
    refine (rsc_whole poll false last f sn off n cap (lens L).sum grant wd w hL hs hfr rfl hgr).mono ?_
    rintro e w' ⟨g, M, rfl, h1, h2, h3, h4⟩
    have hlm := texts_lens h2
    refine ⟨false, last, f, off, g, n, (lens L).sum, M, rfl, h1, h3, h4, by omega, Nat.le_refl _, ?_, by omega, fun s hs => ?_, by rw [hlm]; omega⟩
    · rw [hlm]
      exact okG_of hf0 hf3 hl1 hl24 hp
    · rw [h2, Nat.sub_zero] at *
      have h := putG_all (fs := texts L) (fi := f) s (by omega) (fun t ht => by
        obtain ⟨r, hr, rfl⟩ := List.mem_map.1 ht
        exact hp _ (List.mem_map.2 ⟨r, hr, rfl⟩)) (by rw [← lens_map]; omega) (by rw [← lens_map]; exact hs)
      rw [← lens_map] at h
      exact h
  · refine (rsc_part poll false last f sn off n cap a (lens L).sum grant wd w hL hs hfr (by
      by_cases h1 : a = 0
      · exact .inr (.inr (by have : ¬ amdF false last f sn off (lens L) wd ≤ grant := fun h => hall ⟨h1, h⟩; omega))
      · exact .inl h1)).mono ?_
    rintro e w' (⟨h1, h2, h3⟩ | ⟨N, g, k, M, h1, hC, h3, h4, h5, h6, h7, h8⟩)
    · exfalso
      unfold leastR at hg
      rw [if_neg (by rcases hwd with rfl | rfl <;> decide)] at hg
      omega
    · have hle := hC.1
      have hfc := fiC_bound (lens L) f a (a + N)
      obtain ⟨f2, hf2⟩ : ∃ f2 : Nat, fiC (lens L) f a (a + N) = f2 := ⟨(fiC (lens L) f a (a + N)).toNat, by omega⟩
      rw [hf2] at h3
      have hsum : (lens M).sum = N := by rw [h5]; exact pcs_sum _ _ _
      refine ⟨true, _, f2, a, g, k, a + N, M, h3, h4, h7, h8, by omega, by omega, ?_, by omega, fun s hs => ?_, by omega⟩
      · rw [h5]
        refine okG_of (by omega) (by omega) ?_ (Nat.le_trans (pcs_len hp (by omega)) hl24) (fun l hl => ?_)
        · exact pcs_pos _ _ h1
        · obtain ⟨j, hj⟩ := List.getElem?_of_mem hl
          exact (pcs_small (M := 4000) (a := a) (N := N) (fun j m hj hn => (okTo_small hok hj).2.1) (by omega) hj).1
      · rw [h6, Nat.add_sub_cancel_left]
        have h := putG_part (d := flat L) (ls := lens L) (fi := f) (a := a) (N := N) s (by omega) h1 (by omega) hdl (by omega)
        rw [hf2] at h
        simpa using h
set_option maxRecDepth 100000 in
/-- rows are put behind rows -/
theorem app_rows {B : Nat} {w : World} {v : Value} {L M : List RowB} {A : Option Addr} (m c : Nat) (h : w.ownsRow B 30 1 v L.length (L.map RowB.v)) (hB : B ≤ w.heap.size) (hs : Src w A (M.map RowB.v)) (hm : M.length = m) (hlm : L.length + m ≤ 100000) :
    ∃ A' c' w2, (Builtin.append_ #[22, 22] 22 #[v, .slice A m c]).run Try.prog w = .ok (.slice A' (L.length + m) c') w2 ∧ w2.ownsRow B 30 1 (.slice A' (L.length + m) c') (L.length + m) ((L ++ M).map RowB.v) ∧ Only (fun k => v.ownBlock = some k) w w2 := by
  obtain ⟨i0, hi, hi0, hi1, hi2⟩ := info_parts Try.info30
  subst hm
  have key : ∃ v' W', (Builtin.append_ #[22, 22] 22 #[v, .slice A M.length c]).run Try.prog w = .ok v' W' ∧ W'.ownsRow B 30 1 v' (L.length + M.length) (L.map RowB.v ++ M.map RowB.v) ∧ w.grownBy W' v.ownBlock := by
    cases A with
    | none =>
      have h0 : M.length = 0 := by
        rcases Nat.eq_zero_or_pos M.length with h0 | h0
        · exact h0
        · obtain ⟨ad, h1, _⟩ := hs (by simpa using h0)
          cases h1
      have e : M = [] := List.eq_nil_of_length_eq_zero h0
      subst e
      refine ⟨v, w, ?_, (by simpa using h), World.grownBy.refl _ _⟩
      rcases h.2 with ⟨rfl, h9⟩ | ⟨g, cap, cur, rfl, _, _, hnc, _⟩
      · rw [h9] at *
        simp [Builtin.append_, run_underlying Try.underlying22, sizeOf, typeInfo, hi, Builtin.lenOf, Builtin.firstCells]
      · simp [Builtin.append_, run_underlying Try.underlying22, sizeOf, typeInfo, hi, Builtin.lenOf, Builtin.firstCells, hnc, storeCells]
    | some ad =>
      obtain ⟨v', w', hrun, h2, h3, _, h5⟩ := run_append_own_at (P := Try.prog) w B 22 22 30 i0 _ 1 24 Try.underlying22 hi hi0 hi1 hi2 rfl (by omega) v L.length (L.map RowB.v) h ad M.length c (M.map RowB.v) (by simp) (fun j u hu => by
        have h0 : 0 < (M.map RowB.v).length := by have := (List.getElem?_eq_some_iff.1 hu).1; omega
        obtain ⟨ad2, h1, h2⟩ := hs h0
        injection h1 with h1
        subst h1
        exact h2 j u hu) (by intro u hu; obtain ⟨r, _, rfl⟩ := List.mem_map.1 hu; rfl) (by unfold maxLen; omega) (by omega) hB
      exact ⟨v', w', hrun, h2, h3⟩
  obtain ⟨v', W', h1, h2, h3⟩ := key
  have hon := (Only.refl (fun k => v.ownBlock = some k) w).grown h3 (fun k hk => .inl hk)
  obtain ⟨A', c', rfl⟩ : ∃ A' c', v' = .slice A' (L.length + M.length) c' := by
    rcases h2.2 with ⟨rfl, e⟩ | ⟨g, cap, cur, e, _⟩
    · exact ⟨none, 0, by rw [e]⟩
    · exact ⟨some ⟨g, 0, none⟩, cap, e⟩
  exact ⟨A', c', W', h1, by rw [List.map_append]; exact h2, hon⟩
end Go.Proofs.Ytfgjlhklioijmaa
namespace Go.Proofs.Ytfgjlhklioijmaa
open Go.RowKit

theorem wpList_is {P : Program} {ops : Array Oper} {rest : List Oper} {o : Oper} {a : Act} {w : World} {Q : Exit → Act → World → Prop} (hgd : o.guard = none) (s x : Operand) (t : TypeId)
    (ho : o.op = .call { callee := .builtin .append, args := #[s, x], argTypes := #[t, t] }) (v u : Value) (hs : a.eval s = v) (hx : a.eval x = u) {v' : Value} {w' : World}
    (hr : (Builtin.append_ #[t, t] o.type #[v, u]).run P w = .ok v' w') (h : wpList P ops Q rest (a.put o.dst v') w') : wpList P ops Q (o :: rest) a w :=
  wpList_plain hgd fun _ hK => by
    unfold Oper.wp execOp
    simp only [ho, resolve, invoke, builtin, Sem.run_bind, Sem.run_pure, Result.andThen_ok, List.map_toArray, List.map_cons, List.map_nil, hs, hx, hr]
    exact hK _ _ h
theorem add_zero_o (g j : Nat) : (⟨g, 0, none⟩ : Addr).add j = ⟨g, j, none⟩ := by
  unfold Addr.add
  split
  · rename_i h; rw [h]
  · simp
section
variable {m n : Nat} {w v : World} {x u z : Value} {xs : List Value} {T E by' : Nat}
theorem own_next (hT : Try.prog.underlying T = some (.slice E)) (hI : (Try.prog.info? E).map (fun i => (i.zero, i.size, i.bytes)) = some (some z, 1, by')) (hz : z.cells.size = 1) (hby : by' ≤ 24) (hu : u.oneCell' = true) (h : w.ownsRow m E 1 x n xs) (hm : m ≤ w.heap.size) (hn : n ≤ 100000) :
    ∃ A' c' w2, (Builtin.append_ #[T, T] T #[x, .slice (some ⟨w.heap.size, 0, none⟩) 1 1]).run Try.prog (w.alloc (.cells #[u] E)) = .ok (.slice A' (n + 1) c') w2 ∧
      w2.ownsRow m E 1 (.slice A' (n + 1) c') (n + 1) (xs ++ [u]) ∧ Only (fun k => x.ownBlock = some k) w w2 := by
  obtain ⟨i0, hi, hi0, hi1, hi2⟩ := info_parts hI
  have hbA := bl_alloc (Below.refl w.heap.size w) (.cells #[u] E)
  have a4' := own_only h (S := fun _ => False) (.of_below hbA) (fun _ _ hk => hk)
  obtain ⟨v', w2, hrun, hown, hgr, _, hat⟩ := run_append_own_at (P := Try.prog) (w := w.alloc (.cells #[u] E)) m T T E i0 z 1 by' hT hi hi0 hi1 hi2 hz (by omega) x n xs a4' ⟨w.heap.size, 0, none⟩ 1 1 [u] rfl
    (fun j u' hu' => by
      match j, hu' with
      | 0, hu' =>
        simp only [List.getElem?_cons_zero, Option.some.injEq] at hu'
        subst hu'
        rw [add_zero_o]
        exact (Row.made w E #[u]).read rfl
      | j + 1, hu' => simp at hu') (by intro y hy; simp at hy; subst hy; exact hu) (by unfold maxLen; omega) (by have := Nat.mul_le_mul (show n + 1 ≤ 100001 by omega) hby; omega) (by have := hbA.size; omega)
  have hon : Only (fun k => x.ownBlock = some k) w w2 := (Only.of_below hbA).andThen ((Only.refl _ _).grown hgr (fun k hk => .inl hk) : Only (fun k => x.ownBlock = some k) _ _) (fun k _ hk => hk)
  obtain ⟨A', c', rfl⟩ : ∃ A' c', v' = .slice A' (n + 1) c' := by
    rcases hown.2 with ⟨_, e⟩ | ⟨g, cap, cur, e, _⟩
    · omega
    · exact ⟨some ⟨g, 0, none⟩, cap, e⟩
  exact ⟨A', c', w2, hrun, hown, hon⟩
theorem own_shape (h : w.ownsRow m E 1 x n xs) : ∃ A c, x = .slice A n c ∧ n ≤ c ∧ c ≤ 9223372036854775807 := by
  rcases h.2 with ⟨rfl, rfl⟩ | ⟨g, cap, cur, rfl, _, _, h1, h2, _⟩
  · exact ⟨none, 0, rfl, Nat.le_refl _, by decide⟩
  · exact ⟨_, cap, rfl, h1, by unfold maxLen at h2; omega⟩
theorem own_after (h : w.ownsRow m E 1 x n xs) (hb : Below w.heap.size w v) : v.ownsRow m E 1 x n xs := own_only h (S := fun _ => False) (.of_below hb) (fun _ _ hk => hk)
/-- what lies behind a slice: in one block, that is not older than block m -/
def SlAt (m E : Nat) (w : World) (A : Option Addr) (xs : List Value) : Prop :=
  xs ≠ [] → ∃ (g : Nat) (cs : Array Value), A = some ⟨g, 0, none⟩ ∧ m ≤ g ∧ Row w g E cs ∧ ∀ (i : Nat) (u : Value), xs[i]? = some u → cs[i]? = some u
theorem own_at {A : Option Addr} {c : Nat} (h : w.ownsRow m E 1 (.slice A n c) n xs) : SlAt m E w A xs := by
  intro hne
  rcases h.2 with ⟨h1, h2⟩ | ⟨g, cap, cur, h1, h2, h3, h4, h5, h6, h7⟩
  · exfalso
    have := h.1
    rw [h2] at this
    exact hne (List.eq_nil_of_length_eq_zero (by omega))
  · injection h1 with hA _ _
    refine ⟨g, cur, hA, h2, h3, fun i u hu => ?_⟩
    have hi := (List.getElem?_eq_some_iff.1 hu).1
    have hl := h.1
    rw [← h7, List.getElem?_take] at hu
    split at hu
    · simpa using hu
    · cases hu
theorem SlAt.only {S : Nat → Prop} {A : Option Addr} (h : SlAt m E w A xs) (ho : Only S w v) (hS : ∀ g cs, Row w g E cs → m ≤ g → ¬ S g) : SlAt m E v A xs := by
  intro hne
  obtain ⟨g, cs, h1, h2, h3, h4⟩ := h hne
  exact ⟨g, cs, h1, h2, h3.only ho (hS g cs h3 h2), h4⟩
theorem SlAt.later {A : Option Addr} (h : SlAt m E w A xs) (hb : Below w.heap.size w v) : SlAt m E v A xs := h.only (S := fun _ => False) (.of_below hb) (fun _ _ _ _ hk => hk)
theorem SlAt.cell {A : Option Addr} (h : SlAt m E w A xs) {i : Nat} {u : Value} (hu : xs[i]? = some u) : ∃ g, A = some ⟨g, 0, none⟩ ∧ w.cell? ⟨g, i, none⟩ = some u := by
  obtain ⟨g, cs, h1, h2, h3, h4⟩ := h (by rintro rfl; simp at hu)
  exact ⟨g, h1, h3.read (h4 i u hu)⟩
end
end Go.Proofs.Ytfgjlhklioijmaa
namespace Go.Proofs.Ytfgjlhklioijmaa
open Go.RowKit

/-- a row is of what was, or lies in what was held, or in new memory -/
def NewR (hv : Value) (w : World) (L L' : List RowB) : Prop := ∀ r ∈ L', r ∈ L ∨ ∃ g, r.A = some ⟨g, 0, none⟩ ∧ (hv.ownBlock = some g ∨ w.heap.size ≤ g)
def PutStepX (B C p gb tb : Nat) (hv tv : Value) (s' : GS) (L : List RowB) (told : List (List Nat)) (w : World) (e : Ending) (w' : World) : Prop :=
  e = .returned (.tuple #[]) ∧ ∃ hv' tv' L', GInv B C p gb tb w' hv' tv' s' L' ∧ texts L' = texts L ++ told ∧ Only (GS2 p tb hv tv) w w' ∧ GNext w hv hv' ∧ GNext w tv tv' ∧ C ≤ w'.heap.size ∧ NewR hv w L L'
theorem newr_one {B : Nat} {w w1 : World} {hv : Value} {A : Option Addr} {n c : Nat} {l : List Nat} {L : List RowB} (h : OwnY B w1 (.slice A n c) l) (hn : 0 < n) (hg : GNext w hv (.slice A n c)) : NewR hv w L (L ++ [⟨A, n, l⟩]) := fun r hr => by
  rw [List.mem_append, List.mem_singleton] at hr
  rcases hr with hr | rfl
  · exact .inl hr
  · rcases h.2 with ⟨e, _⟩ | ⟨g, cap, cur, e, _⟩
    · injection e with _ e; omega
    · injection e with e1 e2 e3
      subst e1
      exact .inr ⟨g, rfl, hg g rfl⟩
set_option maxRecDepth 100000 in
set_option maxHeartbeats 1600000 in
theorem put1_anyX {B C p gb tb : Nat} {w : World} {hv tv : Value} {s : GS} {L : List RowB} {F : Option Addr} {f : List Nat} (b e : Bool) (m fc : Nat) (h : GInv B C p gb tb w hv tv s L) (hlost : s.lost ≤ 1000000) (hB : B ≤ w.heap.size) (hC : C ≤ w.heap.size) (hL : L.length ≤ 1000) (hs : ∀ W, Only (fun k => k = p) w W → Src W F (bts f)) (hm : f.length = m) (hm1 : m ≤ 9223372036854775807) (hm2 : b = false → m ≤ 100000) (hl : s.held.length ≤ 1000) :
    Calls Try.prog 202 #[.slice F m fc, .bool b, .bool e, .pointer (some ⟨gb, 0, none⟩), .pointer (some ⟨tb, 0, none⟩)] w (PutStepX B C p gb tb hv tv ((s.come f b e).told e).1 L ((s.come f b e).told e).2 w) := by
  have HC := Lib.hid (gcome_any b e m fc h.1 hlost hB hs hm hm1 hm2 hl)
  have HH := Lib.hid h
  have g0 : w.cell? ⟨gb, 0, none⟩ = some (.pointer (some ⟨p, 0, none⟩)) := h.2.1.read rfl
  generalize s.come f b e = s1 at *
  clear h hs hm hlost hm2
  go_enter Try.func202, Try.ntmps202
  go_wp2_with fail
  refine (HC.out).mono ?_
  rintro e1 w1 ⟨rfl, hv1, h1, ho1, hg1⟩
  have hi1 := HH.out.come h1 ho1 hg1
  have hC1 := Nat.le_trans hC ho1.size
  have HO1 := Lib.hid (ho1.weaker (T := GS2 p tb hv tv) (fun k _ hk => .inl hk))
  have HG1 := Lib.hid hg1
  obtain ⟨A, c, rfl, q1, q2⟩ := h1.2.form
  unfold maxLen at q2
  have k0 : w1.cell? ⟨gb, 0, none⟩ = some (.pointer (some ⟨p, 0, none⟩)) := hi1.2.1.read rfl
  have k1 := h1.1.read (i := 1) rfl
  have HI1 := Lib.hid hi1
  clear hi1 h1 ho1 hg1 HC
  cases e
  · have HE := Lib.hid (show PutStepX B C p gb tb hv tv (s1.told false).1 L (s1.told false).2 w (.returned (.tuple #[])) w1 from ⟨rfl, _, tv, L, HI1.out, by simp [GS.told], HO1.out, HG1.out, GNext.refl _ _, hC1, fun r hr => .inl hr⟩)
    go_wp2
    go_end0
    exact HE.out
  · by_cases h0 : s1.held = []
    · have HE := Lib.hid (show PutStepX B C p gb tb hv tv (s1.told true).1 L (s1.told true).2 w (.returned (.tuple #[])) w1 from by rw [told_no h0]; exact ⟨rfl, _, tv, L, HI1.out, by simp, HO1.out, HG1.out, GNext.refl _ _, hC1, fun r hr => .inl hr⟩)
      have hd : decide ((0 : Int) < (s1.held.length : Int)) = false := decide_eq_false (by rw [h0]; simp)
      have h0' : s1.held.length ≤ 0 := by rw [h0]; simp
      clear h0
      go_wp2
      go_end0
      exact HE.out
    · have HT := Lib.hid (told_yes h0)
      obtain ⟨n, hn⟩ : ∃ n, s1.held.length = n := ⟨_, rfl⟩
      have hn0 : 0 < n := by rw [← hn]; exact List.length_pos_iff.2 h0
      rw [hn] at q1 k1 HI1 HG1
      obtain ⟨g', c', w2, hrun, r3, r2, r1, hi3, ho3, hg3⟩ := told_tail HI1.out hn hn0 hL hC1
      have hd : (0 : Int) < (n : Int) := by omega
      have t0 : w1.cell? ⟨tb, 0, none⟩ = some tv := HI1.out.2.2.1.read rfl
      have t1 : (w1.alloc (.cells #[.slice A n n] 30)).cell? ⟨tb, 0, none⟩ = some tv := (HI1.out.2.2.1.more _).read rfl
      have x0 : w2.cell? ⟨tb, 0, none⟩ = some tv := r3.read rfl
      have x1 := r3.free 0
      have p1 : p ≠ tb := r1.apart r3 (by decide)
      have p2 : gb ≠ tb := r2.apart r3 (by decide)
      have y0 : (w2.setCell ⟨tb, 0, none⟩ (.slice (some ⟨g', 0, none⟩) (L.length + 1) c')).cell? ⟨gb, 0, none⟩ = some (.pointer (some ⟨p, 0, none⟩)) := (r2.elsewhere p2 _).read rfl
      have y1 := (r1.elsewhere (p := ⟨tb, 0, none⟩) p1 (.slice (some ⟨g', 0, none⟩) (L.length + 1) c')).read (i := 1) rfl
      have y2 := (r1.elsewhere (p := ⟨tb, 0, none⟩) p1 (.slice (some ⟨g', 0, none⟩) (L.length + 1) c')).free 1
      have HE := Lib.hid (show PutStepX B C p gb tb hv tv (s1.told true).1 L (s1.told true).2 w (.returned (.tuple #[])) _ from by
        rw [HT.out]
        refine ⟨rfl, _, _, _, hi3, ?_, ?_, GNext.nil _ _, ?_, ?_⟩
        · simp [texts]
        · refine HO1.out.andThen ho3 (fun k hk hx => ?_)
          rcases hx with (hx | hx) | hx
          · exact .inl (.inl hx)
          · rcases HG1.out k hx with h9 | h9
            · exact .inl (.inr h9)
            · omega
          · exact .inr hx
        · intro k hk
          rcases hg3 k hk with h9 | h9
          · exact .inl h9
          · exact .inr (Nat.le_trans HO1.out.size h9)
        · exact ⟨Nat.le_trans hC1 ho3.size, newr_one HI1.out.1.2 hn0 HG1.out⟩)
      clear hi3 ho3 hg3 HT h0 HI1 HO1 HG1 r1 r2 r3 HH hn
      have hcl := fun W => clipb_any (A := A) n c W q1
      go_wp2
      go_region_law (first
        | (go_simp; go_at_call 204; refine (hcl _).mono ?_; rintro e2 wx ⟨rfl, rfl⟩; go_simp)
        | (refine step_run rfl (.tmp 22) (.tmp 28) 22 rfl tv (.slice (some ⟨w1.heap.size, 0, none⟩) 1 1) (by rfl) (by rfl) hrun ?_))
      all_goals
        go_wp2
        go_end0
        exact HE.out
/-- what Put does that is not refused -/
def PutDoneX (B p : Nat) (hv : Value) (s' : GS) (told : List (List Nat)) (w : World) (e : Ending) (w' : World) : Prop :=
  ∃ hv' L A, e = .returned (.tuple #[.slice A L.length L.length, .int .i64 0]) ∧ texts L = told ∧ GRep B w' p hv' s' ∧ RSrc w' A L ∧ Only (GS1 p hv) w w' ∧ GNext w hv hv' ∧ (∃ C c, w'.ownsRow C 30 1 (.slice A L.length c) L.length (L.map RowB.v)) ∧ (∀ r ∈ L, TOk B w' hv' r) ∧ NewR hv w [] L
/-- between two fields -/
def GJX (B p gb tb C fi n : Nat) (fs : List (List Nat)) (s : GS) (hv : Value) (w : World) (k : Nat) (W : World) : Prop :=
  ∃ hv' tv' L', GInv B C p gb tb W hv' tv' (goTo fi n fs s k).1 L' ∧ texts L' = (goTo fi n fs s k).2 ∧ Only (GS1 p hv) w W ∧ GNext w hv hv' ∧ (∀ k, tv'.ownBlock = some k → w.heap.size ≤ k) ∧ C ≤ W.heap.size ∧ NewR hv w [] L'
theorem geach_putX {B p gb tb C fi n cap : Nat} {A : Option Addr} {L : List RowB} {s : GS} {hv : Value} {w w3 : World} (hfi : fi ≤ 3) (hL : L.length = n) (hn0 : 0 < n) (hn : n ≤ 24) (hB : B ≤ w.heap.size) (htb : w.heap.size ≤ tb)
    (hs : ∀ W, Only (GS1 p hv) w W → RSrc W A L) (hlen : 2 ≤ fi → ∀ r, L[0]? = some r → r.bs.length ≤ 100000) (hlost : s.lost ≤ 100000) (hheld : s.held.length ≤ 1000) (h0 : GJX B p gb tb C fi n (texts L) s hv w 0 w3) :
    Calls Try.prog 201 #[.int .i64 fi, .slice A n cap, .func (.func 202) #[] #[.pointer (some ⟨gb, 0, none⟩), .pointer (some ⟨tb, 0, none⟩)]] w3 fun e w' => e = .returned (.tuple #[]) ∧ GJX B p gb tb C fi n (texts L) s hv w n w' := by
  refine geach_any fi n cap hfi (GJX B p gb tb C fi n (texts L) s hv w) w3 hL hn0 (by omega) h0 (fun k W h => ?_) (fun k W r hr h => ?_)
  · obtain ⟨_, _, _, _, _, h3, _⟩ := h
    exact hs W h3
  · obtain ⟨hv', tv', L', h1, h2, h3, h4, h5, h6, hnew⟩ := h
    have hk : k < n := by rw [← hL]; exact (List.getElem?_eq_some_iff.1 hr).1
    have hfa := goTo_facts fi n (texts L) s hheld k
    have hl' : L'.length ≤ 24 := by rw [← length_texts, h2]; omega
    refine (put1_anyX (beg fi k) (fin fi n k) r.bs.length r.cap h1 (by omega) (Nat.le_trans hB h3.size) h6 (by omega) (fun W' hb' => ?_) rfl ?_ (fun hbeg => ?_) hfa.1).mono ?_
    · obtain ⟨ad, _, hc⟩ := hs W' (h3.andThen hb' (fun k _ hk => Or.inl hk)) (by omega)
      exact (hc k r hr).2.1
    · obtain ⟨ad, _, hc⟩ := hs W h3 (by omega)
      have h9 := (hc k r hr).2
      have := h9.2.1
      have := h9.2.2.1
      omega
    · unfold beg at hbeg
      rw [Bool.or_eq_false_iff, decide_eq_false_iff_not, beq_eq_false_iff_ne] at hbeg
      obtain rfl : k = 0 := by omega
      exact hlen (by omega) r hr
    · rintro e W2 ⟨rfl, hv2, tv2, L2, g1, g2, g3, g4, g5, g6, gnew⟩
      refine ⟨rfl, hv2, tv2, L2, ?_, ?_, ?_, ?_, ?_, g6, ?_⟩
      · simp only [goTo]
        rw [texts_getD hr]
        exact g1
      · simp only [goTo]
        rw [texts_getD hr, g2, h2]
      · refine h3.andThen g3 (fun j hj hx => ?_)
        rcases hx with (hx | hx) | hx | hx
        · exact .inl hx
        · rcases h4 j hx with h9 | h9
          · exact .inr h9
          · omega
        · omega
        · have := h5 j hx; omega
      · intro j hj
        rcases g4 j hj with h9 | h9
        · exact h4 j h9
        · exact .inr (Nat.le_trans h3.size h9)
      · intro j hj
        rcases g5 j hj with h9 | h9
        · exact h5 j h9
        · exact Nat.le_trans h3.size h9
      · intro r2 hr2
        rcases gnew r2 hr2 with h9 | ⟨g, e, h9⟩
        · exact hnew r2 h9
        · refine .inr ⟨g, e, ?_⟩
          rcases h9 with h9 | h9
          · exact h4 g h9
          · exact .inr (Nat.le_trans h3.size h9)
theorem gj0X {B p gb : Nat} {w w2 : World} {hv hv2 : Value} {s2 : GS} {fi n : Nat} {fs : List (List Nat)} (h : GRep B w2 p hv2 s2) (hg : Row w2 gb 162 #[.pointer (some ⟨p, 0, none⟩)]) (ho : Only (GS1 p hv) w w2) (hn : GNext w hv hv2) :
    GJX B p gb w2.heap.size w2.heap.size fi n fs s2 hv w 0 (w2.alloc (.cells #[.slice none 0 0] 22)) :=
  ⟨hv2, .slice none 0 0, [], ⟨h.later (bl_alloc (Below.refl _ _) _), hg.more _, Row.made _ _ _, World.ownsRow_nil _ _ _ _, fun r hr => by cases hr⟩, rfl, ho.alloc _, hn, fun k hk => by simp [Value.ownBlock] at hk, by simp, fun r hr => by cases hr⟩
set_option maxRecDepth 100000 in
set_option maxHeartbeats 1600000 in
theorem gput_okX {B p : Nat} {w : World} {hv : Value} {s : GS} {A : Option Addr} {L : List RowB} (fi n cap : Nat) (gap : Bool) (h : GRep B w p hv s) (hL : L.length = n) (hB : B ≤ w.heap.size) (hs : ∀ W, Only (GS1 p hv) w W → RSrc W A L) (hok : okG fi (lens L) = true)
    (hlen : 2 ≤ fi → ∀ r, L[0]? = some r → r.bs.length ≤ 100000) (hlost : s.lost ≤ 10000) (hheld : s.held.length ≤ 1000) (hby : ∀ x ∈ s.held, x < 256) :
    Calls Try.prog 104 #[.pointer (some ⟨p, 0, none⟩), .int .i64 fi, .slice A n cap, .bool gap] w (PutDoneX B p hv (putG fi (texts L) gap s).1 (putG fi (texts L) gap s).2 w) := by
  have hok' := hok
  unfold okG at hok'
  simp only [Bool.and_eq_true, decide_eq_true_eq] at hok'
  obtain ⟨⟨⟨⟨_, hfi⟩, hn0⟩, h24⟩, _⟩ := hok'
  rw [length_lens, hL] at hn0 h24
  have hb0 := bl_alloc (Below.refl w.heap.size w) (.cells #[.pointer (some ⟨p, 0, none⟩)] 162)
  have HF := Lib.hid (gfault_any fi n cap (w.alloc (.cells #[.pointer (some ⟨p, 0, none⟩)] 162)) (h.1.more _) hL (by omega) (hs _ (Only.of_below hb0)))
  rw [hok, if_pos rfl] at HF
  have hbytes : ∀ f ∈ texts L, ∀ x ∈ f, x < 256 := by
    intro f hf
    obtain ⟨r, hr, rfl⟩ := List.mem_map.1 hf
    obtain ⟨j, hj⟩ := List.getElem?_of_mem hr
    obtain ⟨ad, _, hc⟩ := hs w (Only.refl _ _) (by omega)
    exact (hc j r hj).2.2.2.2
  have HROW := Lib.hid (Row.made w 162 #[.pointer (some ⟨p, 0, none⟩)])
  have k0 : (w.alloc (.cells #[.pointer (some ⟨p, 0, none⟩)] 162)).cell? ⟨w.heap.size, 0, none⟩ = some (.pointer (some ⟨p, 0, none⟩)) := HROW.out.read rfl
  -- what each leaves, told as the law tells it
  have fine : ∀ (s2 : GS) (gb tb C : Nat) (W : World), (∀ x ∈ s2.held, x < 256) → GJX B p gb tb C fi n (texts L) s2 hv w n W → ∃ (hv' : Value) (L2 : List RowB) (A2 : Option Addr) (c2 : Nat), W.cell? ⟨tb, 0, none⟩ = some (.slice A2 L2.length c2) ∧ L2.length ≤ c2 ∧
      PutDoneX B p hv (goG fi n 0 (texts L) s2).1 (goG fi n 0 (texts L) s2).2 w (.returned (.tuple #[.slice A2 L2.length L2.length, .int .i64 0])) W ∧ hv' = hv' := by
    intro s2 gb tb C W hb2 ⟨hv', tv', L', h1, h2, h3, h4, h5, h6, hnew⟩
    have hgb := goTo_bytes fi n (texts L) s2 hb2 hbytes n
    obtain ⟨A2, c2, rfl, q1, q2⟩ := rows_told h1 (by rw [h2]; exact hgb.2)
    have e := goTo_all fi n (texts L) s2
    rw [length_texts, hL] at e
    rw [← e]
    exact ⟨hv', L', A2, c2, h1.2.2.1.read rfl, q1, ⟨hv', L', A2, rfl, h2, h1.1, q2, h3, h4, ⟨C, c2, h1.2.2.2.1⟩, h1.2.2.2.2, hnew⟩, rfl⟩
  have HFI := Lib.hid fine
  have hput : putG fi (texts L) gap s = goG fi n 0 (texts L) (if gap then s.lose else s) := by unfold putG; rw [length_texts, hL]
  rw [hput]
  have HE := Lib.hid (fun (s2 : GS) (gb tb C : Nat) (w3 : World) (htb : w.heap.size ≤ tb) (hl1 : s2.lost ≤ 100000) (hl2 : s2.held.length ≤ 1000) h0 => geach_putX (fi := fi) (p := p) (hv := hv) (w := w) (w3 := w3) (s := s2) (gb := gb) (tb := tb) (C := C) (cap := cap) (by omega) hL hn0 h24 hB htb hs hlen hl1 hl2 h0)
  have hh1 := h.later hb0
  have HLS := Lib.hid (glose_any hh1 (by omega))
  have HH := Lib.hid hh1
  have HO := Lib.hid (show Only (GS1 p hv) w (w.alloc (.cells #[.pointer (some ⟨p, 0, none⟩)] 162)) from Only.of_below hb0)
  clear hput fine h hs hL hok hbytes hlen hh1 hb0
  have HBY := Lib.hid hby
  have hcl := fun (A : Option Addr) (n c : Nat) (W : World) (hc : n ≤ c) => clipr_any (A := A) n c W hc
  have HCL := Lib.hid hcl
  clear hby hcl
  cases gap
  · have HJ := Lib.hid (gj0X (fi := fi) (n := n) (fs := texts L) HH.out HROW.out HO.out (GNext.refl w hv))
    have e1 : (w.alloc (.cells #[.pointer (some ⟨p, 0, none⟩)] 162)).heap.size = w.heap.size + 1 := by simp
    rw [e1] at HJ
    clear e1
    go_enter Try.func104, Try.ntmps104
    go_wp2_with (first
      | (go_at_call 199; (with_reducible refine (HF.out).mono ?_); rintro e w1 ⟨rfl, rfl⟩)
      | (go_at_call 201; (with_reducible refine (HE.out s w.heap.size (w.heap.size + 1) _ _ (Nat.le_succ _) (by omega) hheld HJ.out).mono ?_); rintro e w4 ⟨rfl, hj⟩; obtain ⟨hv', L2, A2, c2, k1, k2, k3, _⟩ := HFI.out s _ _ _ w4 HBY.out hj; (have HD := Lib.hid k3; clear hj k3))
      | (go_at_call 182; (with_reducible refine (HCL.out _ _ _ _ k2).mono ?_); rintro e w5 ⟨rfl, rfl⟩))
    go_ret2
    exact HD.out
  · have hll := s.lose_lost
    have HLH := Lib.hid (lose_held s)
    have HROW2 := Lib.hid (fun (W : World) (ho : Only (fun k => k = p) (w.alloc (.cells #[.pointer (some ⟨p, 0, none⟩)] 162)) W) (hne : w.heap.size ≠ p) => HROW.out.only ho hne)
    have hne : w.heap.size ≠ p := HROW.out.apart HH.out.1 (by decide)
    go_enter Try.func104, Try.ntmps104
    go_wp2_with (first
      | (go_at_call 199; (with_reducible refine (HF.out).mono ?_); rintro e w1 ⟨rfl, rfl⟩)
      | (go_at_call 200; (with_reducible refine (HLS.out).mono ?_); rintro e w2 ⟨rfl, hv2, h2, ho2, hg2⟩; (have R2 := Lib.hid (HROW2.out w2 ho2 hne); have H2 := Lib.hid h2; have O2 := Lib.hid ((HO.out).andThen ho2 (fun k _ hk => (Or.inl hk : GS1 p hv k))); have G2 := Lib.hid (show GNext w hv hv2 from fun k hk => (hg2 k hk).elim Or.inl (fun h9 => Or.inr (Nat.le_trans HO.out.size h9))); clear h2 ho2 hg2))
      | (go_at_call 201; (with_reducible refine (HE.out s.lose w.heap.size _ _ _ ?z1 ?z2 ?z3 (gj0X H2.out R2.out O2.out G2.out)).mono ?_); rotate_left 3; rintro e w4 ⟨rfl, hj⟩; obtain ⟨hv', L2, A2, c2, k1, k2, k3, _⟩ := HFI.out s.lose _ _ _ w4 (by rw [HLH.out]; simp) hj; (have HD := Lib.hid k3; clear hj k3))
      | (go_at_call 182; (with_reducible refine (HCL.out _ _ _ _ k2).mono ?_); rintro e w5 ⟨rfl, rfl⟩))
    · go_ret2
      exact HD.out
    all_goals (first | omega | (rw [HLH.out]; simp) | exact O2.out.size)
end Go.Proofs.Ytfgjlhklioijmaa
namespace Go.Proofs.Ytfgjlhklioijmaa
open Go.RowKit

structure TwoG (W : World) (p1 p2 : Nat) (h1 h2 : Value) (s1 s2 : GS) (w : World) : Prop where
  g1 : GRep W.heap.size w p1 h1 s1
  g2 : GRep W.heap.size w p2 h2 s2
  ap : ∀ k, GS1 p1 h1 k → ¬ GS1 p2 h2 k
  o1 : W.heap.size ≤ p1
  o2 : W.heap.size ≤ p2
  bl : Below W.heap.size W w
section
variable {W w w' : World} {p1 p2 p : Nat} {h1 h2 hv hv' : Value} {s1 s2 s s' : GS} {A : Option Addr} {L M G : List RowB}
theorem TwoG.swap (h : TwoG W p1 p2 h1 h2 s1 s2 w) : TwoG W p2 p1 h2 h1 s2 s1 w := ⟨h.g2, h.g1, fun k hk hk2 => h.ap k hk2 hk, h.o2, h.o1, h.bl⟩
theorem TwoG.later (h : TwoG W p1 p2 h1 h2 s1 s2 w) (hb : Below w.heap.size w w') : TwoG W p1 p2 h1 h2 s1 s2 w' := ⟨h.g1.later hb, h.g2.later hb, h.ap, h.o1, h.o2, bl_step h.bl hb⟩
theorem TwoG.next (h : TwoG W p1 p2 h1 h2 s1 s2 w) (hg : GRep W.heap.size w' p1 hv' s') (ho : Only (GS1 p1 h1) w w') (hn : GNext w h1 hv') : TwoG W p1 p2 hv' h2 s' s2 w' := by
  refine ⟨hg, h.g2.only ho (fun hk => h.ap _ hk (.inl rfl)) (fun k hk hk1 => h.ap k hk1 (.inr hk)), ?_, h.o1, h.o2, h.bl.trans (ho.below h.bl.size fun k hk hk1 => by have := h.g1.block_ge h.o1 k hk1; omega)⟩
  intro k hk hk2
  rcases hk with hk | hk
  · exact h.ap k (.inl hk) hk2
  · rcases hn k hk with h3 | h3
    · exact h.ap k (.inr h3) hk2
    · have := h.g2.block_lt k hk2
      omega
/-- fields are put into the first one -/
theorem TwoG.put {f2 n cap : Nat} (h : TwoG W p1 p2 h1 h2 s1 s2 w) (hL : M.length = n) (hs : ∀ w', Only (GS1 p1 h1) w w' → RSrc w' A M) (hok : okG (f2 : Int) (lens M) = true) (hsum : (lens M).sum ≤ 96000) (hlost : s1.lost ≤ 10000) (hheld : s1.held.length ≤ 1000) (hby : ∀ x ∈ s1.held, x < 256) :
    Calls Try.prog 104 #[.pointer (some ⟨p1, 0, none⟩), .int .i64 (f2 : Int), .slice A n cap, .bool false] w fun e w' => ∃ hv' L2 A2, e = .returned (.tuple #[.slice A2 L2.length L2.length, .int .i64 0]) ∧ texts L2 = (putG f2 (texts M) false s1).2 ∧ TwoG W p1 p2 hv' h2 (putG f2 (texts M) false s1).1 s2 w' ∧ ToldIs W.heap.size w' hv' A2 L2 ∧ RSrc w' A2 L2 ∧ Only (GS1 p1 h1) w w' ∧ GNext w h1 hv' ∧ NewR h1 w [] L2 := by
  refine (gput_okX (w := w) f2 n cap false h.g1 hL h.bl.size hs hok (fun _ r hr => ?_) hlost hheld hby).mono ?_
  · have : r.bs.length ∈ lens M := List.mem_map.2 ⟨r, List.mem_of_getElem? hr, rfl⟩
    have := le_sum_mem this
    omega
  · rintro e w' ⟨hv', L2, A2, rfl, q1, q2, q3, q4, q5, q6, q7, q8⟩
    exact ⟨hv', L2, A2, rfl, q1, h.next q2 q4 q5, ⟨q6, q7⟩, q3, q4, q5, q8⟩
/-- what the first one told stays, whatever the second one does then -/
theorem told_apart {A2 : Option Addr} {L2 : List RowB} {v u : World} (h : TwoG W p1 p2 h1 h2 s1 s2 w) (ht : ToldIs W.heap.size v hv' A2 L2) (hn : NewR h1 w [] L2) (hs : w.heap.size ≤ v.heap.size) (hg2 : GRep W.heap.size v p2 h2 s2) (hb8 : ∀ t ∈ texts L2, ∀ x ∈ t, x < 256) (ho : Only (GS1 p2 h2) v u) : RSrc u A2 L2 := by
  obtain ⟨⟨C, c, h4⟩, h5⟩ := ht
  have hg : ∀ r ∈ L2, TOk W.heap.size u hv' r := fun r hr => by
    obtain ⟨g, cs, k1, k2, k3, k4, k5, k6, k7⟩ := h5 r hr
    refine ⟨g, cs, k1, k2, k3, k4, k5, k6.only ho (fun hx => ?_), k7⟩
    rcases hx with hx | hx
    · exact k6.apart hg2.1 (by decide) hx
    · rcases hn r hr with h6 | ⟨g', e, h6⟩
      · cases h6
      · rw [k1] at e
        injection e with e
        injection e with e
        subst e
        rcases h6 with h6 | h6
        · exact h.ap g (.inr h6) (.inr hx)
        · have := h.g2.block_lt g (.inr hx)
          omega
  have ho4 : u.ownsRow C 30 1 (.slice A2 L2.length c) L2.length (L2.map RowB.v) := own_only h4 ho (fun k hk hx => by
    rcases hx with hx | hx
    · subst hx; exact own_apart h4 hg2.1 (by decide) hk
    · exact own_rows_apart h4 hg2.2 (by decide) k hk hx)
  exact ToldIs.src (hv := hv') (B := W.heap.size) ⟨⟨C, c, ho4⟩, hg⟩ hb8
/-- while one of them is fed: what it was at first, and what it told since -/
structure FedG (W w4 : World) (p1 p2 : Nat) (h1 h4 hv : Value) (s1 s : GS) (gv : Value) (G : List RowB) (w : World) : Prop where
  two : TwoG W p1 p2 h1 hv s1 s w
  old : Only (GS1 p2 h4) w4 w
  nx : GNext w4 h4 hv
  own : w.ownsRow w4.heap.size 30 1 gv G.length (G.map RowB.v)
  ok : ∀ r ∈ G, TOk W.heap.size w hv r
  hW : W.heap.size ≤ w4.heap.size
theorem FedG.start (h : TwoG W p1 p2 h1 h2 s1 s2 w) : FedG W w p1 p2 h1 h2 h2 s1 s2 (.slice none 0 0) [] w := ⟨h, Only.refl _ _, GNext.refl _ _, World.ownsRow_nil _ _ _ _, fun r hr => (by cases hr), h.bl.size⟩
variable {w4 : World} {h4 gv : Value}
theorem FedG.later (h : FedG W w4 p1 p2 h1 h4 hv s1 s gv G w) (hb : Below w.heap.size w w') : FedG W w4 p1 p2 h1 h4 hv s1 s gv G w' :=
  ⟨h.two.later hb, h.old.andThen (T := fun _ => False) (.of_below hb) (fun _ _ hk => hk.elim), h.nx, own_later2 h.own hb, fun r hr => (h.ok r hr).step (S := fun _ => False) (.of_below hb) (fun _ _ _ _ h => h) (GNext.refl _ _), h.hW⟩
theorem FedG.size (h : FedG W w4 p1 p2 h1 h4 hv s1 s gv G w) : w4.heap.size ≤ w.heap.size := h.old.size
theorem GNext.chain {w v : World} {a b c : Value} (h : GNext w a b) (hs : w.heap.size ≤ v.heap.size) (h2 : GNext v b c) : GNext w a c := fun k hk => by
  rcases h2 k hk with h3 | h3
  · exact h k h3
  · exact .inr (by omega)
/-- fields are put in, and what is told is put behind what was -/
theorem FedG.put {f2 n cap : Nat} (h : FedG W w4 p1 p2 h1 h4 hv s1 s gv G w) (hL : M.length = n) (hs : ∀ w', Only (GS1 p2 hv) w w' → RSrc w' A M) (hok : okG (f2 : Int) (lens M) = true) (hsum : (lens M).sum ≤ 96000) (hlost : s.lost ≤ 10000) (hheld : s.held.length ≤ 1000) (hby : ∀ x ∈ s.held, x < 256) (hG : G.length + (putG f2 (texts M) false s).2.length ≤ 100000) :
    Calls Try.prog 104 #[.pointer (some ⟨p2, 0, none⟩), .int .i64 (f2 : Int), .slice A n cap, .bool false] w fun e w' => ∃ (k : Nat) (A2 : Option Addr), e = .returned (.tuple #[.slice A2 k k, .int .i64 0]) ∧
      ∃ A3 c3 A' c' w2 hv' L2, gv = .slice A3 G.length c3 ∧ (Builtin.append_ #[22, 22] 22 #[gv, .slice A2 k k]).run Try.prog w' = .ok (.slice A' (G.length + k) c') w2 ∧ (G ++ L2).length = G.length + k ∧ texts L2 = (putG f2 (texts M) false s).2 ∧ FedG W w4 p1 p2 h1 h4 hv' s1 (putG f2 (texts M) false s).1 (.slice A' (G.length + k) c') (G ++ L2) w2 ∧ Only (GS1 p2 hv) w w' ∧ Only (fun k => gv.ownBlock = some k) w' w2 := by
  refine (h.two.swap.put hL hs hok hsum hlost hheld hby).mono ?_
  rintro e w' ⟨hv', L2, A2, rfl, q1, q2, q3, q4, q5, q6, _⟩
  obtain ⟨A3, c3, hgv, _⟩ := own_shape h.own
  have hn : GNext w4 h4 hv' := h.nx.chain h.size q6
  have ho : Only (GS1 p2 h4) w4 w' := h.old.andThen q5 (fun k hk hk2 => by
    rcases hk2 with hk2 | hk2
    · exact .inl hk2
    · rcases h.nx k hk2 with h3 | h3
      · exact .inr h3
      · omega)
  have hG2 : ∀ r ∈ G, TOk W.heap.size w' hv' r := fun r hr => (h.ok r hr).step q5 (fun g cs h6 h7 hx => by
    rcases hx with hx | hx
    · exact h6.apart h.two.g2.1 (by decide) hx
    · exact h7 hx) q6
  have hown : w'.ownsRow w4.heap.size 30 1 gv G.length (G.map RowB.v) := own_only h.own q5 (fun k hk hx => by
    rcases hx with hx | hx
    · subst hx; exact own_apart h.own h.two.g2.1 (by decide) hk
    · exact own_rows_apart h.own h.two.g2.2 (by decide) k hk hx)
  have hl2 : L2.length = (putG f2 (texts M) false s).2.length := by rw [← q1]; simp [texts]
  have hsrc : Src w' A2 (L2.map RowB.v) := by
    intro h0
    obtain ⟨ad, e1, e2⟩ := q4 (by simpa using h0)
    refine ⟨ad, e1, fun j u hu => ?_⟩
    rw [List.getElem?_map] at hu
    cases hr : L2[j]? with
    | none => rw [hr] at hu; cases hu
    | some r =>
      rw [hr] at hu
      simp only [Option.map_some, Option.some.injEq] at hu
      subst hu
      exact (e2 j r hr).1
  obtain ⟨A', c', w2, k1, k2, k3⟩ := app_rows L2.length L2.length hown (Nat.le_trans h.size q5.size) hsrc rfl (by omega)
  have ho2 : ∀ k, k < w4.heap.size → ¬ gv.ownBlock = some k := fun k hk e => by have := (own_block hown k e).1; omega
  have hon : Only (fun k => gv.ownBlock = some k) w' w2 := k3
  refine ⟨L2.length, A2, rfl, A3, c3, A', c', w2, hv', L2, hgv, k1, by simp, q1, ?_, q5, hon⟩
  have q2s := q2.swap
  have hap : ∀ (q : Nat) (cs : Array Value) (t : TypeId), Row w' q t cs → t ≠ 30 → ¬ gv.ownBlock = some q := fun q cs t hr ht e => own_apart hown hr (fun e => ht e.symm) e
  have hap2 : ∀ (v : Value) (l : List Nat), OwnY W.heap.size w' v l → ∀ k, v.ownBlock = some k → ¬ gv.ownBlock = some k := fun v l ho k hk e => own_rows_apart hown ho (by decide) k e hk
  refine ⟨⟨q2s.g1.only hon (hap _ _ _ q2s.g1.1 (by decide)) (hap2 _ _ q2s.g1.2), q2s.g2.only hon (hap _ _ _ q2s.g2.1 (by decide)) (hap2 _ _ q2s.g2.2), q2s.ap, q2s.o1, q2s.o2, q2s.bl.trans (hon.below q2s.bl.size fun k hk => ho2 k (by have := h.hW; omega))⟩, ho.andThen hon (fun k hk e => absurd e (ho2 k hk)), hn, ?_, ?_, h.hW⟩
  · rw [show (G ++ L2).length = G.length + L2.length by simp]
    exact k2
  · intro r hr
    have hr2 : TOk W.heap.size w' hv' r := by
      rw [List.mem_append] at hr
      rcases hr with hr | hr
      · exact hG2 r hr
      · exact q3.2 r hr
    exact hr2.step hon (fun g cs h6 _ e => own_apart hown h6 (by decide) e) (GNext.refl _ _)
end
end Go.Proofs.Ytfgjlhklioijmaa
