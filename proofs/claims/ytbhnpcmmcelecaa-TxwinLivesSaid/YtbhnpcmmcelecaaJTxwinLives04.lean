/-
  txwin: the document's window: open, far, all, next, acknowledged. txwin: what a window answers to fixed calls. txwin: a window that is nil, or that no call made; equal lists. txwin: the window and the document's one together. A law's row follows from its walk: the call returns true, and below the heap's old size the world is as it was; then every argument reads as it did.
-/
import Derived.Test.YtbhnpcmmcelecaaJTxwinLives03
import Derived.BigQuiet
import Derived.Test.YtbhnpcmmcelecaaRows
import Derived.WalkKit
import Derived.ProofKit
import Derived.OpenShut
namespace Go.Proofs.Ytbhnpcmmcelecaa
open Go.RowKit Go.Maps

theorem own_set {w : World} {m E n i : Nat} {g : Nat} {c : Nat} {xs : List Value} (h : w.ownsRow m E 1 (.slice (some ⟨g, 0, none⟩) n c) n xs) (u : Value) : (w.setCell ⟨g, i, none⟩ u).ownsRow m E 1 (.slice (some ⟨g, 0, none⟩) n c) n (xs.set i u) := by
  refine ⟨by rw [List.length_set]; exact h.1, ?_⟩
  rcases h.2 with ⟨e, _⟩ | ⟨g', cap, cur, e, h2, h3, h4, h5, h6, h7⟩
  · cases e
  · injection e with e1 _ e3
    injection e1 with e1
    injection e1 with e1
    subst e1 e3
    refine .inr ⟨g, c, cur.setIfInBounds i u, rfl, h2, Row.written (t := E) (cs := cur) h3 i u, h4, h5, by simp [h6], ?_⟩
    rw [Array.toList_setIfInBounds, List.take_set, h7]
theorem blv_set (l : List Bool) (i : Nat) : (blv l).set i (.bool true) = blv (l.set i true) := by unfold blv; rw [List.map_set]
theorem blv_app (l k : List Bool) : blv (l ++ k) = blv l ++ blv k := by unfold blv; simp
def RS (y B : Nat) (w : World) (k : Nat) : Prop := k = y ∨ (B ≤ k ∧ ∃ cs, Row w k 4 cs)
theorem rs_back {y B : Nat} {w v : World} (hb : Below w.heap.size w v) {k : Nat} (hk : k < w.heap.size) (h : RS y B v k) : RS y B w k := by
  rcases h with h | ⟨h1, cs, h2⟩
  · exact .inl h
  · refine .inr ⟨h1, cs, ?_⟩
    unfold Row at h2 ⊢
    rw [← hb.block k hk]
    exact h2
/-- the first that is open, counted -/
def nrmN : Nat → List Bool → Nat × List Bool
  | a, true :: r => nrmN (a + 1) r
  | a, l => (a, l)
theorem nrmN_all : ∀ (l : List Bool) (a : Nat), List.replicate (nrmN a l).1 true ++ (nrmN a l).2 = List.replicate a true ++ l
  | [], _ => rfl
  | true :: r, a => by
    show List.replicate (nrmN (a + 1) r).1 true ++ (nrmN (a + 1) r).2 = _
    rw [nrmN_all r (a + 1), List.replicate_succ']
    simp
  | false :: _, _ => rfl
theorem nrmN_head : ∀ (l : List Bool) (a : Nat), (nrmN a l).2.head? ≠ some true
  | [], _ => by simp [nrmN]
  | true :: r, a => nrmN_head r _
  | false :: _, _ => by simp [nrmN]
theorem nrmN_len : ∀ (l : List Bool) (a : Nat), (nrmN a l).1 + (nrmN a l).2.length = a + l.length ∧ (nrmN a l).2.length ≤ l.length
  | [], _ => by simp [nrmN]
  | true :: r, a => by
    have := nrmN_len r (a + 1)
    show (nrmN (a + 1) r).1 + (nrmN (a + 1) r).2.length = _ ∧ (nrmN (a + 1) r).2.length ≤ _
    simp only [List.length_cons]
    omega
  | false :: _, _ => by simp [nrmN]
theorem nrmN_nrm (N : Int) : ∀ (l : List Bool) (a : Nat), nrm N ((a : Int) % N) l = (((nrmN a l).1 : Int) % N, (nrmN a l).2)
  | [], _ => rfl
  | true :: r, a => by
    show nrm N (((a : Int) % N + 1) % N) r = _
    rw [Int.emod_add_emod, show (a : Int) + 1 = ((a + 1 : Nat) : Int) by omega, nrmN_nrm N r (a + 1)]
    rfl
  | false :: _, _ => rfl
section
variable {w v : World} {y B : Nat} {b size n : Int} {a : Nat} {l : List Bool}
theorem rfd_open : decide ((0 : Int) ≤ rfd b n a l) = (okn b n && opb (sz b) ((a : Int) % sz b) l n) := by
  unfold rfd
  cases okn b n && opb (sz b) ((a : Int) % sz b) l n
  · rfl
  · simp
    omega
theorem ropen_any (h : RefR w y B b size a l) (n : Int) : Calls Try.prog 99 #[.pointer (some ⟨y, 0, none⟩), .int .i64 n] w fun e w' => e = .returned (.bool (okn b n && opb (sz b) ((a : Int) % sz b) l n)) ∧ w = w' := by
  have HF := Lib.hid (rfind_any h n)
  have HO := Lib.hid (rfd_open (b := b) (n := n) (a := a) (l := l))
  clear h
  go_enter Try.func99, Try.ntmps99
  go_wp2_with (go_at_call 164; (with_reducible refine HF.out.mono ?_); rintro e w1 ⟨rfl, rfl⟩)
  go_ret
  exact ⟨ret_bool HO.out, rfl⟩
set_option maxRecDepth 100000 in
set_option maxHeartbeats 1600000 in
theorem rfar_any2 (h : RefR w y B b size a l) (n : Int) : Calls Try.prog 101 #[.pointer (some ⟨y, 0, none⟩), .int .i64 n] w fun e w' => e = .returned (.int .i64 (farw b ((a : Int) % sz b) n)) ∧ Below w.heap.size w w' := by
  have HE := Lib.hid (rends_any h)
  obtain ⟨A, c, hr, ho⟩ := h.row
  have HR := Lib.hid hr
  have hfo := okn_mod h.rt (a : Int)
  have HFA := Lib.hid (fun W => q2far_any b ((a : Int) % sz b) n W)
  cases hn : okn b n
  · have e1 : farw b ((a : Int) % sz b) n = -1 := by unfold farw; rw [hn]; rfl
    have e2 : flt b [(a : Int) % sz b, n] = 1 := by unfold flt; rw [all2, hfo, hn, h.rt]; rfl
    rw [e2] at HFA
    rw [e1]
    clear h ho hr hn e1 e2
    go_enter Try.func101, Try.ntmps101
    go_wp2_with (first
      | (go_at_call 92; (with_reducible refine HE.out.mono ?_); rintro e w1 ⟨rfl, hb⟩; (have HB1 := Lib.hid hb; obtain ⟨c0, c1, c2⟩ := rwcells (HR.out.later hb); clear hb))
      | (go_at_call 168; (with_reducible refine (HFA.out _).mono ?_); rintro e w2 ⟨rfl, rfl⟩))
    go_ret
    exact ⟨rfl, HB1.out⟩
  · obtain ⟨e2, e3⟩ := far_val h.rt hfo hn
    have e1 : farw b ((a : Int) % sz b) n = (n - (a : Int) % sz b) % sz b := by unfold farw; rw [if_pos hn]
    rw [e2, e3, ← e1] at HFA
    generalize farw b ((a : Int) % sz b) n = d at *
    clear h ho hr hn e1 e2 e3
    go_enter Try.func101, Try.ntmps101
    go_wp2_with (first
      | (go_at_call 92; (with_reducible refine HE.out.mono ?_); rintro e w1 ⟨rfl, hb⟩; (have HB1 := Lib.hid hb; obtain ⟨c0, c1, c2⟩ := rwcells (HR.out.later hb); clear hb))
      | (go_at_call 168; (with_reducible refine (HFA.out _).mono ?_); rintro e w2 ⟨rfl, rfl⟩))
    go_ret
    exact ⟨rfl, HB1.out⟩
set_option maxRecDepth 100000 in
set_option maxHeartbeats 1600000 in
theorem rnext_full (h : RefR w y B b size a l) (hl : (l.length : Int) = size) : Calls Try.prog 87 #[.pointer (some ⟨y, 0, none⟩)] w fun e w' => e = .returned (.tuple #[.int .i64 0, .int .i64 11]) ∧ Below w.heap.size w w' := by
  have HS := Lib.hid (by have h1 := rstalled_any h; rw [decide_eq_true hl] at h1; exact h1)
  clear h hl
  go_enter Try.func87, Try.ntmps87
  go_wp2_with (go_at_call 94; (with_reducible refine HS.out.mono ?_); rintro e w1 ⟨rfl, hb⟩; (have HB1 := Lib.hid hb; clear hb))
  go_ret2
  exact ⟨rfl, HB1.out⟩
set_option maxRecDepth 100000 in
set_option maxHeartbeats 3200000 in
theorem rnext_ok (h : RefR w y B b size a l) (hl : (l.length : Int) < size) (hB : B ≤ w.heap.size) (h3 : a + l.length ≤ 2900) : Calls Try.prog 87 #[.pointer (some ⟨y, 0, none⟩)] w fun e w' => e = .returned (.tuple #[.int .i64 (((a : Int) % sz b + l.length) % sz b), .int .i64 0]) ∧ RefR w' y B b size a (l ++ [false]) ∧ Only (RS y B w) w w' := by
  have HS := Lib.hid (by have h1 := rstalled_any h; rw [decide_eq_false (show ¬ (l.length : Int) = size by omega)] at h1; exact h1)
  obtain ⟨A, c, hr, ho⟩ := h.row
  have HR := Lib.hid hr
  have HO := Lib.hid ho
  have HE := Lib.hid (emod_nat a (sz b) l.length)
  have HN := Lib.hid (fun W (A' : Option Addr) (c' : Nat) (hrow : Row W y 154 #[.int .i64 b, .int .i64 size, .slice A' (a + l.length + 1) c']) => rnumber_any (a + l.length) hrow h.rt)
  have HFIN := Lib.hid (fun W (A' : Option Addr) (c' : Nat) (hrow : Row W y 154 #[.int .i64 b, .int .i64 size, .slice A' (a + l.length + 1) c']) (hown : W.ownsRow B 4 1 (.slice A' (a + l.length + 1) c') (a + l.length + 1) (blv (List.replicate a true ++ l) ++ [.bool false])) => (⟨⟨A', c', by
      have e : a + (l ++ [false]).length = a + l.length + 1 := by simp; omega
      rw [e, ← List.append_assoc, blv_app]
      exact ⟨hrow, hown⟩⟩, h.rt, h.hs, h.hs2, by simp; omega, by
      have := h.hh
      match l with
      | [] => simp
      | true :: _ => exact absurd rfl this
      | false :: _ => simp, by simp; omega⟩ : RefR W y B b size a (l ++ [false])))
  have HBH := Lib.hid hB
  rw [HE.out]
  generalize hL : a + l.length = L at *
  have hL3 : L ≤ 2900 := h3
  clear h ho hr hl hL
  go_enter Try.func87, Try.ntmps87
  go_wp2_with (first
    | (go_at_call 94; (with_reducible refine HS.out.mono ?_); rintro e w1 ⟨rfl, hb⟩; (have HB1 := Lib.hid hb; have HR1 := Lib.hid (HR.out.later hb); obtain ⟨c0, c1, c2⟩ := rwcells HR1.out; obtain ⟨A', c', w2, hrun, hown, hon⟩ := own_next (T := 29) (E := 4) (u := .bool false) (by kernel_rfl) (show (Try.prog.info? 4).map (fun i => (i.zero, i.size, i.bytes)) = some (some (.bool false), 1, 1) by kernel_rfl) rfl (by omega) rfl (own_after HO.out hb) (Nat.le_trans HBH.out hb.size) (by omega); have HRUN := Lib.hid hrun; have HOWN := Lib.hid hown; have HON := Lib.hid hon; have HR2 := Lib.hid (HR1.out.only hon (fun e => Row.own_ne HR1.out (own_after HO.out hb) (by decide) _ e rfl)); have f2 := HR2.out.free 2; have g2 := HR2.out.read (i := 2) (x := .slice A L c) rfl; have HR3 := Lib.hid (HR2.out.written 2 (.slice A' (L + 1) c')); obtain ⟨d0, d1, d2⟩ := rwcells (b := b) (size := size) (A := A') (k := L + 1) (c := c') HR3.out; clear hb hrun hown hon))
    | (at_builtin; refine wpList_is rfl (.tmp 10) (.tmp 11) 29 rfl _ _ (by rfl) (by rfl) HRUN.out ?_)
    | (go_at_call 160; (with_reducible refine (HN.out _ A' c' HR3.out).mono ?_); rintro e w3 ⟨rfl, rfl⟩)
    | go_in)
  go_ret2
  have hset : Only (fun k => k = y) w2 (w2.setCell ⟨y, 2, none⟩ (.slice A' (L + 1) c')) := (Only.refl (fun k => k = y) w2).set (p := ⟨y, 2, none⟩) (.inl rfl) _
  refine ⟨rfl, HFIN.out _ A' c' HR3.out (own_only HOWN.out hset (fun k hk e => Row.own_ne HR2.out HOWN.out (by decide) k hk e)), ?_⟩
  have ho1 := own_after HO.out HB1.out
  refine ((Only.of_below (S := RS y B w) HB1.out).andThen (HON.out.weaker (T := RS y B w1) (fun k hk hs => .inr ⟨(own_block ho1 k hs).1, ?_⟩)) (fun k hk hs => rs_back HB1.out hk hs)).set (.inl (.inl rfl)) _
  rcases ho1.2 with ⟨e, _⟩ | ⟨g, cap, cur, e, _, hh, _⟩
  · rw [e] at hs; simp [Value.ownBlock] at hs
  · rw [e] at hs
    have e1 : g = k := by simpa [Value.ownBlock] using hs
    subst e1
    exact ⟨_, hh⟩
set_option maxRecDepth 100000 in
set_option maxHeartbeats 1600000 in
theorem rack_bad (h : RefR w y B b size a l) (hn : okn b n = false) : Calls Try.prog 89 #[.pointer (some ⟨y, 0, none⟩), .int .i64 n] w fun e w' => e = .returned (.int .i64 1) ∧ w = w' := by
  obtain ⟨A, c, hr, ho⟩ := h.row
  have HI := Lib.hid (fun W => by have h1 := q2is_any b n W; rw [hn] at h1; exact h1)
  obtain ⟨c0, c1, c2⟩ := rwcells hr
  clear h hr ho hn
  go_enter Try.func89, Try.ntmps89
  go_wp2_with (go_at_call 163; (with_reducible refine (HI.out _).mono ?_); rintro e w1 ⟨rfl, rfl⟩)
  go_ret
  exact ⟨rfl, rfl⟩
set_option maxRecDepth 100000 in
set_option maxHeartbeats 1600000 in
theorem rack_old (h : RefR w y B b size a l) (hn : okn b n = true) (hp : opb (sz b) ((a : Int) % sz b) l n = false) : Calls Try.prog 89 #[.pointer (some ⟨y, 0, none⟩), .int .i64 n] w fun e w' => e = .returned (.int .i64 10) ∧ w = w' := by
  have HF := Lib.hid (rfind_any h n)
  obtain ⟨A, c, hr, ho⟩ := h.row
  have HI := Lib.hid (fun W => by have h1 := q2is_any b n W; rw [hn] at h1; exact h1)
  have e : rfd b n a l = -1 := by unfold rfd; rw [hn, hp]; rfl
  rw [e] at HF
  obtain ⟨c0, c1, c2⟩ := rwcells hr
  clear h hr ho hn hp e
  go_enter Try.func89, Try.ntmps89
  go_wp2_with (first
    | (go_at_call 163; (with_reducible refine (HI.out _).mono ?_); rintro e w1 ⟨rfl, rfl⟩)
    | (go_at_call 164; (with_reducible refine HF.out.mono ?_); rintro e w1 ⟨rfl, rfl⟩))
  go_ret
  exact ⟨rfl, rfl⟩
theorem done_set {j : Nat} : (List.replicate a true ++ l).set (a + j) true = List.replicate a true ++ l.set j true := by
  rw [List.set_append_right _ _ (by simp)]
  simp
set_option maxRecDepth 100000 in
set_option maxHeartbeats 3200000 in
theorem rack_ok (h : RefR w y B b size a l) (hn : okn b n = true) (hp : opb (sz b) ((a : Int) % sz b) l n = true) : Calls Try.prog 89 #[.pointer (some ⟨y, 0, none⟩), .int .i64 n] w fun e w' => e = .returned (.int .i64 0) ∧ RefR w' y B b size (nrmN a (l.set (ix (sz b) ((a : Int) % sz b) n) true)).1 (nrmN a (l.set (ix (sz b) ((a : Int) % sz b) n) true)).2 ∧ Only (RS y B w) w w' := by
  have HF := Lib.hid (rfind_any h n)
  have hbd := h.hb
  have hll := h.hl
  obtain ⟨A, c, hr, ho⟩ := h.row
  have HI := Lib.hid (fun W => by have h1 := q2is_any b n W; rw [hn] at h1; exact h1)
  obtain ⟨m1, m2⟩ := opb_not hp
  have e : rfd b n a l = ((a + ix (sz b) ((a : Int) % sz b) n : Nat) : Int) := by unfold rfd; rw [hn, hp]; rfl
  rw [e] at HF
  generalize ix (sz b) ((a : Int) % sz b) n = j at *
  have hln := nrmN_len (l.set j true) a
  rw [List.length_set] at hln
  have hal := nrmN_all (l.set j true) a
  have HFIN := Lib.hid (fun W (hrow : Row W y 154 #[.int .i64 b, .int .i64 size, .slice A (a + l.length) c]) (hown : W.ownsRow B 4 1 (.slice A (a + l.length) c) (a + l.length) (blv (List.replicate a true ++ l.set j true))) => (⟨⟨A, c, by rw [hln.1, hal]; exact ⟨hrow, hown⟩⟩, h.rt, h.hs, h.hs2, by omega, nrmN_head _ _, by omega⟩ : RefR W y B b size (nrmN a (l.set j true)).1 (nrmN a (l.set j true)).2))
  have HA := Lib.hid (own_at ho)
  have HR := Lib.hid hr
  have HO := Lib.hid ho
  obtain ⟨c0, c1, c2⟩ := rwcells hr
  obtain ⟨g, rfl, z⟩ := (own_at ho).cell (blv_at ((done_ge (a := a) (l := l) (j := j)).trans m2))
  have HG := Lib.hid (show ∃ cs, Row w g 4 cs ∧ B ≤ g from by
    rcases ho.2 with ⟨e, _⟩ | ⟨g', cap, cur, e, h2, hh, _⟩
    · cases e
    · injection e with e1 _ _
      injection e1 with e1
      injection e1 with e1
      subst e1
      exact ⟨_, hh, h2⟩)
  have fz : w.frozen? ⟨g, a + j, none⟩ = false := by
    obtain ⟨cs, h5, _⟩ := HG.out
    exact h5.free _
  have HDS := Lib.hid (done_set (a := a) (l := l) (j := j))
  generalize hL : a + l.length = L at *
  generalize hq : a + j = q at *
  have hqi : (q : Int) < L := by omega
  have hq0 : (0 : Int) ≤ q := by omega
  clear h hr ho hn hp e hln hal m1 m2 hL hq
  go_enter Try.func89, Try.ntmps89
  go_wp2_with (first
    | (go_at_call 163; (with_reducible refine (HI.out _).mono ?_); rintro e w1 ⟨rfl, rfl⟩)
    | (go_at_call 164; (with_reducible refine HF.out.mono ?_); rintro e w1 ⟨rfl, rfl⟩))
  go_ret
  obtain ⟨cs, h5, h6⟩ := HG.out
  have hne : y ≠ g := fun e => by
    subst e
    exact Row.apart h5 HR.out (by decide) rfl
  refine ⟨rfl, HFIN.out _ (HR.out.elsewhere hne _) ?_, (Only.refl (RS y B w) w).set (p := ⟨g, q, none⟩) (.inl (.inr ⟨h6, cs, h5⟩)) _⟩
  have := own_set (i := q) HO.out (.bool true)
  rw [blv_set, HDS.out] at this
  exact this
set_option maxRecDepth 100000 in
set_option maxHeartbeats 3200000 in
theorem rall_any (h : RefR w y B b size a l) : Calls Try.prog 97 #[.pointer (some ⟨y, 0, none⟩)] w fun e w' => ∃ A c, e = .returned (.slice A (opens (sz b) ((a : Int) % sz b) l).length c) ∧ SlAt w.heap.size 3 w' A (ints (opens (sz b) ((a : Int) % sz b) l)) ∧ Below w.heap.size w w' := by
  have HF := Lib.hid (rfirst_any h)
  obtain ⟨A, c, hr, ho⟩ := h.row
  have HN := Lib.hid (fun W (i : Nat) (hb : Below w.heap.size w W) => rnumber_any i (hr.later hb) h.rt)
  have HR := Lib.hid hr
  have HA := Lib.hid (own_at ho)
  have HE := Lib.hid (emod_nat a (sz b))
  have hbd := h.hb
  have HOP := Lib.hid (opk_all (sz b) ((a : Int) % sz b) l)
  have HOS := Lib.hid (opk_succ (sz b) ((a : Int) % sz b) l)
  have HOL := Lib.hid (opk_le (sz b) ((a : Int) % sz b) l)
  have HZ0 : ∀ wr : World, wr.ownsRow w.heap.size 3 1 (.slice none 0 0) (opk (sz b) ((a : Int) % sz b) l 0).length (ints (opk (sz b) ((a : Int) % sz b) l 0)) := fun wr => World.ownsRow_nil _ _ _ _
  have HZ0 := Lib.hid HZ0
  generalize opens (sz b) ((a : Int) % sz b) l = OP at *
  generalize opk (sz b) ((a : Int) % sz b) l = op at *
  generalize hll : l.length = ll at *
  generalize hL : a + ll = L at *
  have HLL := Lib.hid hL
  have HLC := Lib.hid hll
  have hl3 : L ≤ 3000 := hbd
  clear h ho hr hL hll
  obtain ⟨c0, c1, c2⟩ := rwcells HR.out
  go_enter Try.func97, Try.ntmps97
  go_wp2_with (go_at_call 165; (with_reducible refine HF.out.mono ?_); rintro e w1 ⟨rfl, rfl⟩)
  clear c0 c1 c2
  go_loopw [3, 4] (fun s3 s4 wr => ∃ j q : Nat, j ≤ ll ∧ Hid (a + j = q) ∧ q ≤ L ∧ s4 = .int .i64 (q : Int) ∧ Hid (wr.ownsRow w.heap.size 3 1 s3 (op j).length (ints (op j))) ∧ Hid (Below w.heap.size w wr)) (fun _ s4 _ => L - (intOf s4).toNat)
  case atStart => exact ⟨0, a, by omega, Lib.hid rfl, by have := HLL.out; omega, rfl, Lib.hid (HZ0.out _), Lib.hid (Below.refl _ _)⟩
  case round =>
    obtain ⟨j, q, hj, HQ, hq, rfl, HOW, HBr⟩ := hrel
    obtain ⟨A3, c3, rfl, hc3, hc3m⟩ := own_shape HOW.out
    have HR1 := Lib.hid (HR.out.later HBr.out)
    obtain ⟨c0, c1, c2⟩ := rwcells HR1.out
    by_cases hlt : j < ll
    · have h1 : (q : Int) < L := by have := HQ.out; have := HLL.out; omega
      have h0 : (0 : Int) ≤ q := by omega
      obtain ⟨cv, hcv⟩ : ∃ cv, l[j]? = some cv := ⟨_, List.getElem?_eq_getElem (by rw [HLC.out]; exact hlt)⟩
      have hcell : ∃ g, A = some ⟨g, 0, none⟩ ∧ wr.cell? ⟨g, q, none⟩ = some (.bool cv) := by
        have := (HA.out.later HBr.out).cell (blv_at ((done_ge (a := a) (l := l) (j := j)).trans hcv))
        rw [HQ.out] at this
        exact this
      obtain ⟨g, rfl, z⟩ := hcell
      have HS := Lib.hid (HOS.out j)
      have HTY := Lib.hid (show ((a : Int) % sz b + (j : Int)) % sz b = (q : Int) % sz b by rw [HE.out j, HQ.out])
      rw [HTY.out, List.getD_eq_getElem?_getD, hcv] at HS
      have HLT := Lib.hid hlt
      clear hcv
      cases cv
      · simp only [Option.getD_some, Bool.false_eq_true, if_false] at HS
        go_wp2_with (first
          | (go_at_call 160; (with_reducible refine (HN.out _ q HBr.out).mono ?_); rintro e w2 ⟨rfl, rfl⟩; (obtain ⟨A', c', w3, hrun, hown, hon⟩ := own_next (T := 58) (E := 3) (u := .int .i64 ((q : Int) % sz b)) (by kernel_rfl) (show (Try.prog.info? 3).map (fun i => (i.zero, i.size, i.bytes)) = some (some (.int .i64 0), 1, 8) by kernel_rfl) rfl (by omega) rfl HOW.out HBr.out.size (by have := HOL.out j; have := HQ.out; omega); have HRUN := Lib.hid hrun; have HOWN := Lib.hid hown; have HON := Lib.hid (hon.below HBr.out.size (fun j hj hk => by have := (own_block HOW.out j hk).1; omega)); clear hrun hown hon))
          | (at_builtin; refine wpList_is rfl (.tmp 24) (.tmp 28) 58 rfl _ _ (by rfl) (by rfl) HRUN.out ?_)
          | go_in)
        go_roundw
        case rel => exact ⟨j + 1, q + 1, by have := HLT.out; omega, Lib.hid (by rw [← HQ.out]; omega), by omega, by go_num, Lib.hid (by rw [HS.out, List.length_append, ints_app]; exact HOWN.out), Lib.hid (HBr.out.trans HON.out)⟩
        case measure => simp [intOf]; omega
      · simp only [Option.getD_some, if_true, List.append_nil] at HS
        go_wp2
        go_roundw
        case rel => exact ⟨j + 1, q + 1, by have := HLT.out; omega, Lib.hid (by rw [← HQ.out]; omega), by omega, by go_num, Lib.hid (by rw [HS.out]; exact HOW.out), HBr⟩
        case measure => simp [intOf]; omega
    · have h1 : ¬ (q : Int) < L := by have := HQ.out; have := HLL.out; omega
      have HJ := Lib.hid (show op j = OP by rw [← HOP.out, show j = ll by omega])
      clear hlt
      go_wp2
      go_ret
      refine ⟨A3, ⟨c3, by rw [← HJ.out]; rfl⟩, ?_, HBr.out⟩
      have := own_at HOW.out
      rw [HJ.out] at this
      exact this
end
end Go.Proofs.Ytbhnpcmmcelecaa
namespace Go.Proofs.Ytbhnpcmmcelecaa
open Go.RowKit Go.Maps

section
variable {w v : World} {x m B : Nat}
theorem XM_old (h : B ≤ x ∧ B ≤ m) : ∀ k, k < B → ¬ XM x m k := by
  rintro k hk (rfl | rfl) <;> omega
theorem al_n0 (h : WinR w x m 3 3 0 []) : Calls Try.prog 86 #[.pointer (some ⟨x, 0, none⟩)] w fun e w' => e = .returned (.tuple #[.int .i64 0, .int .i64 0]) ∧ WinR w' x m 3 3 0 [false] ∧ Only (XM x m) w w' := by
  have h1 := wnext_ok h (by decide)
  rw [show ((0 : Int) + (([] : List Bool).length : Nat)) % sz 3 = 0 by decide +kernel] at h1
  exact h1
theorem al_n1 (h : WinR w x m 3 3 0 [false]) : Calls Try.prog 86 #[.pointer (some ⟨x, 0, none⟩)] w fun e w' => e = .returned (.tuple #[.int .i64 1, .int .i64 0]) ∧ WinR w' x m 3 3 0 [false, false] ∧ Only (XM x m) w w' := by
  have h1 := wnext_ok h (by decide)
  rw [show ((0 : Int) + (([false] : List Bool).length : Nat)) % sz 3 = 1 by decide +kernel] at h1
  exact h1
theorem al_n2 (h : WinR w x m 3 3 0 [false, false]) : Calls Try.prog 86 #[.pointer (some ⟨x, 0, none⟩)] w fun e w' => e = .returned (.tuple #[.int .i64 2, .int .i64 0]) ∧ WinR w' x m 3 3 0 [false, false, false] ∧ Only (XM x m) w w' := by
  have h1 := wnext_ok h (by decide)
  rw [show ((0 : Int) + (([false, false] : List Bool).length : Nat)) % sz 3 = 2 by decide +kernel] at h1
  exact h1
theorem al_a1 (h : WinR w x m 3 3 0 [false, false, false]) : Calls Try.prog 88 #[.pointer (some ⟨x, 0, none⟩), .int .i64 1] w fun e w' => e = .returned (.int .i64 0) ∧ WinR w' x m 3 3 0 [false, true, false] ∧ Only (XM x m) w w' := by
  have h1 := wack_ok h (n := 1) (by decide +kernel) (by decide +kernel)
  rw [show (nrm (sz 3) 0 (([false, false, false] : List Bool).set (ix (sz 3) 0 1) true)) = (0, [false, true, false]) by decide +kernel] at h1
  exact h1
theorem al_a0 (h : WinR w x m 3 3 0 [false, true, false]) : Calls Try.prog 88 #[.pointer (some ⟨x, 0, none⟩), .int .i64 0] w fun e w' => e = .returned (.int .i64 0) ∧ WinR w' x m 3 3 2 [false] ∧ Only (XM x m) w w' := by
  have h1 := wack_ok h (n := 0) (by decide +kernel) (by decide +kernel)
  rw [show (nrm (sz 3) 0 (([false, true, false] : List Bool).set (ix (sz 3) 0 0) true)) = (2, [false]) by decide +kernel] at h1
  exact h1
theorem al_full (h : WinR w x m 3 3 0 [false, false, false]) : Calls Try.prog 86 #[.pointer (some ⟨x, 0, none⟩)] w fun e w' => e = .returned (.tuple #[.int .i64 0, .int .i64 11]) ∧ Below w.heap.size w w' := wnext_full h (by decide)
theorem al_ends (h : WinR w x m 3 3 2 [false]) : Calls Try.prog 91 #[.pointer (some ⟨x, 0, none⟩)] w fun e w' => e = .returned (.tuple #[.int .i64 2, .int .i64 3]) ∧ Below w.heap.size w w' := by
  have h1 := wends_any h
  rw [show ((2 : Int) + (([false] : List Bool).length : Nat)) % sz 3 = 3 by decide +kernel] at h1
  exact h1
theorem al_old (h : WinR w x m 3 3 2 [false]) : Calls Try.prog 88 #[.pointer (some ⟨x, 0, none⟩), .int .i64 1] w fun e w' => e = .returned (.int .i64 10) ∧ Below w.heap.size w w' := wack_old h (by decide +kernel) (by decide +kernel)
theorem al_o2 (h : WinR w x m 3 3 2 [false]) : Calls Try.prog 98 #[.pointer (some ⟨x, 0, none⟩), .int .i64 2] w fun e w' => e = .returned (.bool true) ∧ Below w.heap.size w w' := by
  have h1 := wopen_any h 2
  rw [show (okn 3 2 && opb (sz 3) 2 [false] 2) = true by decide +kernel] at h1
  exact h1
theorem al_o1 (h : WinR w x m 3 3 2 [false]) : Calls Try.prog 98 #[.pointer (some ⟨x, 0, none⟩), .int .i64 1] w fun e w' => e = .returned (.bool false) ∧ Below w.heap.size w w' := by
  have h1 := wopen_any h 1
  rw [show (okn 3 1 && opb (sz 3) 2 [false] 1) = false by decide +kernel] at h1
  exact h1
theorem al_new (w : World) : Calls Try.prog 83 #[.int .i64 3, .int .i64 3] w fun e w' => ∃ x m : Nat, e = .returned (.tuple #[.pointer (some ⟨x, 0, none⟩), .int .i64 0]) ∧ WinR w' x m 3 3 0 [] ∧ Below w.heap.size w w' ∧ w.heap.size ≤ x ∧ w.heap.size ≤ m := wnew_ok 3 3 w (by decide) (by decide) (by decide +kernel)
theorem al_new2 (w : World) : Calls Try.prog 83 #[.int .i64 3, .int .i64 5] w fun e w' => e = .returned (.tuple #[.pointer none, .int .i64 1]) ∧ Below w.heap.size w w' := wnew_bad 3 5 w (.inr (by decide +kernel))
set_option maxRecDepth 100000 in
set_option maxHeartbeats 3200000 in
theorem walive_any (w : World) : Calls Try.prog 85 #[] w fun e w' => e = .returned (.bool true) ∧ Below w.heap.size w w' := by
  have HN := Lib.hid al_new
  have HN2 := Lib.hid al_new2
  go_enter Try.func85, Try.ntmps85
  go_wp2_with (first
    | (go_at_call 83; (with_reducible refine (HN.out _).mono ?_); rintro e w1 ⟨x, m, rfl, hw1, hb1, hx1, hm1⟩; (have HW1 := Lib.hid hw1; have HB1 := Lib.hid hb1; have HX := Lib.hid (And.intro hx1 hm1); clear hw1 hb1 hx1 hm1))
    | (go_at_call 86; (with_reducible refine (al_n0 HW1.out).mono ?_); rintro e w2 ⟨rfl, hw, ho⟩; (have HW2 := Lib.hid hw; have HB2 := Lib.hid (HB1.out.trans (ho.below HB1.out.size (XM_old HX.out))); clear hw ho))
    | (go_at_call 86; (with_reducible refine (al_n1 HW2.out).mono ?_); rintro e w3 ⟨rfl, hw, ho⟩; (have HW3 := Lib.hid hw; have HB3 := Lib.hid (HB2.out.trans (ho.below HB2.out.size (XM_old HX.out))); clear hw ho))
    | (go_at_call 86; (with_reducible refine (al_n2 HW3.out).mono ?_); rintro e w4 ⟨rfl, hw, ho⟩; (have HW4 := Lib.hid hw; have HB4 := Lib.hid (HB3.out.trans (ho.below HB3.out.size (XM_old HX.out))); clear hw ho))
    | (go_at_call 86; (with_reducible refine (al_full HW4.out).mono ?_); rintro e w5 ⟨rfl, hb⟩; (have HW5 := Lib.hid (HW4.out.later hb); have HB5 := Lib.hid (bl_step HB4.out hb); clear hb))
    | (go_at_call 88; (with_reducible refine (al_a1 HW5.out).mono ?_); rintro e w6 ⟨rfl, hw, ho⟩; (have HW6 := Lib.hid hw; have HB6 := Lib.hid (HB5.out.trans (ho.below HB5.out.size (XM_old HX.out))); clear hw ho))
    | (go_at_call 88; (with_reducible refine (al_a0 HW6.out).mono ?_); rintro e w7 ⟨rfl, hw, ho⟩; (have HW7 := Lib.hid hw; have HB7 := Lib.hid (HB6.out.trans (ho.below HB6.out.size (XM_old HX.out))); clear hw ho))
    | (go_at_call 91; (with_reducible refine (al_ends HW7.out).mono ?_); rintro e w8 ⟨rfl, hb⟩; (have HW8 := Lib.hid (HW7.out.later hb); have HB8 := Lib.hid (bl_step HB7.out hb); clear hb))
    | (go_at_call 83; (with_reducible refine (HN2.out _).mono ?_); rintro e w9 ⟨rfl, hb⟩; (have HW9 := Lib.hid (HW8.out.later hb); have HB9 := Lib.hid (bl_step HB8.out hb); clear hb))
    | (go_at_call 88; (with_reducible refine (al_old HW9.out).mono ?_); rintro e w10 ⟨rfl, hb⟩; (have HW10 := Lib.hid (HW9.out.later hb); have HB10 := Lib.hid (bl_step HB9.out hb); clear hb))
    | (go_at_call 98; (with_reducible refine (al_o2 HW10.out).mono ?_); rintro e w11 ⟨rfl, hb⟩; (have HW11 := Lib.hid (HW10.out.later hb); have HB11 := Lib.hid (bl_step HB10.out hb); clear hb))
    | (go_at_call 98; (with_reducible refine (al_o1 HW11.out).mono ?_); rintro e w12 ⟨rfl, hb⟩; (have HW12 := Lib.hid (HW11.out.later hb); have HB12 := Lib.hid (bl_step HB11.out hb); clear hb)))
  go_ret
  exact ⟨rfl, HB12.out⟩
end
end Go.Proofs.Ytbhnpcmmcelecaa
namespace Go.Proofs.Ytbhnpcmmcelecaa
open Go.RowKit Go.Maps

section
variable {w : World} {x : Nat}
set_option maxRecDepth 100000 in
theorem wn_reset (w : World) : Calls Try.prog 90 #[.pointer none] w fun e w' => e = .returned (.tuple #[]) ∧ Below w.heap.size w w' := by
  go_enter Try.func90, Try.ntmps90
  go_wp2_with (go_at_call 158; (with_reducible refine (wmade_nil _).mono ?_); rintro e w1 ⟨rfl, hb1⟩)
  go_end0
  exact ⟨rfl, hb1⟩
theorem wn_next (w : World) : Calls Try.prog 86 #[.pointer none] w fun e w' => e = .returned (.tuple #[.int .i64 0, .int .i64 6]) ∧ Below w.heap.size w w' := by
  go_enter Try.func86, Try.ntmps86
  go_wp2_with (go_at_call 158; (with_reducible refine (wmade_nil _).mono ?_); rintro e w1 ⟨rfl, hb1⟩)
  go_ret2
  exact ⟨rfl, hb1⟩
theorem wn_ack (n : Int) (w : World) : Calls Try.prog 88 #[.pointer none, .int .i64 n] w fun e w' => e = .returned (.int .i64 6) ∧ Below w.heap.size w w' := by
  go_enter Try.func88, Try.ntmps88
  go_wp2_with (go_at_call 158; (with_reducible refine (wmade_nil _).mono ?_); rintro e w1 ⟨rfl, hb1⟩)
  go_ret
  exact ⟨rfl, hb1⟩
theorem wn_open (n : Int) (w : World) : Calls Try.prog 98 #[.pointer none, .int .i64 n] w fun e w' => e = .returned (.bool false) ∧ Below w.heap.size w w' := by
  go_enter Try.func98, Try.ntmps98
  go_wp2_with (go_at_call 158; (with_reducible refine (wmade_nil _).mono ?_); rintro e w1 ⟨rfl, hb1⟩)
  go_ret
  exact ⟨rfl, hb1⟩
theorem wn_far (n : Int) (w : World) : Calls Try.prog 100 #[.pointer none, .int .i64 n] w fun e w' => e = .returned (.int .i64 0) ∧ Below w.heap.size w w' := by
  go_enter Try.func100, Try.ntmps100
  go_wp2_with (go_at_call 158; (with_reducible refine (wmade_nil _).mono ?_); rintro e w1 ⟨rfl, hb1⟩)
  go_ret
  exact ⟨rfl, hb1⟩
theorem wn_ends (w : World) : Calls Try.prog 91 #[.pointer none] w fun e w' => e = .returned (.tuple #[.int .i64 0, .int .i64 0]) ∧ Below w.heap.size w w' := by
  go_enter Try.func91, Try.ntmps91
  go_wp2_with (go_at_call 158; (with_reducible refine (wmade_nil _).mono ?_); rintro e w1 ⟨rfl, hb1⟩)
  go_ret2
  exact ⟨rfl, hb1⟩
set_option maxRecDepth 100000 in
theorem wn_all (w : World) : Calls Try.prog 96 #[.pointer none] w fun e w' => e = .returned (.slice none 0 0) ∧ Below w.heap.size w w' := by
  have HE := Lib.hid wn_ends
  have HC := Lib.hid (fun W => clipi_any (A := none) 0 0 W (Nat.le_refl _))
  go_enter Try.func96, Try.ntmps96
  go_wp2_with (go_at_call 91; (with_reducible refine (HE.out _).mono ?_); rintro e w1 ⟨rfl, hb1⟩)
  refine wp_loop_rounds 1 ?_
  rw [rounds_succ]
  go_wp2_with (go_at_call 166; (with_reducible refine (HC.out _).mono ?_); rintro e w2 ⟨rfl, rfl⟩)
  go_ret
  exact ⟨rfl, hb1⟩
def ZW : Array Value := #[.int .i64 0, .int .i64 0, .int .i64 0, .int .i64 0, .map none]
theorem wz_next (hr : Row w x 169 ZW) : Calls Try.prog 86 #[.pointer (some ⟨x, 0, none⟩)] w fun e w' => e = .returned (.tuple #[.int .i64 0, .int .i64 6]) ∧ Below w.heap.size w w' := by
  have HM := Lib.hid (wmade_zero hr)
  clear hr
  go_enter Try.func86, Try.ntmps86
  go_wp2_with (go_at_call 158; (with_reducible refine HM.out.mono ?_); rintro e w1 ⟨rfl, hb1⟩)
  go_ret2
  exact ⟨rfl, hb1⟩
theorem wz_ends (hr : Row w x 169 ZW) : Calls Try.prog 91 #[.pointer (some ⟨x, 0, none⟩)] w fun e w' => e = .returned (.tuple #[.int .i64 0, .int .i64 0]) ∧ Below w.heap.size w w' := by
  have HM := Lib.hid (wmade_zero hr)
  clear hr
  go_enter Try.func91, Try.ntmps91
  go_wp2_with (go_at_call 158; (with_reducible refine HM.out.mono ?_); rintro e w1 ⟨rfl, hb1⟩)
  go_ret2
  exact ⟨rfl, hb1⟩
theorem wz_ack (hr : Row w x 169 ZW) (n : Int) : Calls Try.prog 88 #[.pointer (some ⟨x, 0, none⟩), .int .i64 n] w fun e w' => e = .returned (.int .i64 6) ∧ Below w.heap.size w w' := by
  have HM := Lib.hid (wmade_zero hr)
  clear hr
  go_enter Try.func88, Try.ntmps88
  go_wp2_with (go_at_call 158; (with_reducible refine HM.out.mono ?_); rintro e w1 ⟨rfl, hb1⟩)
  go_ret
  exact ⟨rfl, hb1⟩
set_option maxRecDepth 100000 in
theorem wmade_zeroq (hr : Row w x 169 ZW) : Calls Try.prog 158 #[.pointer (some ⟨x, 0, none⟩)] w fun e w' => e = .returned (.bool false) ∧ w = w' := by
  have c4 := hr.read (i := 4) (x := .map none) rfl
  clear hr
  go_enter Try.func158, Try.ntmps158
  go_wp2_with (simp only [map_ne_nil, Result.andThen_ok])
  go_ret
  exact ⟨rfl, rfl⟩
set_option maxRecDepth 100000 in
theorem wz_stalled (hr : Row w x 169 ZW) : Calls Try.prog 93 #[.pointer (some ⟨x, 0, none⟩)] w fun e w' => e = .returned (.bool false) ∧ Below w.heap.size w w' := by
  have HM := Lib.hid (fun W (h : Row W x 169 ZW) => wmade_zeroq h)
  have HR := Lib.hid hr
  clear hr
  go_enter Try.func93, Try.ntmps93
  go_wp2
  go_quiet ((go_at_call 158; exact Calls.quiet_of_same ((HM.out _ (HR.out.later (below_drewN (Below.refl _ _) _))).mono fun e w' h => ⟨h.1, h.2.symm⟩)))
  go_wp2
  go_ret
  exact ⟨rfl, below_drewN (Below.refl _ _) _⟩
set_option maxRecDepth 100000 in
set_option maxHeartbeats 1600000 in
theorem wsame_any {A1 A2 : Option Addr} {B1 B2 n : Nat} (c1 c2 : Nat) (xs : List Int) (w : World) (hn : xs.length = n) (hb : n ≤ 100000) (h1 : SlAt B1 3 w A1 (ints xs)) (h2 : SlAt B2 3 w A2 (ints xs)) :
    Calls Try.prog 95 #[.slice A1 n c1, .slice A2 n c2] w fun e w' => e = .returned (.bool true) ∧ Below w.heap.size w w' := by
  have H1 := Lib.hid h1
  have H2 := Lib.hid h2
  have HN := Lib.hid hn
  clear h1 h2 hn
  go_enter Try.func95, Try.ntmps95
  go_wp2
  go_loopw [5] (fun s5 wr => ∃ i : Nat, i ≤ n ∧ s5 = .int .i64 i ∧ Hid (Below w.heap.size w wr)) (fun s5 _ => n - (intOf s5).toNat)
  case atStart => exact ⟨0, by omega, rfl, Lib.hid (Below.refl _ _)⟩
  case round =>
    obtain ⟨i, hi, rfl, HB⟩ := hrel
    by_cases hlt : i < n
    · have h1 : (i : Int) < n := by omega
      have h0 : (0 : Int) ≤ i := by omega
      obtain ⟨v, hv⟩ : ∃ v, xs[i]? = some v := ⟨_, List.getElem?_eq_getElem (by rw [HN.out]; exact hlt)⟩
      have hvv : (ints xs)[i]? = some (.int .i64 v) := by unfold ints; rw [List.getElem?_map, hv]; rfl
      obtain ⟨g1, rfl, z1⟩ := (H1.out.later HB.out).cell hvv
      obtain ⟨g2, rfl, z2⟩ := (H2.out.later HB.out).cell hvv
      have HLT := Lib.hid hlt
      clear hv hvv hlt
      go_wp2
      go_quiet (fail)
      go_wp2
      go_roundw
      case rel => exact ⟨i + 1, by have := HLT.out; omega, by go_num, Lib.hid (below_drewN HB.out _)⟩
      case measure => have := HLT.out; simp [intOf]; omega
    · have h1 : ¬ (i : Int) < n := by omega
      clear hlt
      go_wp2
      go_ret
      exact ⟨rfl, HB.out⟩
end
end Go.Proofs.Ytbhnpcmmcelecaa
namespace Go.Proofs.Ytbhnpcmmcelecaa
open Go.RowKit Go.Maps

/-- what both windows' calls leave: all below B, and rows of other types -/
structure Keep (B : Nat) (w v : World) : Prop where
  below : Below B w v
  size : w.heap.size ≤ v.heap.size
  rows : ∀ g t cs, Row w g t cs → t ≠ 169 → t ≠ 154 → t ≠ 4 → Row v g t cs
structure Both (w : World) (x m y B : Nat) (b size : Int) (a : Nat) (l : List Bool) : Prop where
  c : WinR w x m b size ((a : Int) % sz b) l
  r : RefR w y B b size a l
  hx : B ≤ x ∧ B ≤ m
  hy : B ≤ y
  hB : B ≤ w.heap.size
section
variable {w v u : World} {x m y B : Nat} {b size n : Int} {a : Nat} {l : List Bool}
theorem Keep.trans (h : Keep B w v) (h2 : Keep B v u) : Keep B w u :=
  ⟨h.below.trans h2.below, Nat.le_trans h.size h2.size, fun g t cs hr h3 h4 h5 => h2.rows g t cs (h.rows g t cs hr h3 h4 h5) h3 h4 h5⟩
theorem Keep.of_below (hB : B ≤ w.heap.size) (h : Below w.heap.size w v) : Keep B w v := ⟨h.mono hB, h.size, fun _ _ _ hr _ _ _ => hr.later h⟩
theorem row_same {g : Nat} {t t' : TypeId} {cs cs' : Array Value} (h : Row w g t cs) (h' : Row w g t' cs') : t = t' := by
  unfold Row at h h'
  rw [h] at h'
  have e := Option.some.inj h'
  cases e
  rfl
theorem Keep.xm (hw : WinR w x m b size n l) (hx : B ≤ x ∧ B ≤ m) (hB : B ≤ w.heap.size) (h : Only (XM x m) w v) : Keep B w v :=
  ⟨h.below hB (XM_old hx), h.size, fun g t cs hr h1 _ _ => hr.only h (by
    rintro (rfl | rfl)
    · exact h1 (row_same hr hw.row)
    · exact hw.set.row_ne hr rfl)⟩
theorem Keep.rs (hr : RefR w y B b size a l) (hy : B ≤ y) (hB : B ≤ w.heap.size) (h : Only (RS y B w) w v) : Keep B w v :=
  ⟨h.below hB (fun k hk hs => by rcases hs with rfl | ⟨h1, _⟩ <;> omega), h.size, fun g t cs hrow _ h2 h3 => hrow.only h (by
    obtain ⟨A, c, hr1, _⟩ := hr.row
    rintro (rfl | ⟨_, cs', hc⟩)
    · exact h2 (row_same hrow hr1)
    · exact h3 (row_same hrow hc))⟩
theorem WinR.rs {f : Int} {a' : Nat} {l' : List Bool} (hw : WinR w x m b size f l) (hr : RefR w y B b size a' l') (h : Only (RS y B w) w v) : WinR v x m b size f l := by
  refine { hw with row := hw.row.only h ?_, set := hw.set.only h ?_ }
  · obtain ⟨A, c, hr1, _⟩ := hr.row
    rintro (rfl | ⟨_, cs', hc⟩)
    · exact absurd (row_same hw.row hr1) (by decide)
    · exact absurd (row_same hw.row hc) (by decide)
  · obtain ⟨A, c, hr1, _⟩ := hr.row
    rintro (rfl | ⟨_, cs', hc⟩)
    · exact hw.set.row_ne hr1 rfl
    · exact hw.set.row_ne hc rfl
theorem RefR.xm {f : Int} {l' : List Bool} (hr : RefR w y B b size a l) (hw : WinR w x m b size f l') (h : Only (XM x m) w v) : RefR v y B b size a l :=
  hr.only h (by
    obtain ⟨A, c, hr1, _⟩ := hr.row
    rintro (rfl | rfl)
    · exact absurd (row_same hw.row hr1) (by decide)
    · exact hw.set.row_ne hr1 rfl) (fun g cs hc => by
    rintro (rfl | rfl)
    · exact absurd (row_same hw.row hc) (by decide)
    · exact hw.set.row_ne hc rfl)
theorem Both.later (h : Both w x m y B b size a l) (hb : Below w.heap.size w v) : Both v x m y B b size a l :=
  ⟨h.c.later hb, h.r.later hb, h.hx, h.hy, Nat.le_trans h.hB hb.size⟩
theorem both_next (h : Both w x m y B b size a l) (h3 : a + l.length ≤ 2900) : ∃ p q : Int, Calls Try.prog 86 #[.pointer (some ⟨x, 0, none⟩)] w fun e w1 => e = .returned (.tuple #[.int .i64 p, .int .i64 q]) ∧ Keep B w w1 ∧
    Calls Try.prog 87 #[.pointer (some ⟨y, 0, none⟩)] w1 fun e w3 => e = .returned (.tuple #[.int .i64 p, .int .i64 q]) ∧ Keep B w1 w3 ∧ ∃ a' l', Both w3 x m y B b size a' l' ∧ a' + l'.length ≤ a + l.length + 1 := by
  by_cases hl : (l.length : Int) = size
  · refine ⟨0, 11, (wnext_full h.c hl).mono ?_⟩
    rintro e w1 ⟨rfl, hb⟩
    refine ⟨rfl, .of_below h.hB hb, (rnext_full (h.r.later hb) hl).mono ?_⟩
    rintro e w3 ⟨rfl, hb3⟩
    exact ⟨rfl, .of_below (Nat.le_trans h.hB hb.size) hb3, a, l, (h.later hb).later hb3, by omega⟩
  · have hl2 : (l.length : Int) < size := by have := h.c.hl; omega
    refine ⟨((a : Int) % sz b + l.length) % sz b, 0, (wnext_ok h.c hl2).mono ?_⟩
    rintro e w1 ⟨rfl, hw, ho⟩
    have hr := h.r.xm h.c ho
    have hB1 : B ≤ w1.heap.size := Nat.le_trans h.hB ho.size
    refine ⟨rfl, .xm h.c h.hx h.hB ho, (rnext_ok hr hl2 hB1 h3).mono ?_⟩
    rintro e w3 ⟨rfl, hr3, ho3⟩
    exact ⟨rfl, .rs hr h.hy hB1 ho3, a, l ++ [false], ⟨hw.rs hr ho3, hr3, h.hx, h.hy, Nat.le_trans hB1 ho3.size⟩, by simp; omega⟩
theorem both_ack (h : Both w x m y B b size a l) (n : Int) : ∃ q : Int, Calls Try.prog 88 #[.pointer (some ⟨x, 0, none⟩), .int .i64 n] w fun e w1 => e = .returned (.int .i64 q) ∧ Keep B w w1 ∧
    Calls Try.prog 89 #[.pointer (some ⟨y, 0, none⟩), .int .i64 n] w1 fun e w3 => e = .returned (.int .i64 q) ∧ Keep B w1 w3 ∧ ∃ a' l', Both w3 x m y B b size a' l' ∧ a' + l'.length ≤ a + l.length := by
  cases hn : okn b n
  · refine ⟨1, (wack_bad h.c hn).mono ?_⟩
    rintro e w1 ⟨rfl, hb⟩
    refine ⟨rfl, .of_below h.hB hb, (rack_bad (h.r.later hb) hn).mono ?_⟩
    rintro e w3 ⟨rfl, rfl⟩
    exact ⟨rfl, .of_below (Nat.le_trans h.hB hb.size) (Below.refl _ _), a, l, h.later hb, Nat.le_refl _⟩
  · cases hp : opb (sz b) ((a : Int) % sz b) l n
    · refine ⟨10, (wack_old h.c hn hp).mono ?_⟩
      rintro e w1 ⟨rfl, hb⟩
      refine ⟨rfl, .of_below h.hB hb, (rack_old (h.r.later hb) hn hp).mono ?_⟩
      rintro e w3 ⟨rfl, rfl⟩
      exact ⟨rfl, .of_below (Nat.le_trans h.hB hb.size) (Below.refl _ _), a, l, h.later hb, Nat.le_refl _⟩
    · refine ⟨0, (wack_ok h.c hn hp).mono ?_⟩
      rintro e w1 ⟨rfl, hw, ho⟩
      rw [nrmN_nrm] at hw
      have hr := h.r.xm h.c ho
      have hB1 : B ≤ w1.heap.size := Nat.le_trans h.hB ho.size
      refine ⟨rfl, .xm h.c h.hx h.hB ho, (rack_ok hr hn hp).mono ?_⟩
      rintro e w3 ⟨rfl, hr3, ho3⟩
      refine ⟨rfl, .rs hr h.hy hB1 ho3, (nrmN a (l.set (ix (sz b) ((a : Int) % sz b) n) true)).1, (nrmN a (l.set (ix (sz b) ((a : Int) % sz b) n) true)).2, ⟨hw.rs hr ho3, hr3, h.hx, h.hy, Nat.le_trans hB1 ho3.size⟩, ?_⟩
      have := (nrmN_len (l.set (ix (sz b) ((a : Int) % sz b) n) true) a).1
      rw [List.length_set] at this
      omega
theorem both_ends (h : Both w x m y B b size a l) : ∃ p q : Int, Calls Try.prog 91 #[.pointer (some ⟨x, 0, none⟩)] w (fun e w1 => e = .returned (.tuple #[.int .i64 p, .int .i64 q]) ∧ Below w.heap.size w w1) ∧
    ∀ w1, Below w.heap.size w w1 → Calls Try.prog 92 #[.pointer (some ⟨y, 0, none⟩)] w1 fun e w3 => e = .returned (.tuple #[.int .i64 p, .int .i64 q]) ∧ Below w1.heap.size w1 w3 :=
  ⟨_, _, wends_any h.c, fun _ hb => rends_any (h.r.later hb)⟩
theorem both_reset (h : Both w x m y B b size a l) : Calls Try.prog 90 #[.pointer (some ⟨x, 0, none⟩)] w fun e w1 => e = .returned (.tuple #[]) ∧ Keep B w w1 ∧ WinR w1 x m b size 0 [] ∧ (∃ A k c, Row w1 y 154 #[.int .i64 b, .int .i64 size, .slice A k c]) := by
  refine (wreset_any h.c).mono ?_
  rintro e w1 ⟨rfl, hw, ho⟩
  obtain ⟨A, c, hr, _⟩ := (h.r.xm h.c ho).row
  exact ⟨rfl, .xm h.c h.hx h.hB ho, hw, A, _, c, hr⟩
theorem both_anew {A : Option Addr} {k c : Nat} (hw : WinR w x m b size 0 []) (hr : Row w y 154 #[.int .i64 b, .int .i64 size, .slice A k c]) (hx : B ≤ x ∧ B ≤ m) (hy : B ≤ y) (hB : B ≤ w.heap.size) :
    Both (w.setCell ⟨y, 2, none⟩ (.slice none 0 0)) x m y B b size 0 [] ∧ Keep B w (w.setCell ⟨y, 2, none⟩ (.slice none 0 0)) := by
  have hset : Only (fun k => k = y) w (w.setCell ⟨y, 2, none⟩ (.slice none 0 0)) := (Only.refl (fun k => k = y) w).set (p := ⟨y, 2, none⟩) (.inl rfl) _
  refine ⟨⟨?_, ⟨⟨none, 0, hr.written 2 _, World.ownsRow_nil _ _ _ _⟩, hw.rt, hw.hs, hw.hs2, hw.hl, by simp, by simp⟩, hx, hy, by have := hset.size; omega⟩, ⟨hset.below hB (fun j hj e => by subst e; omega), hset.size, fun g t cs h1 h2 h3 h4 => h1.only hset (fun e => by subst e; exact h3 (row_same h1 hr))⟩⟩
  have e0 : ((0 : Nat) : Int) % sz b = 0 := by simp
  rw [e0]
  refine { hw with row := hw.row.only hset (fun e => ?_), set := hw.set.only hset (fun e => ?_) }
  · subst e; exact absurd (row_same hw.row hr) (by decide)
  · subst e; exact hw.set.row_ne hr rfl
end
end Go.Proofs.Ytbhnpcmmcelecaa
namespace Go.Proofs.Ytbhnpcmmcelecaa
open Go.ChangeShapes Go.WideShapes Go.ChangeAt Go.RowKit

theorem lawOwn : ownKnob Try.prog.godebug = none := by kernel_rfl
theorem lawLaid : laidOutB Try.prog = true := by kernel_rfl

section
variable {H : Type} {enc : TypeId × Value → H} {P : Program}
/-- what was read in the old world is read in the new one -/
theorem args_stay (hl : laidOutB P = true) {W W' : World} (hb : Below W.heap.size W W') : ∀ (ts : List TypeId) (vs : List Value) (ds : List (DataW H)) (ps : List MemPlace),
    (∀ t ∈ ts, P.readableRec t = true ∧ t < P.types.size) → DataW.TrodAll enc P W 0 (fun _ => true) true ts vs ds ps → (∀ x ∈ ps, x.block < W.heap.size) →
    DataW.TrodAll enc P W' 0 (fun b => decide (b < W.heap.size)) true ts vs ds ps := by
  intro ts
  induction ts with
  | nil =>
    intro vs ds ps _ h _
    obtain ⟨rfl, rfl, rfl⟩ := trodAll_nil h
    exact trodAll_mk0
  | cons t ts ih =>
    intro vs ds ps hr h hlt
    obtain ⟨v, vs', d, ds', p, q, rfl, rfl, rfl, h1, h2⟩ := trodAll_cons h
    have ht := hr t (List.mem_cons_self ..)
    exact trodAll_cons_mk (Below.trod hl ht.1 ht.2 h1 hb fun x hx => hlt x (List.mem_append_left _ hx))
      (ih vs' ds' q (fun u hu => hr u (List.mem_cons_of_mem _ hu)) h2 fun x hx => hlt x (List.mem_append_right _ hx))

theorem law_post {f : Func} {s : ChangeSpec} {W W' : World} {args : Array Value} {ds gs : List (DataW H)} {before : List MemPlace} {B : TypeId}
    (hl : laidOutB P = true) (hr : f.params.toList.all (fun t => P.readableRec t && decide (t < P.types.size)) = true) (hv : s.vars = [])
    (hW : DataW.Whole enc P f.params.toList s.vars false W args.toList ds gs before)
    (hs : s.fn H (ds ++ gs) = { results := [.lit (.bool true)], args := ds }) (ht : f.resultTypes = #[B]) (hB : P.underlying B = some .bool)
    (hb : Below W.heap.size W W') : s.post enc P f false true false false W args (.bool true) W' := by
  have hW' := hW
  obtain ⟨p, q, hA, hV, rfl, _, _⟩ := hW
  rw [hv] at hV
  obtain ⟨rfl, rfl⟩ := trodVars_none hV
  refine ⟨ds, [], p ++ [], [], p, [], hW', ?_, ?_, ?_, hb.frame _, fun h => by cases h⟩
  · rw [hs, ht]
    exact trodAll_mk1 (shut_bool hB true)
  · rw [hs]
    exact args_stay hl hb _ _ _ _ (fun t h => by have := List.all_eq_true.1 hr t h; simpa using this) hA fun x hx => hW'.lt x (List.mem_append_left _ hx)
  · rw [hs, hv]
    exact rfl
end
end Go.Proofs.Ytbhnpcmmcelecaa
