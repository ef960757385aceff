/-
  glue: fields are put together. glue: what was told stays; literal fields. What a glue answers to fixed calls. GluePlain: what is told of fields that all begin and end a text; the calls of the statement.
-/
import Derived.Test.YtjobgnemklpiaaaJGluePlain09
import Derived.Lib.SlBytesConst
namespace Go.Proofs.Ytjobgnemklpiaaa
open Go.RowKit

theorem told_lost (s : GS) (e : Bool) : (s.told e).1.lost = s.lost := by
  unfold GS.told
  split
  · split <;> rfl
  · rfl
theorem told_short (s : GS) (e : Bool) (h : s.held.length ≤ 1000) : (s.told e).1.held.length ≤ 1000 := by
  unfold GS.told
  split
  · split <;> simp_all
  · exact h
theorem told_one (s : GS) (e : Bool) : (s.told e).2.length ≤ 1 := by
  unfold GS.told
  split
  · split <;> simp
  · simp
theorem clipr_any {A : Option Addr} (n c : Nat) (w : World) (hc : n ≤ c) : Calls Try.prog 113 #[.slice A n c] w fun e w' => e = .returned (.slice A n n) ∧ w = w' := by
  cases A with
  | none =>
    go_enter Try.func113, Try.ntmps113
    go_wp2
    go_ret
    exact ⟨rfl, rfl⟩
  | some a =>
    go_enter Try.func113, Try.ntmps113
    go_wp2
    go_ret
    exact ⟨rfl, rfl⟩
/-- the state, and what was told, behind field k -/
def goTo (fi n : Nat) (fs : List (List Nat)) (s : GS) : Nat → GS × List (List Nat)
  | 0 => (s, [])
  | k + 1 =>
    let z := goTo fi n fs s k
    let y := (z.1.come (fs.getD k []) (beg fi k) (fin fi n k)).told (fin fi n k)
    (y.1, z.2 ++ y.2)
theorem goTo_split (fi n : Nat) (fs : List (List Nat)) (s : GS) : ∀ k j, k + j = fs.length → ((goG fi n k (fs.drop k) (goTo fi n fs s k).1).1, (goTo fi n fs s k).2 ++ (goG fi n k (fs.drop k) (goTo fi n fs s k).1).2) = goTo fi n fs s fs.length := by
  intro k j
  induction j generalizing k with
  | zero =>
    intro h
    have e : fs.length = k := by omega
    rw [List.drop_of_length_le (by omega), e]
    simp [goG]
  | succ j ih =>
    intro h
    have hk : k < fs.length := by omega
    have e : fs.drop k = fs.getD k [] :: fs.drop (k + 1) := by
      rw [List.drop_eq_getElem_cons hk, List.getD_eq_getElem?_getD, List.getElem?_eq_getElem hk]
      rfl
    rw [← ih (k + 1) (by omega), e]
    simp only [goG, goTo, List.append_assoc]
theorem goTo_all (fi n : Nat) (fs : List (List Nat)) (s : GS) : goTo fi n fs s fs.length = goG fi n 0 fs s := by
  have h := goTo_split fi n fs s 0 fs.length (by omega)
  rw [← h]
  simp [goTo]
theorem goTo_facts (fi n : Nat) (fs : List (List Nat)) (s : GS) (hs : s.held.length ≤ 1000) (k : Nat) : (goTo fi n fs s k).1.held.length ≤ 1000 ∧ (goTo fi n fs s k).1.lost ≤ s.lost + 2 * k ∧ (goTo fi n fs s k).2.length ≤ k := by
  induction k with
  | zero => exact ⟨hs, by simp [goTo], by simp [goTo]⟩
  | succ k ih =>
    obtain ⟨h1, h2, h3⟩ := ih
    simp only [goTo]
    refine ⟨told_short _ _ (GS.come_short _ _ _ _ h1), ?_, ?_⟩
    · rw [told_lost]
      have := (goTo fi n fs s k).1.come_lost (fs.getD k []) (beg fi k) (fin fi n k)
      omega
    · rw [List.length_append]
      have := told_one ((goTo fi n fs s k).1.come (fs.getD k []) (beg fi k) (fin fi n k)) (fin fi n k)
      omega
theorem come_bytes {s : GS} {f : List Nat} {b e : Bool} (h : ∀ x ∈ s.held, x < 256) (hf : ∀ x ∈ f, x < 256) : ∀ x ∈ (s.come f b e).held, x < 256 := by
  unfold GS.come
  repeat' split
  all_goals simp_all
  all_goals (intro x hx; exact hx.elim (h x) (hf x))
theorem told_bytes {s : GS} {e : Bool} (h : ∀ x ∈ s.held, x < 256) : (∀ x ∈ (s.told e).1.held, x < 256) ∧ ∀ t ∈ (s.told e).2, ∀ x ∈ t, x < 256 := by
  unfold GS.told
  split
  · split
    · exact ⟨h, by simp⟩
    · exact ⟨by simp, by simpa using h⟩
  · exact ⟨h, by simp⟩
theorem goTo_bytes (fi n : Nat) (fs : List (List Nat)) (s : GS) (hs : ∀ x ∈ s.held, x < 256) (hf : ∀ f ∈ fs, ∀ x ∈ f, x < 256) (k : Nat) : (∀ x ∈ (goTo fi n fs s k).1.held, x < 256) ∧ ∀ t ∈ (goTo fi n fs s k).2, ∀ x ∈ t, x < 256 := by
  induction k with
  | zero => exact ⟨hs, by simp [goTo]⟩
  | succ k ih =>
    simp only [goTo]
    have hk : ∀ x ∈ fs.getD k [], x < 256 := by
      rw [List.getD_eq_getElem?_getD]
      rcases Nat.lt_or_ge k fs.length with h | h
      · rw [List.getElem?_eq_getElem h]
        exact hf _ (List.getElem_mem h)
      · rw [List.getElem?_eq_none h]
        simp
    have h1 := told_bytes (e := fin fi n k) (come_bytes (b := beg fi k) (e := fin fi n k) ih.1 hk)
    refine ⟨h1.1, fun t ht => ?_⟩
    rw [List.mem_append] at ht
    rcases ht with ht | ht
    · exact ih.2 t ht
    · exact h1.2 t ht
/-- what Put does that is not refused -/
def PutDone (B p : Nat) (hv : Value) (s' : GS) (told : List (List Nat)) (w : World) (e : Ending) (w' : World) : Prop :=
  ∃ hv' L A, e = .returned (.tuple #[.slice A L.length L.length, .int .i64 0]) ∧ texts L = told ∧ GRep B w' p hv' s' ∧ RSrc w' A L ∧ Only (GS1 p hv) w w' ∧ GNext w hv hv' ∧ (∃ C c, w'.ownsRow C 61 1 (.slice A L.length c) L.length (L.map RowB.v)) ∧ ∀ r ∈ L, TOk B w' hv' r
/-- between two fields -/
def GJ (B p gb tb C fi n : Nat) (fs : List (List Nat)) (s : GS) (hv : Value) (w : World) (k : Nat) (W : World) : Prop :=
  ∃ hv' tv' L', GInv B C p gb tb W hv' tv' (goTo fi n fs s k).1 L' ∧ texts L' = (goTo fi n fs s k).2 ∧ Only (GS1 p hv) w W ∧ GNext w hv hv' ∧ (∀ k, tv'.ownBlock = some k → w.heap.size ≤ k) ∧ C ≤ W.heap.size
theorem texts_getD {L : List RowB} {k : Nat} {r : RowB} (h : L[k]? = some r) : (texts L).getD k [] = r.bs := by
  rw [List.getD_eq_getElem?_getD, texts_at h]
  rfl
theorem rows_told {B C p gb tb : Nat} {W : World} {hv tv : Value} {s : GS} {L : List RowB} (h : GInv B C p gb tb W hv tv s L) (hb : ∀ t ∈ texts L, ∀ x ∈ t, x < 256) : ∃ A c, tv = .slice A L.length c ∧ L.length ≤ c ∧ RSrc W A L := by
  obtain ⟨_, _, _, h4, h5⟩ := h
  have hok : ∀ r ∈ L, r.ok W := fun r hr => by
    have h9 := h5 r hr
    obtain ⟨g, cs, _, _, _, k1, k2, _⟩ := id h9
    exact ⟨h9.src, k1, k2, hb r.bs (List.mem_map.2 ⟨r, hr, rfl⟩)⟩
  rcases h4.2 with ⟨rfl, h0⟩ | ⟨g, cap, cur, rfl, _, _, h1, _, _⟩
  · refine ⟨none, 0, by rw [h0], by omega, fun h9 => ?_⟩
    omega
  · refine ⟨some ⟨g, 0, none⟩, cap, rfl, h1, fun _ => ⟨_, rfl, fun k r hr => ⟨?_, hok r (List.mem_of_getElem? hr)⟩⟩⟩
    exact h4.cells (g := g) rfl k _ (by rw [List.getElem?_map, hr]; rfl)
theorem geach_put {B p gb tb C fi n cap : Nat} {A : Option Addr} {L : List RowB} {s : GS} {hv : Value} {w w3 : World} (hfi : fi ≤ 3) (hL : L.length = n) (hn0 : 0 < n) (hn : n ≤ 24) (hB : B ≤ w.heap.size) (htb : w.heap.size ≤ tb)
    (hs : ∀ W, Only (GS1 p hv) w W → RSrc W A L) (hlen : 2 ≤ fi → ∀ r, L[0]? = some r → r.bs.length ≤ 100000) (hlost : s.lost ≤ 100000) (hheld : s.held.length ≤ 1000) (h0 : GJ B p gb tb C fi n (texts L) s hv w 0 w3) :
    Calls Try.prog 122 #[.int .i64 fi, .slice A n cap, .func (.func 123) #[] #[.pointer (some ⟨gb, 0, none⟩), .pointer (some ⟨tb, 0, none⟩)]] w3 fun e w' => e = .returned (.tuple #[]) ∧ GJ B p gb tb C fi n (texts L) s hv w n w' := by
  refine geach_any fi n cap hfi (GJ B p gb tb C fi n (texts L) s hv w) w3 hL hn0 (by omega) h0 (fun k W h => ?_) (fun k W r hr h => ?_)
  · obtain ⟨_, _, _, _, _, h3, _⟩ := h
    exact hs W h3
  · obtain ⟨hv', tv', L', h1, h2, h3, h4, h5, h6⟩ := h
    have hk : k < n := by rw [← hL]; exact (List.getElem?_eq_some_iff.1 hr).1
    have hfa := goTo_facts fi n (texts L) s hheld k
    have hl' : L'.length ≤ 24 := by rw [← length_texts, h2]; omega
    refine (put1_any (beg fi k) (fin fi n k) r.bs.length r.cap h1 (by omega) (Nat.le_trans hB h3.size) h6 (by omega) (fun W' hb' => ?_) rfl ?_ (fun hbeg => ?_) hfa.1).mono ?_
    · obtain ⟨ad, _, hc⟩ := hs W' (h3.andThen hb' (fun k _ hk => Or.inl hk)) (by omega)
      exact (hc k r hr).2.1
    · obtain ⟨ad, _, hc⟩ := hs W h3 (by omega)
      have h9 := (hc k r hr).2
      have := h9.2.1
      have := h9.2.2.1
      omega
    · unfold beg at hbeg
      rw [Bool.or_eq_false_iff, decide_eq_false_iff_not, beq_eq_false_iff_ne] at hbeg
      obtain rfl : k = 0 := by omega
      exact hlen (by omega) r hr
    · rintro e W2 ⟨rfl, hv2, tv2, L2, g1, g2, g3, g4, g5, g6⟩
      refine ⟨rfl, hv2, tv2, L2, ?_, ?_, ?_, ?_, ?_, g6⟩
      · simp only [goTo]
        rw [texts_getD hr]
        exact g1
      · simp only [goTo]
        rw [texts_getD hr, g2, h2]
      · refine h3.andThen g3 (fun j hj hx => ?_)
        rcases hx with (hx | hx) | hx | hx
        · exact .inl hx
        · rcases h4 j hx with h9 | h9
          · exact .inr h9
          · omega
        · omega
        · have := h5 j hx; omega
      · intro j hj
        rcases g4 j hj with h9 | h9
        · exact h4 j h9
        · exact .inr (Nat.le_trans h3.size h9)
      · intro j hj
        rcases g5 j hj with h9 | h9
        · exact h5 j h9
        · exact Nat.le_trans h3.size h9
set_option maxRecDepth 100000 in
set_option maxHeartbeats 1600000 in
theorem gput_bad {B p : Nat} {w : World} {hv : Value} {s : GS} {A : Option Addr} {L : List RowB} (fi : Int) (n cap : Nat) (gap : Bool) (h : GRep B w p hv s) (hL : L.length = n) (hn : n ≤ 1000) (hs : RSrc w A L) (hno : okG fi (lens L) = false) :
    Calls Try.prog 62 #[.pointer (some ⟨p, 0, none⟩), .int .i64 fi, .slice A n cap, .bool gap] w fun e w' => e = .returned (.tuple #[.slice none 0 0, .int .i64 1]) ∧ Below w.heap.size w w' := by
  have HF := Lib.hid (gfault_any fi n cap (w.alloc (.cells #[.pointer (some ⟨p, 0, none⟩)] 107)) (h.1.more _) hL hn (hs.later (bl_alloc (Below.refl _ _) _)))
  rw [hno] at HF
  clear h hs hL hno
  go_enter Try.func62, Try.ntmps62
  go_wp2_with (go_at_call 120; (with_reducible refine (HF.out).mono ?_); rintro e w1 ⟨rfl, rfl⟩)
  go_ret2
  exact ⟨rfl, bl_alloc (Below.refl _ _) _⟩
theorem gj0 {B p gb : Nat} {w w2 : World} {hv hv2 : Value} {s2 : GS} {fi n : Nat} {fs : List (List Nat)} (h : GRep B w2 p hv2 s2) (hg : Row w2 gb 107 #[.pointer (some ⟨p, 0, none⟩)]) (ho : Only (GS1 p hv) w w2) (hn : GNext w hv hv2) :
    GJ B p gb w2.heap.size w2.heap.size fi n fs s2 hv w 0 (w2.alloc (.cells #[.slice none 0 0] 57)) :=
  ⟨hv2, .slice none 0 0, [], ⟨h.later (bl_alloc (Below.refl _ _) _), hg.more _, Row.made _ _ _, World.ownsRow_nil _ _ _ _, fun r hr => by cases hr⟩, rfl, ho.alloc _, hn, fun k hk => by simp [Value.ownBlock] at hk, by simp⟩
set_option maxRecDepth 100000 in
set_option maxHeartbeats 1600000 in
theorem gput_ok {B p : Nat} {w : World} {hv : Value} {s : GS} {A : Option Addr} {L : List RowB} (fi n cap : Nat) (gap : Bool) (h : GRep B w p hv s) (hL : L.length = n) (hB : B ≤ w.heap.size) (hs : ∀ W, Only (GS1 p hv) w W → RSrc W A L) (hok : okG fi (lens L) = true)
    (hlen : 2 ≤ fi → ∀ r, L[0]? = some r → r.bs.length ≤ 100000) (hlost : s.lost ≤ 10000) (hheld : s.held.length ≤ 1000) (hby : ∀ x ∈ s.held, x < 256) :
    Calls Try.prog 62 #[.pointer (some ⟨p, 0, none⟩), .int .i64 fi, .slice A n cap, .bool gap] w (PutDone B p hv (putG fi (texts L) gap s).1 (putG fi (texts L) gap s).2 w) := by
  have hok' := hok
  unfold okG at hok'
  simp only [Bool.and_eq_true, decide_eq_true_eq] at hok'
  obtain ⟨⟨⟨⟨_, hfi⟩, hn0⟩, h24⟩, _⟩ := hok'
  rw [length_lens, hL] at hn0 h24
  have hb0 := bl_alloc (Below.refl w.heap.size w) (.cells #[.pointer (some ⟨p, 0, none⟩)] 107)
  have HF := Lib.hid (gfault_any fi n cap (w.alloc (.cells #[.pointer (some ⟨p, 0, none⟩)] 107)) (h.1.more _) hL (by omega) (hs _ (Only.of_below hb0)))
  rw [hok, if_pos rfl] at HF
  have hbytes : ∀ f ∈ texts L, ∀ x ∈ f, x < 256 := by
    intro f hf
    obtain ⟨r, hr, rfl⟩ := List.mem_map.1 hf
    obtain ⟨j, hj⟩ := List.getElem?_of_mem hr
    obtain ⟨ad, _, hc⟩ := hs w (Only.refl _ _) (by omega)
    exact (hc j r hj).2.2.2.2
  have HROW := Lib.hid (Row.made w 107 #[.pointer (some ⟨p, 0, none⟩)])
  have k0 : (w.alloc (.cells #[.pointer (some ⟨p, 0, none⟩)] 107)).cell? ⟨w.heap.size, 0, none⟩ = some (.pointer (some ⟨p, 0, none⟩)) := HROW.out.read rfl
  -- what each leaves, told as the law tells it
  have fine : ∀ (s2 : GS) (gb tb C : Nat) (W : World), (∀ x ∈ s2.held, x < 256) → GJ B p gb tb C fi n (texts L) s2 hv w n W → ∃ (hv' : Value) (L2 : List RowB) (A2 : Option Addr) (c2 : Nat), W.cell? ⟨tb, 0, none⟩ = some (.slice A2 L2.length c2) ∧ L2.length ≤ c2 ∧
      PutDone B p hv (goG fi n 0 (texts L) s2).1 (goG fi n 0 (texts L) s2).2 w (.returned (.tuple #[.slice A2 L2.length L2.length, .int .i64 0])) W ∧ hv' = hv' := by
    intro s2 gb tb C W hb2 ⟨hv', tv', L', h1, h2, h3, h4, h5, h6⟩
    have hgb := goTo_bytes fi n (texts L) s2 hb2 hbytes n
    obtain ⟨A2, c2, rfl, q1, q2⟩ := rows_told h1 (by rw [h2]; exact hgb.2)
    have e := goTo_all fi n (texts L) s2
    rw [length_texts, hL] at e
    rw [← e]
    exact ⟨hv', L', A2, c2, h1.2.2.1.read rfl, q1, ⟨hv', L', A2, rfl, h2, h1.1, q2, h3, h4, ⟨C, c2, h1.2.2.2.1⟩, h1.2.2.2.2⟩, rfl⟩
  have HFI := Lib.hid fine
  have hput : putG fi (texts L) gap s = goG fi n 0 (texts L) (if gap then s.lose else s) := by unfold putG; rw [length_texts, hL]
  rw [hput]
  have HE := Lib.hid (fun (s2 : GS) (gb tb C : Nat) (w3 : World) (htb : w.heap.size ≤ tb) (hl1 : s2.lost ≤ 100000) (hl2 : s2.held.length ≤ 1000) h0 => geach_put (fi := fi) (p := p) (hv := hv) (w := w) (w3 := w3) (s := s2) (gb := gb) (tb := tb) (C := C) (cap := cap) (by omega) hL hn0 h24 hB htb hs hlen hl1 hl2 h0)
  have hh1 := h.later hb0
  have HLS := Lib.hid (glose_any hh1 (by omega))
  have HH := Lib.hid hh1
  have HO := Lib.hid (show Only (GS1 p hv) w (w.alloc (.cells #[.pointer (some ⟨p, 0, none⟩)] 107)) from Only.of_below hb0)
  clear hput fine h hs hL hok hbytes hlen hh1 hb0
  have HBY := Lib.hid hby
  have hcl := fun (A : Option Addr) (n c : Nat) (W : World) (hc : n ≤ c) => clipr_any (A := A) n c W hc
  have HCL := Lib.hid hcl
  clear hby hcl
  cases gap
  · have HJ := Lib.hid (gj0 (fi := fi) (n := n) (fs := texts L) HH.out HROW.out HO.out (GNext.refl w hv))
    have e1 : (w.alloc (.cells #[.pointer (some ⟨p, 0, none⟩)] 107)).heap.size = w.heap.size + 1 := by simp
    rw [e1] at HJ
    clear e1
    go_enter Try.func62, Try.ntmps62
    go_wp2_with (first
      | (go_at_call 120; (with_reducible refine (HF.out).mono ?_); rintro e w1 ⟨rfl, rfl⟩)
      | (go_at_call 122; (with_reducible refine (HE.out s w.heap.size (w.heap.size + 1) _ _ (Nat.le_succ _) (by omega) hheld HJ.out).mono ?_); rintro e w4 ⟨rfl, hj⟩; obtain ⟨hv', L2, A2, c2, k1, k2, k3, _⟩ := HFI.out s _ _ _ w4 HBY.out hj; (have HD := Lib.hid k3; clear hj k3))
      | (go_at_call 113; (with_reducible refine (HCL.out _ _ _ _ k2).mono ?_); rintro e w5 ⟨rfl, rfl⟩))
    go_ret2
    exact HD.out
  · have hll := s.lose_lost
    have HLH := Lib.hid (lose_held s)
    have HROW2 := Lib.hid (fun (W : World) (ho : Only (fun k => k = p) (w.alloc (.cells #[.pointer (some ⟨p, 0, none⟩)] 107)) W) (hne : w.heap.size ≠ p) => HROW.out.only ho hne)
    have hne : w.heap.size ≠ p := HROW.out.apart HH.out.1 (by decide)
    go_enter Try.func62, Try.ntmps62
    go_wp2_with (first
      | (go_at_call 120; (with_reducible refine (HF.out).mono ?_); rintro e w1 ⟨rfl, rfl⟩)
      | (go_at_call 121; (with_reducible refine (HLS.out).mono ?_); rintro e w2 ⟨rfl, hv2, h2, ho2, hg2⟩; (have R2 := Lib.hid (HROW2.out w2 ho2 hne); have H2 := Lib.hid h2; have O2 := Lib.hid ((HO.out).andThen ho2 (fun k _ hk => (Or.inl hk : GS1 p hv k))); have G2 := Lib.hid (show GNext w hv hv2 from fun k hk => (hg2 k hk).elim Or.inl (fun h9 => Or.inr (Nat.le_trans HO.out.size h9))); clear h2 ho2 hg2))
      | (go_at_call 122; (with_reducible refine (HE.out s.lose w.heap.size _ _ _ ?z1 ?z2 ?z3 (gj0 H2.out R2.out O2.out G2.out)).mono ?_); rotate_left 3; rintro e w4 ⟨rfl, hj⟩; obtain ⟨hv', L2, A2, c2, k1, k2, k3, _⟩ := HFI.out s.lose _ _ _ w4 (by rw [HLH.out]; simp) hj; (have HD := Lib.hid k3; clear hj k3))
      | (go_at_call 113; (with_reducible refine (HCL.out _ _ _ _ k2).mono ?_); rintro e w5 ⟨rfl, rfl⟩))
    · go_ret2
      exact HD.out
    all_goals (first | omega | (rw [HLH.out]; simp) | exact O2.out.size)
end Go.Proofs.Ytjobgnemklpiaaa
namespace Go.Proofs.Ytjobgnemklpiaaa
open Go.RowKit

theorem GRep.block_lt {B p : Nat} {w : World} {hv : Value} {s : GS} (h : GRep B w p hv s) : ∀ k, GS1 p hv k → k < w.heap.size := by
  intro k hk
  rcases hk with hk | hk
  · subst hk; exact h.1.inside
  · exact (own_block h.2 k hk).2
theorem GRep.block_ge {B p : Nat} {w : World} {hv : Value} {s : GS} (h : GRep B w p hv s) (hB : B ≤ p) : ∀ k, GS1 p hv k → B ≤ k := by
  intro k hk
  rcases hk with hk | hk
  · omega
  · exact (own_block h.2 k hk).1
/-- what was told lies in memory that the glue has left -/
def ToldIs (B : Nat) (w : World) (hv : Value) (A : Option Addr) (L : List RowB) : Prop :=
  (∃ C c, w.ownsRow C 61 1 (.slice A L.length c) L.length (L.map RowB.v)) ∧ ∀ r ∈ L, TOk B w hv r
theorem ToldIs.step {B p : Nat} {w v : World} {hv hv' : Value} {s : GS} {A : Option Addr} {L : List RowB} (h : ToldIs B w hv A L) (hp : GRep B w p hv s) (ho : Only (GS1 p hv) w v) (hg : GNext w hv hv') : ToldIs B v hv' A L := by
  obtain ⟨⟨C, c, a4⟩, a5⟩ := h
  refine ⟨⟨C, c, own_only a4 ho (fun k hk hx => ?_)⟩, fun r hr => (a5 r hr).step ho (fun g cs h6 h7 hx => ?_) hg⟩
  · rcases hx with hx | hx
    · subst hx; exact own_apart a4 hp.1 (by decide) hk
    · exact own_rows_apart a4 hp.2 (by decide) k hk hx
  · rcases hx with hx | hx
    · exact h6.apart hp.1 (by decide) hx
    · exact h7 hx
theorem ToldIs.later {B : Nat} {w v : World} {hv : Value} {A : Option Addr} {L : List RowB} (h : ToldIs B w hv A L) (hb : Below w.heap.size w v) : ToldIs B v hv A L := by
  obtain ⟨⟨C, c, a4⟩, a5⟩ := h
  exact ⟨⟨C, c, own_later2 a4 hb⟩, fun r hr => (a5 r hr).step (S := fun _ => False) (.of_below hb) (fun _ _ _ _ h => h) (GNext.refl _ _)⟩
theorem ToldIs.src {B : Nat} {w : World} {hv : Value} {A : Option Addr} {L : List RowB} (h : ToldIs B w hv A L) (hb : ∀ t ∈ texts L, ∀ x ∈ t, x < 256) : RSrc w A L := by
  obtain ⟨⟨C, c, h4⟩, h5⟩ := h
  have hok : ∀ r ∈ L, r.ok w := fun r hr => by
    have h9 := h5 r hr
    obtain ⟨g, cs, _, _, _, k1, k2, _⟩ := id h9
    exact ⟨h9.src, k1, k2, hb r.bs (List.mem_map.2 ⟨r, hr, rfl⟩)⟩
  rcases h4.2 with ⟨e, h0⟩ | ⟨g, cap, cur, e, _, _, h1, _, _⟩
  · intro h9
    omega
  · injection e with e1 e2 e3
    subst e1
    exact fun _ => ⟨_, rfl, fun k r hr => ⟨h4.cells (g := g) rfl k _ (by rw [List.getElem?_map, hr]; rfl), hok r (List.mem_of_getElem? hr)⟩⟩
theorem texts_one {L : List RowB} {t : List Nat} (h : texts L = [t]) : ∃ r, L = [r] ∧ r.bs = t := by
  match L, h with
  | [r], h =>
    refine ⟨r, rfl, ?_⟩
    simpa [texts] using h
theorem texts_nil {L : List RowB} (h : texts L = []) : L = [] := by
  simpa [texts] using h
/-- one text told -/
theorem PutDone.one {B p : Nat} {hv : Value} {s' : GS} {t : List Nat} {w w' : World} {e : Ending} (h : PutDone B p hv s' [t] w e w') : ∃ hv' ad r, e = .returned (.tuple #[.slice (some ad) 1 1, .int .i64 0]) ∧ r.bs = t ∧ GRep B w' p hv' s' ∧ Only (GS1 p hv) w w' ∧ GNext w hv hv' ∧ ToldIs B w' hv' (some ad) [r] := by
  obtain ⟨hv', L, A, rfl, h1, h2, h3, h4, h5, h6, h7⟩ := h
  obtain ⟨r, rfl, hr⟩ := texts_one h1
  obtain ⟨ad, rfl, _⟩ := h3 (by simp)
  exact ⟨hv', ad, r, rfl, hr, h2, h4, h5, h6, h7⟩
/-- nothing told -/
theorem PutDone.none {B p : Nat} {hv : Value} {s' : GS} {w w' : World} {e : Ending} (h : PutDone B p hv s' [] w e w') : ∃ hv' A, e = .returned (.tuple #[.slice A 0 0, .int .i64 0]) ∧ GRep B w' p hv' s' ∧ Only (GS1 p hv) w w' ∧ GNext w hv hv' := by
  obtain ⟨hv', L, A, rfl, h1, h2, h3, h4, h5, h6, h7⟩ := h
  obtain rfl := texts_nil h1
  exact ⟨hv', A, rfl, h2, h4, h5⟩
theorem fresh_row {B p g : Nat} {t : TypeId} {cs : Array Value} {W0 w W : World} {hv : Value} {s : GS} (h : Row w g t cs) (h0 : GRep B W0 p hv s) (hg : W0.heap.size ≤ g) (ho : Only (GS1 p hv) w W) : Row W g t cs :=
  h.only ho (fun hx => by have := h0.block_lt g hx; omega)
/-- a row, marked or not -/
def RowF (w : World) (g : Nat) (t : TypeId) (cs : Array Value) : Prop := ∃ fr, w.heap[g]? = some (.cells cs t fr)
theorem RowF.of {w : World} {g : Nat} {t : TypeId} {cs : Array Value} (h : Row w g t cs) : RowF w g t cs := ⟨_, h⟩
theorem RowF.inside {w : World} {g : Nat} {t : TypeId} {cs : Array Value} (h : RowF w g t cs) : g < w.heap.size := by
  obtain ⟨fr, h⟩ := h
  rcases Nat.lt_or_ge g w.heap.size with h1 | h1
  · exact h1
  · exfalso
    rw [Array.getElem?_eq_none h1] at h
    cases h
theorem RowF.made (w : World) (t : TypeId) (cs : Array Value) (fr : Nat × Nat) : RowF (w.alloc (.cells cs t fr)) w.heap.size t cs := ⟨fr, heap_alloc_new w _⟩
theorem RowF.made1 (w : World) (o : Obj) (t : TypeId) (cs : Array Value) (fr : Nat × Nat) : RowF ((w.alloc o).alloc (.cells cs t fr)) (w.heap.size + 1) t cs := by
  have h := RowF.made (w.alloc o) t cs fr
  have e : (w.alloc o).heap.size = w.heap.size + 1 := by simp
  rw [e] at h
  exact h
theorem RowF.only {S : Nat → Prop} {w v : World} {g : Nat} {t : TypeId} {cs : Array Value} (h : RowF w g t cs) (ho : Only S w v) (hg : ¬ S g) : RowF v g t cs := by
  have hi := h.inside
  obtain ⟨fr, h⟩ := h
  exact ⟨fr, (ho.same g hi hg).trans h⟩
theorem RowF.later {w v : World} {g : Nat} {t : TypeId} {cs : Array Value} (h : RowF w g t cs) (hb : Below w.heap.size w v) : RowF v g t cs := h.only (S := fun _ => False) (.of_below hb) (fun h => h)
theorem RowF.more {w : World} {g : Nat} {t : TypeId} {cs : Array Value} (h : RowF w g t cs) (o : Obj) : RowF (w.alloc o) g t cs := h.later (bl_alloc (Below.refl _ _) o)
theorem RowF.src {w : World} {g : Nat} {l : List Nat} (h : RowF w g 5 (bts l).toArray) : Src w (some ⟨g, 0, none⟩) (bts l) := fun _ => ⟨_, rfl, fun j u hu => by
  obtain ⟨fr, h⟩ := h
  rw [add_zero_addr]
  exact (cell_of_row w g j _ 5 fr h).trans (by rw [List.getElem?_toArray]; exact hu)⟩
theorem fresh_rowF {B p g : Nat} {t : TypeId} {cs : Array Value} {W0 w W : World} {hv : Value} {s : GS} (h : RowF w g t cs) (h0 : GRep B W0 p hv s) (hg : W0.heap.size ≤ g) (ho : Only (GS1 p hv) w W) : RowF W g t cs :=
  h.only ho (fun hx => by have := h0.block_lt g hx; omega)
theorem g_ok {w : World} {g : Nat} {l : List Nat} (h : RowF w g 5 (bts l).toArray) (hb : ∀ b ∈ l, b < 256) (hl : l.length ≤ 9223372036854775807) : RowB.ok w ⟨some ⟨g, 0, none⟩, l.length, l⟩ := ⟨h.src, Nat.le_refl _, hl, hb⟩
theorem g_rsrc {w : World} {g : Nat} {L : List RowB} (h : Row w g 61 (L.map RowB.v).toArray) (hok : ∀ r ∈ L, r.ok w) : RSrc w (some ⟨g, 0, none⟩) L := fun _ => ⟨_, rfl, fun k r hr => ⟨by
  rw [add_zero_addr]
  exact h.read (by rw [List.getElem?_toArray, List.getElem?_map, hr]; rfl), hok r (List.mem_of_getElem? hr)⟩⟩
theorem gput_lit1 {B p g1 g2 : Nat} {W0 w : World} {hv : Value} {s : GS} (fi : Nat) (gap : Bool) (b : Nat) (h0 : GRep B W0 p hv s) (hb : Below W0.heap.size W0 w) (hg1 : W0.heap.size ≤ g1) (hg2 : W0.heap.size ≤ g2) (hB : B ≤ W0.heap.size)
    (h1 : RowF w g1 5 #[.int .u8 (b : Nat)]) (h2 : Row w g2 61 #[.slice (some ⟨g1, 0, none⟩) 1 1]) (hb1 : b < 256) (hlost : s.lost ≤ 10000) (hheld : s.held.length ≤ 1000) (hby : ∀ x ∈ s.held, x < 256) (hfi : fi ≤ 3) :
    Calls Try.prog 62 #[.pointer (some ⟨p, 0, none⟩), .int .i64 fi, .slice (some ⟨g2, 0, none⟩) 1 1, .bool gap] w (PutDone B p hv (putG fi [[b]] gap s).1 (putG fi [[b]] gap s).2 w) :=
  gput_ok (L := [⟨some ⟨g1, 0, none⟩, 1, [b]⟩]) fi 1 1 gap (h0.later hb) rfl (Nat.le_trans hB hb.size) (fun W ho => g_rsrc (fresh_row h2 h0 hg2 ho) (fun r hr => by
    rw [List.mem_singleton] at hr
    subst hr
    exact g_ok (l := [b]) (fresh_rowF h1 h0 hg1 ho) (by simpa using hb1) (by simp))) (by
    unfold okG
    simp [lens]
    omega) (by
    intro _ r hr
    simp at hr
    subst hr
    simp) hlost hheld hby
theorem gput_lit2 {B p g1 g2 g3 : Nat} {W0 w : World} {hv : Value} {s : GS} (fi : Nat) (gap : Bool) (b c d : Nat) (h0 : GRep B W0 p hv s) (hb : Below W0.heap.size W0 w) (hg1 : W0.heap.size ≤ g1) (hg2 : W0.heap.size ≤ g2) (hg3 : W0.heap.size ≤ g3) (hB : B ≤ W0.heap.size)
    (h1 : RowF w g1 5 #[.int .u8 (b : Nat)]) (h2 : RowF w g2 5 #[.int .u8 (c : Nat), .int .u8 (d : Nat)]) (h3 : Row w g3 61 #[.slice (some ⟨g1, 0, none⟩) 1 1, .slice (some ⟨g2, 0, none⟩) 2 2]) (hb1 : b < 256) (hc1 : c < 256) (hd1 : d < 256) (hlost : s.lost ≤ 10000) (hheld : s.held.length ≤ 1000) (hby : ∀ x ∈ s.held, x < 256) (hfi : fi ≤ 3) :
    Calls Try.prog 62 #[.pointer (some ⟨p, 0, none⟩), .int .i64 fi, .slice (some ⟨g3, 0, none⟩) 2 2, .bool gap] w (PutDone B p hv (putG fi [[b], [c, d]] gap s).1 (putG fi [[b], [c, d]] gap s).2 w) :=
  gput_ok (L := [⟨some ⟨g1, 0, none⟩, 1, [b]⟩, ⟨some ⟨g2, 0, none⟩, 2, [c, d]⟩]) fi 2 2 gap (h0.later hb) rfl (Nat.le_trans hB hb.size) (fun W ho => g_rsrc (fresh_row h3 h0 hg3 ho) (fun r hr => by
    rw [List.mem_cons, List.mem_singleton] at hr
    rcases hr with rfl | rfl
    · exact g_ok (l := [b]) (fresh_rowF h1 h0 hg1 ho) (by simpa using hb1) (by simp)
    · exact g_ok (l := [c, d]) (fresh_rowF h2 h0 hg2 ho) (by simp; omega) (by simp))) (by
    unfold okG
    simp [lens]
    omega) (by
    intro _ r hr
    simp at hr
    subst hr
    simp) hlost hheld hby
end Go.Proofs.Ytjobgnemklpiaaa
namespace Go.Proofs.Ytjobgnemklpiaaa
open Go.RowKit

theorem g_row1 (w : World) (o : Obj) (t : TypeId) (cs : Array Value) : Row ((w.alloc o).alloc (.cells cs t)) (w.heap.size + 1) t cs := by
  have h := Row.made (w.alloc o) t cs
  have e : (w.alloc o).heap.size = w.heap.size + 1 := by simp
  rw [e] at h
  exact h
theorem g_row2 (w : World) (o o' : Obj) (t : TypeId) (cs : Array Value) : Row (((w.alloc o).alloc o').alloc (.cells cs t)) (w.heap.size + 1 + 1) t cs := by
  have h := Row.made ((w.alloc o).alloc o') t cs
  have e : ((w.alloc o).alloc o').heap.size = w.heap.size + 1 + 1 := by simp
  rw [e] at h
  exact h
theorem gal1 {p : Nat} {w : World} {hv : Value} (h0 : GRep p w p hv ⟨[], 0⟩) :
    Calls Try.prog 62 #[.pointer (some ⟨p, 0, none⟩), .int .i64 1, .slice (some ⟨w.heap.size + 1 + 1, 0, none⟩) 2 2, .bool false] (((w.alloc (.cells #[.int .u8 120] 5 (1, 2))).alloc (.cells #[.int .u8 97, .int .u8 98] 5 (2, 3))).alloc (.cells #[.slice (some ⟨w.heap.size, 0, none⟩) 1 1, .slice (some ⟨w.heap.size + 1, 0, none⟩) 2 2] 61))
      fun e w' => ∃ hv' ad r, e = .returned (.tuple #[.slice (some ad) 1 1, .int .i64 0]) ∧ r.bs = [120] ∧ GRep p w' p hv' ⟨[97, 98], 0⟩ ∧ Below p w w' ∧ ToldIs p w' hv' (some ad) [r] := by
  have hb := bl_alloc (bl_alloc (bl_alloc (Below.refl w.heap.size w) (.cells #[.int .u8 120] 5 (1, 2))) (.cells #[.int .u8 97, .int .u8 98] 5 (2, 3))) (.cells #[.slice (some ⟨w.heap.size, 0, none⟩) 1 1, .slice (some ⟨w.heap.size + 1, 0, none⟩) 2 2] 61)
  have hp := h0.1.inside
  refine (gput_lit2 (g1 := w.heap.size) (g2 := w.heap.size + 1) 1 false 120 97 98 h0 hb (Nat.le_refl _) (by omega) (by omega) (by omega) (((RowF.made w 5 #[.int .u8 120] _).more _).more _) ((RowF.made1 w _ 5 #[.int .u8 97, .int .u8 98] _).more _) (g_row2 w _ _ _ _) (by omega) (by omega) (by omega) (by simp) (by simp) (by simp) (by omega)).mono ?_
  intro e w' h
  obtain ⟨hv', ad, r, h1, h2, h3, h4, _, h5⟩ := (show PutDone p p hv ⟨[97, 98], 0⟩ [[120]] _ e w' from h).one
  exact ⟨hv', ad, r, h1, h2, h3, (hb.mono (by omega)).trans (h4.below (Nat.le_trans (by omega) hb.size) (fun k hk hx => by
    have := h0.block_ge (Nat.le_refl _) k hx
    omega)), h5⟩
theorem gal2 {p : Nat} {w : World} {hv : Value} {ad : Addr} {r : RowB} (h0 : GRep p w p hv ⟨[97, 98], 0⟩) (ht : ToldIs p w hv (some ad) [r]) :
    Calls Try.prog 62 #[.pointer (some ⟨p, 0, none⟩), .int .i64 2, .slice (some ⟨w.heap.size + 1, 0, none⟩) 1 1, .bool false] ((w.alloc (.cells #[.int .u8 99] 5 (1, 2))).alloc (.cells #[.slice (some ⟨w.heap.size, 0, none⟩) 1 1] 61))
      fun e w' => ∃ hv' ad' r', e = .returned (.tuple #[.slice (some ad') 1 1, .int .i64 0]) ∧ r'.bs = [97, 98, 99] ∧ GRep p w' p hv' ⟨[], 0⟩ ∧ Below p w w' ∧ ToldIs p w' hv' (some ad') [r'] ∧ ToldIs p w' hv' (some ad) [r] := by
  have hb := bl_alloc (bl_alloc (Below.refl w.heap.size w) (.cells #[.int .u8 99] 5 (1, 2))) (.cells #[.slice (some ⟨w.heap.size, 0, none⟩) 1 1] 61)
  have hp := h0.1.inside
  refine (gput_lit1 (g1 := w.heap.size) 2 false 99 h0 hb (Nat.le_refl _) (by omega) (by omega) ((RowF.made w 5 #[.int .u8 99] _).more _) (g_row1 w _ _ _) (by omega) (by simp) (by simp) (by simp) (by omega)).mono ?_
  intro e w' h
  obtain ⟨hv', ad', r', h1, h2, h3, h4, h6, h5⟩ := (show PutDone p p hv ⟨[], 0⟩ [[97, 98, 99]] _ e w' from h).one
  exact ⟨hv', ad', r', h1, h2, h3, (hb.mono (by omega)).trans (h4.below (Nat.le_trans (by omega) hb.size) (fun k hk hx => by
    have := h0.block_ge (Nat.le_refl _) k hx
    omega)), h5, (ht.later hb).step (h0.later hb) h4 h6⟩
theorem gal3 {p : Nat} {w : World} {hv : Value} {ad ad2 : Addr} {r r2 : RowB} (h0 : GRep p w p hv ⟨[], 0⟩) (ht : ToldIs p w hv (some ad) [r]) (ht2 : ToldIs p w hv (some ad2) [r2]) :
    Calls Try.prog 62 #[.pointer (some ⟨p, 0, none⟩), .int .i64 2, .slice (some ⟨w.heap.size + 1, 0, none⟩) 1 1, .bool false] ((w.alloc (.cells #[.int .u8 100] 5 (1, 2))).alloc (.cells #[.slice (some ⟨w.heap.size, 0, none⟩) 1 1] 61))
      fun e w' => ∃ hv' A, e = .returned (.tuple #[.slice A 0 0, .int .i64 0]) ∧ GRep p w' p hv' ⟨[], 1⟩ ∧ Below p w w' ∧ ToldIs p w' hv' (some ad) [r] ∧ ToldIs p w' hv' (some ad2) [r2] := by
  have hb := bl_alloc (bl_alloc (Below.refl w.heap.size w) (.cells #[.int .u8 100] 5 (1, 2))) (.cells #[.slice (some ⟨w.heap.size, 0, none⟩) 1 1] 61)
  have hp := h0.1.inside
  refine (gput_lit1 (g1 := w.heap.size) 2 false 100 h0 hb (Nat.le_refl _) (by omega) (by omega) ((RowF.made w 5 #[.int .u8 100] _).more _) (g_row1 w _ _ _) (by omega) (by simp) (by simp) (by simp) (by omega)).mono ?_
  intro e w' h
  obtain ⟨hv', A, h1, h3, h4, h6⟩ := (show PutDone p p hv ⟨[], 1⟩ [] _ e w' from h).none
  exact ⟨hv', A, h1, h3, (hb.mono (by omega)).trans (h4.below (Nat.le_trans (by omega) hb.size) (fun k hk hx => by
    have := h0.block_ge (Nat.le_refl _) k hx
    omega)), (ht.later hb).step (h0.later hb) h4 h6, (ht2.later hb).step (h0.later hb) h4 h6⟩
theorem gal4 {p : Nat} {w : World} {hv : Value} (h0 : GRep p w p hv ⟨[], 1⟩) :
    Calls Try.prog 62 #[.pointer (some ⟨p, 0, none⟩), .int .i64 4, .slice (some ⟨w.heap.size + 1, 0, none⟩) 1 1, .bool false] ((w.alloc (.cells #[.int .u8 100] 5 (1, 2))).alloc (.cells #[.slice (some ⟨w.heap.size, 0, none⟩) 1 1] 61))
      fun e w' => e = .returned (.tuple #[.slice none 0 0, .int .i64 1]) ∧ Below w.heap.size w w' := by
  have hb := bl_alloc (bl_alloc (Below.refl w.heap.size w) (.cells #[.int .u8 100] 5 (1, 2))) (.cells #[.slice (some ⟨w.heap.size, 0, none⟩) 1 1] 61)
  refine (gput_bad (L := [⟨some ⟨w.heap.size, 0, none⟩, 1, [100]⟩]) 4 1 1 false (h0.later hb) rfl (by omega) (g_rsrc (g_row1 w _ _ _) (fun r hr => by
    rw [List.mem_singleton] at hr
    subst hr
    exact g_ok (l := [100]) ((RowF.made w 5 #[.int .u8 100] _).more _) (by simp) (by simp))) (by unfold okG; simp [lens])).mono ?_
  rintro e w' ⟨h1, h2⟩
  exact ⟨h1, bl_step hb h2⟩
set_option maxRecDepth 100000 in
set_option maxHeartbeats 3200000 in
theorem galive_any (w : World) : Calls Try.prog 60 #[] w fun e w' => e = .returned (.bool true) ∧ Below w.heap.size w w' := by
  have kc1 := fun w => Lib.run_convert_bytes_const (P := Try.prog) w 61 5 #[.int .u8 120] 1 1 Try.underlying61 Try.underlying5
  have kc2 : ∀ (w : World) (o : Obj), (convert 61 61 (.slice (some ⟨w.heap.size + 1, 0, none⟩) 2 2)).run Try.prog ((w.alloc o).alloc (.cells #[.int .u8 97, .int .u8 98] 5)) = .ok (.slice (some ⟨w.heap.size + 1, 0, none⟩) 2 2) ((w.alloc o).alloc (.cells #[.int .u8 97, .int .u8 98] 5 (2, 3))) := by
    intro w o
    have h := Lib.run_convert_bytes_const (P := Try.prog) (w.alloc o) 61 5 #[.int .u8 97, .int .u8 98] 2 2 Try.underlying61 Try.underlying5
    rw [show (w.alloc o).heap.size = w.heap.size + 1 by simp] at h
    exact h
  have kc3 := fun w => Lib.run_convert_bytes_const (P := Try.prog) w 61 5 #[.int .u8 99] 1 1 Try.underlying61 Try.underlying5
  have kc4 := fun w => Lib.run_convert_bytes_const (P := Try.prog) w 61 5 #[.int .u8 100] 1 1 Try.underlying61 Try.underlying5
  go_enter Try.func60, Try.ntmps60
  go_wp2_with fail
  refine (gnew_any w).mono ?_
  rintro e w1 ⟨rfl, hg1, hb1⟩
  generalize hp : w.heap.size = p at *
  have HP := Lib.hid hp
  have HG1 := Lib.hid hg1
  have HB1 := Lib.hid hb1
  clear hg1 hb1 hp
  go_wp2_with (first
    | (go_at_call 62; (with_reducible refine (gal1 HG1.out).mono ?_); rintro e w2 ⟨hv2, ad2, r2, rfl, hr2, hg2, hb2, ht2⟩; (have HG2 := Lib.hid hg2; have HB2 := Lib.hid hb2; have HT2 := Lib.hid ht2; have HR2 := Lib.hid hr2; have HHE2 := Lib.hid (gheld_any hg2); clear hg2 hb2 ht2 hr2))
    | (go_at_call 62; (with_reducible refine (gal2 HG2.out HT2.out).mono ?_); rintro e w3 ⟨hv3, ad3, r3, rfl, hr3, hg3, hb3, ht3, ht32⟩; (have HG3 := Lib.hid hg3; have HB3 := Lib.hid hb3; have HT3 := Lib.hid ht3; have HT32 := Lib.hid ht32; have HR3 := Lib.hid hr3; clear hg3 hb3 ht3 ht32 hr3))
    | (go_at_call 62; (with_reducible refine (gal3 HG3.out HT32.out HT3.out).mono ?_); rintro e w4 ⟨hv4, A4, rfl, hg4, hb4, ht42, ht43⟩; (have HG4 := Lib.hid hg4; have HB4 := Lib.hid hb4; have HT42 := Lib.hid ht42; have HT43 := Lib.hid ht43; clear hg4 hb4 ht42 ht43))
    | (go_at_call 62; (with_reducible refine (gal4 HG4.out).mono ?_); rintro e w5 ⟨rfl, hb5⟩; (have HB5 := Lib.hid hb5; have HL5 := Lib.hid (glost_any (HG4.out.later hb5)); have s2 := (HT42.out.later hb5).src (by simp [texts, HR2.out]); have s3 := (HT43.out.later hb5).src (by simp [texts, HR3.out]); obtain ⟨a2, e2, q2⟩ := s2 (by simp); obtain ⟨a3, e3, q3⟩ := s3 (by simp); injection e2 with e2; injection e3 with e3; subst e2; subst e3; have k2 := q2 0 r2 rfl; have k3 := q3 0 r3 rfl; rw [addr_zero] at k2 k3; unfold RowB.v at k2 k3; rw [HR2.out] at k2; rw [HR3.out] at k3; have x2 := k2.1; have x3 := k3.1; have cv2 := conv_src (w := w5) (A := r2.A) (l := [120]) 1 r2.cap rfl (by have := k2.2.1; rw [HR2.out] at this; exact this) (by simp); have cv3 := conv_src (w := w5) (A := r3.A) (l := [97, 98, 99]) 3 r3.cap rfl (by have := k3.2.1; rw [HR3.out] at this; exact this) (by simp); simp only [List.length_cons, List.length_nil, Nat.zero_add, Nat.reduceAdd] at x2 x3; have z2 : strOf [120] = ⟨#[120]⟩ := rfl; have z3 : strOf [97, 98, 99] = ⟨#[97, 98, 99]⟩ := rfl; rw [z2] at cv2; rw [z3] at cv3; clear hb5 q2 q3 k2 k3 z2 z3))
    | (go_at_call 63; (with_reducible refine HHE2.out.mono ?_); rintro e wx ⟨rfl, rfl⟩)
    | (go_at_call 64; (with_reducible refine HL5.out.mono ?_); rintro e wx ⟨rfl, rfl⟩))
  go_ret
  refine ⟨rfl, ?_⟩
  rw [HP.out]
  exact (((HB1.out.trans HB2.out).trans HB3.out).trans HB4.out).trans (HB5.out.mono (by have := HG4.out.1.inside; omega))
end Go.Proofs.Ytjobgnemklpiaaa
namespace Go.Proofs.Ytjobgnemklpiaaa
open Go.RowKit

def okLen (f : List Nat) : Bool := decide (f.length ≤ 1000)
def longs (fs : List (List Nat)) : Nat := (fs.filter fun f => !okLen f).length
def shorts (fs : List (List Nat)) : List (List Nat) := fs.filter okLen
theorem pl_take {fs : List (List Nat)} {k : Nat} {f : List Nat} (h : fs[k]? = some f) : fs.take (k + 1) = fs.take k ++ [f] := by
  rw [List.take_add_one, h]
  rfl
theorem longs_snoc (a : List (List Nat)) (f : List Nat) : longs (a ++ [f]) = longs a + if okLen f then 0 else 1 := by
  unfold longs
  rw [List.filter_append, List.length_append]
  by_cases h : okLen f = true <;> simp [h]
theorem shorts_snoc (a : List (List Nat)) (f : List Nat) : shorts (a ++ [f]) = shorts a ++ if okLen f then [f] else [] := by
  unfold shorts
  rw [List.filter_append]
  by_cases h : okLen f = true <;> simp [h]
theorem pl_step (k n : Nat) (s : GS) (f : List Nat) (hf : f ≠ []) : ((s.come f (beg 0 k) (fin 0 n k)).told (fin 0 n k)) = if okLen f then (⟨[], s.lose.lost⟩, [f]) else (⟨[], s.lose.lost + 1⟩, []) := by
  have hb : beg 0 k = true := by unfold beg; simp
  have he : fin 0 n k = true := by unfold fin; simp
  rw [hb, he]
  unfold GS.come GS.told okLen
  by_cases h : f.length ≤ 1000 <;> simp [h, hf]
theorem pl_lose0 (x : Nat) : (⟨[], x⟩ : GS).lose = ⟨[], x⟩ := by unfold GS.lose; simp
theorem pl_goTo (n : Nat) (fs : List (List Nat)) (s : GS) (hne : ∀ f ∈ fs, f ≠ []) : ∀ k, k + 1 ≤ fs.length → goTo 0 n fs s (k + 1) = (⟨[], s.lose.lost + longs (fs.take (k + 1))⟩, shorts (fs.take (k + 1))) := by
  intro k
  induction k with
  | zero =>
    intro hk
    have h0 : fs[0]? = some fs[0] := List.getElem?_eq_getElem (by omega)
    have hf : fs[0] ≠ [] := hne _ (List.getElem_mem (by omega))
    have hg : fs.getD 0 [] = fs[0] := by rw [List.getD_eq_getElem?_getD, h0]; rfl
    simp only [goTo]
    rw [hg, pl_step 0 n s _ hf, pl_take h0, longs_snoc, shorts_snoc]
    by_cases h : okLen fs[0] = true
    · rw [if_pos h, if_pos h, if_pos h]
      simp [longs, shorts]
    · rw [if_neg h, if_neg h, if_neg h]
      simp [longs, shorts]
  | succ k ih =>
    intro hk
    have h0 : fs[k + 1]? = some fs[k + 1] := List.getElem?_eq_getElem (by omega)
    have hf : fs[k + 1] ≠ [] := hne _ (List.getElem_mem (by omega))
    have hg : fs.getD (k + 1) [] = fs[k + 1] := by rw [List.getD_eq_getElem?_getD, h0]; rfl
    have ih1 := ih (by omega)
    rw [goTo, ih1]
    simp only
    rw [hg, pl_step (k + 1) n _ _ hf, pl_take h0, pl_lose0, longs_snoc, shorts_snoc]
    by_cases h : okLen fs[k + 1] = true
    · rw [if_pos h, if_pos h, if_pos h]
      simp
    · rw [if_neg h, if_neg h, if_neg h]
      simp
      omega
theorem pl_put (fs : List (List Nat)) (s : GS) (hne : ∀ f ∈ fs, f ≠ []) (h0 : 0 < fs.length) : putG 0 fs false s = (⟨[], s.lose.lost + longs fs⟩, shorts fs) := by
  unfold putG
  obtain ⟨k, hk⟩ : ∃ k, fs.length = k + 1 := ⟨fs.length - 1, by omega⟩
  have h := pl_goTo fs.length fs s hne k (by omega)
  rw [← hk, goTo_all, List.take_length] at h
  exact h
theorem pl_first (l : List Nat) (h1 : l.length ≤ 900) : putG 1 [l] false ⟨[], 0⟩ = (⟨l, 0⟩, []) := by
  unfold putG goG goG
  simp only [Bool.false_eq_true, if_false]
  have hb : beg 1 0 = true := rfl
  have he : fin 1 [l].length 0 = false := rfl
  rw [hb, he]
  unfold GS.come GS.told GS.lose
  have h2 : l.length ≤ 1000 := by omega
  simp [h2]
theorem lens_pos {L : List RowB} (h : ¬ 0 ∈ lens L) : ∀ f ∈ texts L, f ≠ [] := by
  intro f hf e
  obtain ⟨r, hr, rfl⟩ := List.mem_map.1 hf
  exact h (List.mem_map.2 ⟨r, hr, by rw [e]; rfl⟩)
section
variable {W0 w : World} {hv : Value} {p : Nat} {A : Option Addr} {l : List Nat} {c : Nat}
theorem pl_src1 {W : World} {g : Nat} (h : Row W g 61 #[.slice A l.length c]) (hs : Src W A (bts l)) (hc : l.length ≤ c) (hm : c ≤ 9223372036854775807) (hb : ∀ b ∈ l, b < 256) : RSrc W (some ⟨g, 0, none⟩) [⟨A, c, l⟩] :=
  g_rsrc h (fun r hr => by
    rw [List.mem_singleton] at hr
    subst hr
    exact ⟨hs, hc, hm, hb⟩)
theorem pl_bad1 {s : GS} {n : Nat} (hn : l.length = n) (h : GRep p w p hv s) (hs : Src w A (bts l)) (hc : l.length ≤ c) (hm : c ≤ 9223372036854775807) (hb : ∀ b ∈ l, b < 256) (h0 : n = 0) :
    Calls Try.prog 62 #[.pointer (some ⟨p, 0, none⟩), .int .i64 1, .slice (some ⟨w.heap.size, 0, none⟩) 1 1, .bool false] (w.alloc (.cells #[.slice A n c] 61)) fun e w' => e = .returned (.tuple #[.slice none 0 0, .int .i64 1]) ∧ Below w.heap.size w w' := by
  subst hn
  have hb0 := bl_alloc (Below.refl w.heap.size w) (.cells #[.slice A l.length c] 61)
  refine (gput_bad (L := [⟨A, c, l⟩]) 1 1 1 false (h.later hb0) rfl (by omega) (pl_src1 (Row.made _ _ _) (src_later hs hb0) hc hm hb) (by unfold okG; simp [lens, h0])).mono ?_
  rintro e w' ⟨h1, h2⟩
  exact ⟨h1, bl_step hb0 h2⟩
theorem pl_ok1 {n : Nat} (hn : l.length = n) (h : GRep p w p hv ⟨[], 0⟩) (hs : ∀ W, Below p w W → Src W A (bts l)) (hc : l.length ≤ c) (hm : c ≤ 9223372036854775807) (hb : ∀ b ∈ l, b < 256) (h0 : n ≠ 0) (h9 : n ≤ 900) :
    Calls Try.prog 62 #[.pointer (some ⟨p, 0, none⟩), .int .i64 1, .slice (some ⟨w.heap.size, 0, none⟩) 1 1, .bool false] (w.alloc (.cells #[.slice A n c] 61)) fun e w' => ∃ hv' A', e = .returned (.tuple #[.slice A' 0 0, .int .i64 0]) ∧ GRep p w' p hv' ⟨l, 0⟩ ∧ Below p w w' := by
  subst hn
  have hb0 := bl_alloc (Below.refl w.heap.size w) (.cells #[.slice A l.length c] 61)
  have hp := h.1.inside
  have hge : ∀ k, k < p → ¬ GS1 p hv k := fun k hk hx => by have := h.block_ge (Nat.le_refl _) k hx; omega
  have hbl : ∀ W, Only (GS1 p hv) (w.alloc (.cells #[.slice A l.length c] 61)) W → Below p w W := fun W ho => (hb0.mono (by omega)).trans (ho.below (Nat.le_trans (by omega) hb0.size) hge)
  have e := pl_first l h9
  refine (gput_ok (L := [⟨A, c, l⟩]) 1 1 1 false (h.later hb0) rfl (Nat.le_trans (by omega) hb0.size) (fun W ho => pl_src1 (fresh_row (Row.made _ _ _) h (Nat.le_refl _) ho) (hs W (hbl W ho)) hc hm hb) (by unfold okG; simp [lens]; try omega) (by omega) (by simp) (by simp) (by simp)).mono ?_
  intro e2 w' hd
  rw [show texts [⟨A, c, l⟩] = [l] from rfl, e] at hd
  obtain ⟨hv', A', h1, h3, h4, _⟩ := hd.none
  exact ⟨hv', A', h1, h3, hbl w' h4⟩
variable {L : List RowB} {n : Nat}
theorem pl_bad2 {s : GS} (hL : L.length = n) (hn : n ≤ 40) (h : GRep p w p hv s) (hs : RSrc w A L) (hno : okG 0 (lens L) = false) :
    Calls Try.prog 62 #[.pointer (some ⟨p, 0, none⟩), .int .i64 0, .slice A n c, .bool false] w fun e w' => e = .returned (.tuple #[.slice none 0 0, .int .i64 1]) ∧ Below w.heap.size w w' :=
  gput_bad 0 n c false h hL (by omega) hs hno
theorem pl_ok2 (hL : L.length = n) (h : GRep p w p hv ⟨l, 0⟩) (hs : ∀ W, Below p w W → RSrc W A L) (hok : okG 0 (lens L) = true) (hl : l.length ≤ 900) (hb : ∀ b ∈ l, b < 256) :
    Calls Try.prog 62 #[.pointer (some ⟨p, 0, none⟩), .int .i64 0, .slice A n c, .bool false] w fun e w' => ∃ hv' A' L', e = .returned (.tuple #[.slice A' (shorts (texts L)).length (shorts (texts L)).length, .int .i64 0]) ∧ texts L' = shorts (texts L) ∧ GRep p w' p hv' ⟨[], (if l.length = 0 then 0 else 1) + longs (texts L)⟩ ∧ RSrc w' A' L' ∧ Below p w w' := by
  have hp := h.1.inside
  have hge : ∀ k, k < p → ¬ GS1 p hv k := fun k hk hx => by have := h.block_ge (Nat.le_refl _) k hx; omega
  have hbl : ∀ W, Only (GS1 p hv) w W → Below p w W := fun W ho => ho.below (by omega) hge
  have hok' := hok
  unfold okG at hok'
  simp only [Bool.and_eq_true, decide_eq_true_eq, Bool.not_eq_true', decide_eq_false_iff_not] at hok'
  obtain ⟨⟨⟨_, hn0⟩, h24⟩, hz⟩ := hok'
  have e := pl_put (texts L) ⟨l, 0⟩ (lens_pos hz) (by rw [length_texts, ← length_lens]; exact hn0)
  have e3 : (⟨l, 0⟩ : GS).lose.lost = if l.length = 0 then 0 else 1 := by
    unfold GS.lose
    cases l <;> simp
  rw [e3] at e
  refine (gput_ok 0 n c false h hL (by omega) (fun W ho => hs W (hbl W ho)) hok (by omega) (by simp) (by show l.length ≤ 1000; omega) hb).mono ?_
  intro e2 w' hd
  rw [e] at hd
  obtain ⟨hv', L', A', h1, h2, h3, h4, h5, _⟩ := hd
  refine ⟨hv', A', L', ?_, h2, h3, h4, hbl w' h5⟩
  rw [h1, ← length_texts, h2]
end
end Go.Proofs.Ytjobgnemklpiaaa
