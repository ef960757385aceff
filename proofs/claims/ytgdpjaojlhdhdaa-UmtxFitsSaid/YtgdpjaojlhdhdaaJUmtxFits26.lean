/-
  glue: what may not be. glue: fields are put together. glue: what was told stays; literal fields. What a config is, and bytes that a queue keeps. What a sender of UM answers to fixed calls.
-/
import Derived.Test.YtgdpjaojlhdhdaaJUmtxFits25
import Derived.Test.YtgdpjaojlhdhdaaJUmtxFits16
import Derived.Test.YtgdpjaojlhdhdaaJUmtxFits13
import Derived.Test.YtgdpjaojlhdhdaaJUmtxFits24
import Derived.Test.YtgdpjaojlhdhdaaJUmtxFits21
namespace Go.Proofs.Ytgdpjaojlhdhdaa
open Go.RowKit

theorem gempty_any {A : Option Addr} (m c : Nat) (w : World) : Calls Try.prog 280 #[.slice A m c] w fun e w' => e = .returned (.bool ((m : Int) == 0)) ∧ w = w' := by
  go_enter Try.func280, Try.ntmps280
  go_wp2
  go_ret
  exact ⟨rfl, rfl⟩
set_option maxRecDepth 100000 in
set_option maxHeartbeats 1600000 in
theorem gidx_any {A : Option Addr} {L : List RowB} (n cap : Nat) (w : World) (hL : L.length = n) (hn : n ≤ 1000) (hs : RSrc w A L) :
    Calls Try.prog 323 #[.slice A n cap, .func (.func 280) #[] #[]] w fun e w' => (∃ i : Int, e = .returned (.int .i64 i) ∧ (decide (0 ≤ i) = decide (0 ∈ lens L))) ∧ w = w' := by
  have hcf := fun (args : Array Value) (w : World) => enters Try.func280 (by kernel_rfl) rfl args w
  have HE := Lib.hid (fun (A : Option Addr) (m c : Nat) (w : World) => gempty_any (A := A) m c w)
  have HS := Lib.hid hs
  have HL := Lib.hid hL
  clear hs hL
  go_enter Try.func323, Try.ntmps323
  go_wp2
  go_loopw [8] (fun i wr => ∃ k : Nat, k ≤ n ∧ i = .int .i64 k ∧ w = wr ∧ Hid (∀ j r, j < k → L[j]? = some r → r.bs.length ≠ 0)) (fun i _ => n - (intOf i).toNat)
  case atStart => exact ⟨0, by omega, rfl, rfl, Lib.hid (fun j r h => absurd h (by omega))⟩
  case round =>
    obtain ⟨k, hk, rfl, rfl, HP⟩ := hrel
    by_cases hlt : k < n
    · obtain ⟨ad, rfl, hc⟩ := HS.out (by rw [HL.out]; omega)
      obtain ⟨r, hr⟩ : ∃ r, L[k]? = some r := ⟨_, List.getElem?_eq_getElem (by rw [HL.out]; exact hlt)⟩
      have f0 := (hc k r hr).1
      have HRR := Lib.hid hr
      have hkI : (k : Int) < (n : Int) := by omega
      unfold RowB.v at f0
      by_cases hz : r.bs.length = 0
      · have hz1 : ((r.bs.length : Int) == 0) = true := by simp [hz]
        have HF := Lib.hid (show decide (0 ≤ (k : Int)) = decide (0 ∈ lens L) from by
          rw [decide_eq_true (by omega : 0 ≤ (k : Int)), decide_eq_true]
          exact List.mem_of_getElem? (by rw [lens_at hr, hz]))
        clear hc hr hz
        go_wp2_with (go_at_call 280; (with_reducible refine (HE.out _ _ _ _).mono ?_); rintro e w1 ⟨rfl, rfl⟩; rw [hz1])
        go_ret
        exact ⟨⟨_, rfl, HF.out⟩, rfl⟩
      · have hz1 : ((r.bs.length : Int) == 0) = false := by rw [beq_eq_false_iff_ne]; omega
        have HP2 := Lib.hid (show ∀ j r', j < k + 1 → L[j]? = some r' → r'.bs.length ≠ 0 from fun j r' h h' => by
          rcases Nat.lt_or_ge j k with h9 | h9
          · exact HP.out j r' h9 h'
          · obtain rfl : j = k := by omega
            rw [HRR.out] at h'
            injection h' with h'
            subst h'
            exact hz)
        clear hc hr hz
        go_wp2_with (go_at_call 280; (with_reducible refine (HE.out _ _ _ _).mono ?_); rintro e w1 ⟨rfl, rfl⟩; rw [hz1])
        go_roundw
        case rel => exact ⟨k + 1, by omega, by go_num, by first | rfl | trivial, HP2⟩
        case measure => simp [intOf]; omega
    · have hkn : k = n := by omega
      subst hkn
      have HF := Lib.hid (show decide (0 ≤ (-1 : Int)) = decide (0 ∈ lens L) from by
        rw [decide_eq_false (by omega : ¬ 0 ≤ (-1 : Int)), eq_comm, decide_eq_false_iff_not]
        intro hm
        obtain ⟨j, hj⟩ := List.getElem?_of_mem hm
        have hj2 : j < L.length := by have := (List.getElem?_eq_some_iff.1 hj).1; rwa [length_lens] at this
        have h9 := List.getElem?_eq_getElem hj2
        rw [lens_at h9] at hj
        injection hj with hj
        exact HP.out j _ (by rw [← HL.out]; exact hj2) h9 hj)
      go_wp2
      go_ret
      exact ⟨⟨_, rfl, HF.out⟩, rfl⟩
theorem gcontains_any {A : Option Addr} {L : List RowB} (n cap : Nat) (w : World) (hL : L.length = n) (hn : n ≤ 1000) (hs : RSrc w A L) :
    Calls Try.prog 281 #[.slice A n cap, .func (.func 280) #[] #[]] w fun e w' => e = .returned (.bool (decide (0 ∈ lens L))) ∧ w = w' := by
  have HI := Lib.hid (gidx_any n cap w hL hn hs)
  generalize decide (0 ∈ lens L) = z at *
  clear hs hL
  go_enter Try.func281, Try.ntmps281
  go_wp2_with (go_at_call 323; (with_reducible refine (HI.out).mono ?_); rintro e w1 ⟨⟨i, rfl, hi⟩, rfl⟩; (have HZ := Lib.hid hi; clear hi))
  go_ret
  exact ⟨by rw [← HZ.out]; rfl, rfl⟩
/-- what is handed in may be -/
def okG (fi : Int) (ls : List Nat) : Bool := decide (0 ≤ fi) && decide (fi ≤ 3) && decide (0 < ls.length) && decide (ls.length ≤ 24) && !decide (0 ∈ ls)
set_option maxRecDepth 100000 in
set_option maxHeartbeats 1600000 in
theorem gfault_any {p : Nat} {u v : Value} {A : Option Addr} {L : List RowB} (fi : Int) (n cap : Nat) (w : World) (hr : Row w p 229 #[.bool true, u, v]) (hL : L.length = n) (hn : n ≤ 1000) (hs : RSrc w A L) :
    Calls Try.prog 165 #[.pointer (some ⟨p, 0, none⟩), .int .i64 fi, .slice A n cap] w fun e w' => e = .returned (.int .i64 (if okG fi (lens L) then 0 else 1)) ∧ w = w' := by
  have HC := Lib.hid (gcontains_any n cap w hL hn hs)
  have c0 := hr.read (i := 0) rfl
  have HK := Lib.hid (show okG fi (lens L) = (decide (0 ≤ fi) && decide (fi ≤ 3) && decide (0 < n) && decide (n ≤ 24) && !decide (0 ∈ lens L)) by unfold okG; rw [length_lens, hL])
  rw [HK.out]
  generalize decide (0 ∈ lens L) = z at *
  clear hs hL hr HK
  by_cases h0 : 0 ≤ fi
  · by_cases h3 : fi ≤ 3
    · rw [decide_eq_true h0, decide_eq_true h3]
      have h0' : ¬ fi < 0 := by omega
      have h3' : ¬ 3 < fi := by omega
      by_cases hn0 : 0 < n
      · have hz : ((n : Int) == 0) = false := by simp; omega
        by_cases h24 : n ≤ 24
        · rw [decide_eq_true hn0, decide_eq_true h24]
          have h24' : ¬ (24 : Int) < (n : Int) := by omega
          cases z
          · go_enter Try.func165, Try.ntmps165
            go_wp2_with (go_at_call 281; (with_reducible refine (HC.out).mono ?_); rintro e w1 ⟨rfl, rfl⟩)
            go_ret
            exact ⟨rfl, rfl⟩
          · go_enter Try.func165, Try.ntmps165
            go_wp2_with (go_at_call 281; (with_reducible refine (HC.out).mono ?_); rintro e w1 ⟨rfl, rfl⟩)
            go_ret
            exact ⟨rfl, rfl⟩
        · rw [decide_eq_false h24]
          have h24' : (24 : Int) < (n : Int) := by omega
          simp only [Bool.and_false, Bool.false_and, if_neg (show ¬ (false = true) by decide)]
          go_enter Try.func165, Try.ntmps165
          go_wp2
          go_ret
          exact ⟨rfl, rfl⟩
      · rw [decide_eq_false hn0]
        have hz : ((n : Int) == 0) = true := by simp; omega
        simp only [Bool.and_false, Bool.false_and, if_neg (show ¬ (false = true) by decide)]
        go_enter Try.func165, Try.ntmps165
        go_wp2
        go_ret
        exact ⟨rfl, rfl⟩
    · rw [decide_eq_false h3]
      have h0' : ¬ fi < 0 := by omega
      have h3' : 3 < fi := by omega
      simp only [Bool.and_false, Bool.false_and, if_neg (show ¬ (false = true) by decide)]
      go_enter Try.func165, Try.ntmps165
      go_wp2
      go_ret
      exact ⟨rfl, rfl⟩
  · rw [decide_eq_false h0]
    have h0' : fi < 0 := by omega
    simp only [Bool.false_and, if_neg (show ¬ (false = true) by decide)]
    go_enter Try.func165, Try.ntmps165
    go_wp2
    go_ret
    exact ⟨rfl, rfl⟩
end Go.Proofs.Ytgdpjaojlhdhdaa
namespace Go.Proofs.Ytgdpjaojlhdhdaa
open Go.RowKit

theorem told_lost (s : GS) (e : Bool) : (s.told e).1.lost = s.lost := by
  unfold GS.told
  split
  · split <;> rfl
  · rfl
theorem told_short (s : GS) (e : Bool) (h : s.held.length ≤ 1000) : (s.told e).1.held.length ≤ 1000 := by
  unfold GS.told
  split
  · split <;> simp_all
  · exact h
theorem told_one (s : GS) (e : Bool) : (s.told e).2.length ≤ 1 := by
  unfold GS.told
  split
  · split <;> simp
  · simp
theorem clipr_any {A : Option Addr} (n c : Nat) (w : World) (hc : n ≤ c) : Calls Try.prog 171 #[.slice A n c] w fun e w' => e = .returned (.slice A n n) ∧ w = w' := by
  cases A with
  | none =>
    go_enter Try.func171, Try.ntmps171
    go_wp2
    go_ret
    exact ⟨rfl, rfl⟩
  | some a =>
    go_enter Try.func171, Try.ntmps171
    go_wp2
    go_ret
    exact ⟨rfl, rfl⟩
/-- the state, and what was told, behind field k -/
def goTo (fi n : Nat) (fs : List (List Nat)) (s : GS) : Nat → GS × List (List Nat)
  | 0 => (s, [])
  | k + 1 =>
    let z := goTo fi n fs s k
    let y := (z.1.come (fs.getD k []) (beg fi k) (fin fi n k)).told (fin fi n k)
    (y.1, z.2 ++ y.2)
theorem goTo_split (fi n : Nat) (fs : List (List Nat)) (s : GS) : ∀ k j, k + j = fs.length → ((goG fi n k (fs.drop k) (goTo fi n fs s k).1).1, (goTo fi n fs s k).2 ++ (goG fi n k (fs.drop k) (goTo fi n fs s k).1).2) = goTo fi n fs s fs.length := by
  intro k j
  induction j generalizing k with
  | zero =>
    intro h
    have e : fs.length = k := by omega
    rw [List.drop_of_length_le (by omega), e]
    simp [goG]
  | succ j ih =>
    intro h
    have hk : k < fs.length := by omega
    have e : fs.drop k = fs.getD k [] :: fs.drop (k + 1) := by
      rw [List.drop_eq_getElem_cons hk, List.getD_eq_getElem?_getD, List.getElem?_eq_getElem hk]
      rfl
    rw [← ih (k + 1) (by omega), e]
    simp only [goG, goTo, List.append_assoc]
theorem goTo_all (fi n : Nat) (fs : List (List Nat)) (s : GS) : goTo fi n fs s fs.length = goG fi n 0 fs s := by
  have h := goTo_split fi n fs s 0 fs.length (by omega)
  rw [← h]
  simp [goTo]
theorem goTo_facts (fi n : Nat) (fs : List (List Nat)) (s : GS) (hs : s.held.length ≤ 1000) (k : Nat) : (goTo fi n fs s k).1.held.length ≤ 1000 ∧ (goTo fi n fs s k).1.lost ≤ s.lost + 2 * k ∧ (goTo fi n fs s k).2.length ≤ k := by
  induction k with
  | zero => exact ⟨hs, by simp [goTo], by simp [goTo]⟩
  | succ k ih =>
    obtain ⟨h1, h2, h3⟩ := ih
    simp only [goTo]
    refine ⟨told_short _ _ (GS.come_short _ _ _ _ h1), ?_, ?_⟩
    · rw [told_lost]
      have := (goTo fi n fs s k).1.come_lost (fs.getD k []) (beg fi k) (fin fi n k)
      omega
    · rw [List.length_append]
      have := told_one ((goTo fi n fs s k).1.come (fs.getD k []) (beg fi k) (fin fi n k)) (fin fi n k)
      omega
theorem come_bytes {s : GS} {f : List Nat} {b e : Bool} (h : ∀ x ∈ s.held, x < 256) (hf : ∀ x ∈ f, x < 256) : ∀ x ∈ (s.come f b e).held, x < 256 := by
  unfold GS.come
  repeat' split
  all_goals simp_all
  all_goals (intro x hx; exact hx.elim (h x) (hf x))
theorem told_bytes {s : GS} {e : Bool} (h : ∀ x ∈ s.held, x < 256) : (∀ x ∈ (s.told e).1.held, x < 256) ∧ ∀ t ∈ (s.told e).2, ∀ x ∈ t, x < 256 := by
  unfold GS.told
  split
  · split
    · exact ⟨h, by simp⟩
    · exact ⟨by simp, by simpa using h⟩
  · exact ⟨h, by simp⟩
theorem goTo_bytes (fi n : Nat) (fs : List (List Nat)) (s : GS) (hs : ∀ x ∈ s.held, x < 256) (hf : ∀ f ∈ fs, ∀ x ∈ f, x < 256) (k : Nat) : (∀ x ∈ (goTo fi n fs s k).1.held, x < 256) ∧ ∀ t ∈ (goTo fi n fs s k).2, ∀ x ∈ t, x < 256 := by
  induction k with
  | zero => exact ⟨hs, by simp [goTo]⟩
  | succ k ih =>
    simp only [goTo]
    have hk : ∀ x ∈ fs.getD k [], x < 256 := by
      rw [List.getD_eq_getElem?_getD]
      rcases Nat.lt_or_ge k fs.length with h | h
      · rw [List.getElem?_eq_getElem h]
        exact hf _ (List.getElem_mem h)
      · rw [List.getElem?_eq_none h]
        simp
    have h1 := told_bytes (e := fin fi n k) (come_bytes (b := beg fi k) (e := fin fi n k) ih.1 hk)
    refine ⟨h1.1, fun t ht => ?_⟩
    rw [List.mem_append] at ht
    rcases ht with ht | ht
    · exact ih.2 t ht
    · exact h1.2 t ht
/-- what Put does that is not refused -/
def PutDone (B p : Nat) (hv : Value) (s' : GS) (told : List (List Nat)) (w : World) (e : Ending) (w' : World) : Prop :=
  ∃ hv' L A, e = .returned (.tuple #[.slice A L.length L.length, .int .i64 0]) ∧ texts L = told ∧ GRep B w' p hv' s' ∧ RSrc w' A L ∧ Only (GS1 p hv) w w' ∧ GNext w hv hv' ∧ (∃ C c, w'.ownsRow C 30 1 (.slice A L.length c) L.length (L.map RowB.v)) ∧ ∀ r ∈ L, TOk B w' hv' r
/-- between two fields -/
def GJ (B p gb tb C fi n : Nat) (fs : List (List Nat)) (s : GS) (hv : Value) (w : World) (k : Nat) (W : World) : Prop :=
  ∃ hv' tv' L', GInv B C p gb tb W hv' tv' (goTo fi n fs s k).1 L' ∧ texts L' = (goTo fi n fs s k).2 ∧ Only (GS1 p hv) w W ∧ GNext w hv hv' ∧ (∀ k, tv'.ownBlock = some k → w.heap.size ≤ k) ∧ C ≤ W.heap.size
theorem texts_getD {L : List RowB} {k : Nat} {r : RowB} (h : L[k]? = some r) : (texts L).getD k [] = r.bs := by
  rw [List.getD_eq_getElem?_getD, texts_at h]
  rfl
theorem rows_told {B C p gb tb : Nat} {W : World} {hv tv : Value} {s : GS} {L : List RowB} (h : GInv B C p gb tb W hv tv s L) (hb : ∀ t ∈ texts L, ∀ x ∈ t, x < 256) : ∃ A c, tv = .slice A L.length c ∧ L.length ≤ c ∧ RSrc W A L := by
  obtain ⟨_, _, _, h4, h5⟩ := h
  have hok : ∀ r ∈ L, r.ok W := fun r hr => by
    have h9 := h5 r hr
    obtain ⟨g, cs, _, _, _, k1, k2, _⟩ := id h9
    exact ⟨h9.src, k1, k2, hb r.bs (List.mem_map.2 ⟨r, hr, rfl⟩)⟩
  rcases h4.2 with ⟨rfl, h0⟩ | ⟨g, cap, cur, rfl, _, _, h1, _, _⟩
  · refine ⟨none, 0, by rw [h0], by omega, fun h9 => ?_⟩
    omega
  · refine ⟨some ⟨g, 0, none⟩, cap, rfl, h1, fun _ => ⟨_, rfl, fun k r hr => ⟨?_, hok r (List.mem_of_getElem? hr)⟩⟩⟩
    exact h4.cells (g := g) rfl k _ (by rw [List.getElem?_map, hr]; rfl)
theorem geach_put {B p gb tb C fi n cap : Nat} {A : Option Addr} {L : List RowB} {s : GS} {hv : Value} {w w3 : World} (hfi : fi ≤ 3) (hL : L.length = n) (hn0 : 0 < n) (hn : n ≤ 24) (hB : B ≤ w.heap.size) (htb : w.heap.size ≤ tb)
    (hs : ∀ W, Only (GS1 p hv) w W → RSrc W A L) (hlen : 2 ≤ fi → ∀ r, L[0]? = some r → r.bs.length ≤ 100000) (hlost : s.lost ≤ 100000) (hheld : s.held.length ≤ 1000) (h0 : GJ B p gb tb C fi n (texts L) s hv w 0 w3) :
    Calls Try.prog 167 #[.int .i64 fi, .slice A n cap, .func (.func 168) #[] #[.pointer (some ⟨gb, 0, none⟩), .pointer (some ⟨tb, 0, none⟩)]] w3 fun e w' => e = .returned (.tuple #[]) ∧ GJ B p gb tb C fi n (texts L) s hv w n w' := by
  refine geach_any fi n cap hfi (GJ B p gb tb C fi n (texts L) s hv w) w3 hL hn0 (by omega) h0 (fun k W h => ?_) (fun k W r hr h => ?_)
  · obtain ⟨_, _, _, _, _, h3, _⟩ := h
    exact hs W h3
  · obtain ⟨hv', tv', L', h1, h2, h3, h4, h5, h6⟩ := h
    have hk : k < n := by rw [← hL]; exact (List.getElem?_eq_some_iff.1 hr).1
    have hfa := goTo_facts fi n (texts L) s hheld k
    have hl' : L'.length ≤ 24 := by rw [← length_texts, h2]; omega
    refine (put1_any (beg fi k) (fin fi n k) r.bs.length r.cap h1 (by omega) (Nat.le_trans hB h3.size) h6 (by omega) (fun W' hb' => ?_) rfl ?_ (fun hbeg => ?_) hfa.1).mono ?_
    · obtain ⟨ad, _, hc⟩ := hs W' (h3.andThen hb' (fun k _ hk => Or.inl hk)) (by omega)
      exact (hc k r hr).2.1
    · obtain ⟨ad, _, hc⟩ := hs W h3 (by omega)
      have h9 := (hc k r hr).2
      have := h9.2.1
      have := h9.2.2.1
      omega
    · unfold beg at hbeg
      rw [Bool.or_eq_false_iff, decide_eq_false_iff_not, beq_eq_false_iff_ne] at hbeg
      obtain rfl : k = 0 := by omega
      exact hlen (by omega) r hr
    · rintro e W2 ⟨rfl, hv2, tv2, L2, g1, g2, g3, g4, g5, g6⟩
      refine ⟨rfl, hv2, tv2, L2, ?_, ?_, ?_, ?_, ?_, g6⟩
      · simp only [goTo]
        rw [texts_getD hr]
        exact g1
      · simp only [goTo]
        rw [texts_getD hr, g2, h2]
      · refine h3.andThen g3 (fun j hj hx => ?_)
        rcases hx with (hx | hx) | hx | hx
        · exact .inl hx
        · rcases h4 j hx with h9 | h9
          · exact .inr h9
          · omega
        · omega
        · have := h5 j hx; omega
      · intro j hj
        rcases g4 j hj with h9 | h9
        · exact h4 j h9
        · exact .inr (Nat.le_trans h3.size h9)
      · intro j hj
        rcases g5 j hj with h9 | h9
        · exact h5 j h9
        · exact Nat.le_trans h3.size h9
set_option maxRecDepth 100000 in
set_option maxHeartbeats 1600000 in
theorem gput_bad {B p : Nat} {w : World} {hv : Value} {s : GS} {A : Option Addr} {L : List RowB} (fi : Int) (n cap : Nat) (gap : Bool) (h : GRep B w p hv s) (hL : L.length = n) (hn : n ≤ 1000) (hs : RSrc w A L) (hno : okG fi (lens L) = false) :
    Calls Try.prog 31 #[.pointer (some ⟨p, 0, none⟩), .int .i64 fi, .slice A n cap, .bool gap] w fun e w' => e = .returned (.tuple #[.slice none 0 0, .int .i64 1]) ∧ Below w.heap.size w w' := by
  have HF := Lib.hid (gfault_any fi n cap (w.alloc (.cells #[.pointer (some ⟨p, 0, none⟩)] 50)) (h.1.more _) hL hn (hs.later (bl_alloc (Below.refl _ _) _)))
  rw [hno] at HF
  clear h hs hL hno
  go_enter Try.func31, Try.ntmps31
  go_wp2_with (go_at_call 165; (with_reducible refine (HF.out).mono ?_); rintro e w1 ⟨rfl, rfl⟩)
  go_ret2
  exact ⟨rfl, bl_alloc (Below.refl _ _) _⟩
theorem gj0 {B p gb : Nat} {w w2 : World} {hv hv2 : Value} {s2 : GS} {fi n : Nat} {fs : List (List Nat)} (h : GRep B w2 p hv2 s2) (hg : Row w2 gb 50 #[.pointer (some ⟨p, 0, none⟩)]) (ho : Only (GS1 p hv) w w2) (hn : GNext w hv hv2) :
    GJ B p gb w2.heap.size w2.heap.size fi n fs s2 hv w 0 (w2.alloc (.cells #[.slice none 0 0] 40)) :=
  ⟨hv2, .slice none 0 0, [], ⟨h.later (bl_alloc (Below.refl _ _) _), hg.more _, Row.made _ _ _, World.ownsRow_nil _ _ _ _, fun r hr => by cases hr⟩, rfl, ho.alloc _, hn, fun k hk => by simp [Value.ownBlock] at hk, by simp⟩
set_option maxRecDepth 100000 in
set_option maxHeartbeats 1600000 in
theorem gput_ok {B p : Nat} {w : World} {hv : Value} {s : GS} {A : Option Addr} {L : List RowB} (fi n cap : Nat) (gap : Bool) (h : GRep B w p hv s) (hL : L.length = n) (hB : B ≤ w.heap.size) (hs : ∀ W, Only (GS1 p hv) w W → RSrc W A L) (hok : okG fi (lens L) = true)
    (hlen : 2 ≤ fi → ∀ r, L[0]? = some r → r.bs.length ≤ 100000) (hlost : s.lost ≤ 10000) (hheld : s.held.length ≤ 1000) (hby : ∀ x ∈ s.held, x < 256) :
    Calls Try.prog 31 #[.pointer (some ⟨p, 0, none⟩), .int .i64 fi, .slice A n cap, .bool gap] w (PutDone B p hv (putG fi (texts L) gap s).1 (putG fi (texts L) gap s).2 w) := by
  have hok' := hok
  unfold okG at hok'
  simp only [Bool.and_eq_true, decide_eq_true_eq] at hok'
  obtain ⟨⟨⟨⟨_, hfi⟩, hn0⟩, h24⟩, _⟩ := hok'
  rw [length_lens, hL] at hn0 h24
  have hb0 := bl_alloc (Below.refl w.heap.size w) (.cells #[.pointer (some ⟨p, 0, none⟩)] 50)
  have HF := Lib.hid (gfault_any fi n cap (w.alloc (.cells #[.pointer (some ⟨p, 0, none⟩)] 50)) (h.1.more _) hL (by omega) (hs _ (Only.of_below hb0)))
  rw [hok, if_pos rfl] at HF
  have hbytes : ∀ f ∈ texts L, ∀ x ∈ f, x < 256 := by
    intro f hf
    obtain ⟨r, hr, rfl⟩ := List.mem_map.1 hf
    obtain ⟨j, hj⟩ := List.getElem?_of_mem hr
    obtain ⟨ad, _, hc⟩ := hs w (Only.refl _ _) (by omega)
    exact (hc j r hj).2.2.2.2
  have HROW := Lib.hid (Row.made w 50 #[.pointer (some ⟨p, 0, none⟩)])
  have k0 : (w.alloc (.cells #[.pointer (some ⟨p, 0, none⟩)] 50)).cell? ⟨w.heap.size, 0, none⟩ = some (.pointer (some ⟨p, 0, none⟩)) := HROW.out.read rfl
  -- what each leaves, told as the law tells it
  have fine : ∀ (s2 : GS) (gb tb C : Nat) (W : World), (∀ x ∈ s2.held, x < 256) → GJ B p gb tb C fi n (texts L) s2 hv w n W → ∃ (hv' : Value) (L2 : List RowB) (A2 : Option Addr) (c2 : Nat), W.cell? ⟨tb, 0, none⟩ = some (.slice A2 L2.length c2) ∧ L2.length ≤ c2 ∧
      PutDone B p hv (goG fi n 0 (texts L) s2).1 (goG fi n 0 (texts L) s2).2 w (.returned (.tuple #[.slice A2 L2.length L2.length, .int .i64 0])) W ∧ hv' = hv' := by
    intro s2 gb tb C W hb2 ⟨hv', tv', L', h1, h2, h3, h4, h5, h6⟩
    have hgb := goTo_bytes fi n (texts L) s2 hb2 hbytes n
    obtain ⟨A2, c2, rfl, q1, q2⟩ := rows_told h1 (by rw [h2]; exact hgb.2)
    have e := goTo_all fi n (texts L) s2
    rw [length_texts, hL] at e
    rw [← e]
    exact ⟨hv', L', A2, c2, h1.2.2.1.read rfl, q1, ⟨hv', L', A2, rfl, h2, h1.1, q2, h3, h4, ⟨C, c2, h1.2.2.2.1⟩, h1.2.2.2.2⟩, rfl⟩
  have HFI := Lib.hid fine
  have hput : putG fi (texts L) gap s = goG fi n 0 (texts L) (if gap then s.lose else s) := by unfold putG; rw [length_texts, hL]
  rw [hput]
  have HE := Lib.hid (fun (s2 : GS) (gb tb C : Nat) (w3 : World) (htb : w.heap.size ≤ tb) (hl1 : s2.lost ≤ 100000) (hl2 : s2.held.length ≤ 1000) h0 => geach_put (fi := fi) (p := p) (hv := hv) (w := w) (w3 := w3) (s := s2) (gb := gb) (tb := tb) (C := C) (cap := cap) (by omega) hL hn0 h24 hB htb hs hlen hl1 hl2 h0)
  have hh1 := h.later hb0
  have HLS := Lib.hid (glose_any hh1 (by omega))
  have HH := Lib.hid hh1
  have HO := Lib.hid (show Only (GS1 p hv) w (w.alloc (.cells #[.pointer (some ⟨p, 0, none⟩)] 50)) from Only.of_below hb0)
  clear hput fine h hs hL hok hbytes hlen hh1 hb0
  have HBY := Lib.hid hby
  have hcl := fun (A : Option Addr) (n c : Nat) (W : World) (hc : n ≤ c) => clipr_any (A := A) n c W hc
  have HCL := Lib.hid hcl
  clear hby hcl
  cases gap
  · have HJ := Lib.hid (gj0 (fi := fi) (n := n) (fs := texts L) HH.out HROW.out HO.out (GNext.refl w hv))
    have e1 : (w.alloc (.cells #[.pointer (some ⟨p, 0, none⟩)] 50)).heap.size = w.heap.size + 1 := by simp
    rw [e1] at HJ
    clear e1
    go_enter Try.func31, Try.ntmps31
    go_wp2_with (first
      | (go_at_call 165; (with_reducible refine (HF.out).mono ?_); rintro e w1 ⟨rfl, rfl⟩)
      | (go_at_call 167; (with_reducible refine (HE.out s w.heap.size (w.heap.size + 1) _ _ (Nat.le_succ _) (by omega) hheld HJ.out).mono ?_); rintro e w4 ⟨rfl, hj⟩; obtain ⟨hv', L2, A2, c2, k1, k2, k3, _⟩ := HFI.out s _ _ _ w4 HBY.out hj; (have HD := Lib.hid k3; clear hj k3))
      | (go_at_call 171; (with_reducible refine (HCL.out _ _ _ _ k2).mono ?_); rintro e w5 ⟨rfl, rfl⟩))
    go_ret2
    exact HD.out
  · have hll := s.lose_lost
    have HLH := Lib.hid (lose_held s)
    have HROW2 := Lib.hid (fun (W : World) (ho : Only (fun k => k = p) (w.alloc (.cells #[.pointer (some ⟨p, 0, none⟩)] 50)) W) (hne : w.heap.size ≠ p) => HROW.out.only ho hne)
    have hne : w.heap.size ≠ p := HROW.out.apart HH.out.1 (by decide)
    go_enter Try.func31, Try.ntmps31
    go_wp2_with (first
      | (go_at_call 165; (with_reducible refine (HF.out).mono ?_); rintro e w1 ⟨rfl, rfl⟩)
      | (go_at_call 166; (with_reducible refine (HLS.out).mono ?_); rintro e w2 ⟨rfl, hv2, h2, ho2, hg2⟩; (have R2 := Lib.hid (HROW2.out w2 ho2 hne); have H2 := Lib.hid h2; have O2 := Lib.hid ((HO.out).andThen ho2 (fun k _ hk => (Or.inl hk : GS1 p hv k))); have G2 := Lib.hid (show GNext w hv hv2 from fun k hk => (hg2 k hk).elim Or.inl (fun h9 => Or.inr (Nat.le_trans HO.out.size h9))); clear h2 ho2 hg2))
      | (go_at_call 167; (with_reducible refine (HE.out s.lose w.heap.size _ _ _ ?z1 ?z2 ?z3 (gj0 H2.out R2.out O2.out G2.out)).mono ?_); rotate_left 3; rintro e w4 ⟨rfl, hj⟩; obtain ⟨hv', L2, A2, c2, k1, k2, k3, _⟩ := HFI.out s.lose _ _ _ w4 (by rw [HLH.out]; simp) hj; (have HD := Lib.hid k3; clear hj k3))
      | (go_at_call 171; (with_reducible refine (HCL.out _ _ _ _ k2).mono ?_); rintro e w5 ⟨rfl, rfl⟩))
    · go_ret2
      exact HD.out
    all_goals (first | omega | (rw [HLH.out]; simp) | exact O2.out.size)
end Go.Proofs.Ytgdpjaojlhdhdaa
namespace Go.Proofs.Ytgdpjaojlhdhdaa
open Go.RowKit

theorem GRep.block_lt {B p : Nat} {w : World} {hv : Value} {s : GS} (h : GRep B w p hv s) : ∀ k, GS1 p hv k → k < w.heap.size := by
  intro k hk
  rcases hk with hk | hk
  · subst hk; exact h.1.inside
  · exact (own_block h.2 k hk).2
theorem GRep.block_ge {B p : Nat} {w : World} {hv : Value} {s : GS} (h : GRep B w p hv s) (hB : B ≤ p) : ∀ k, GS1 p hv k → B ≤ k := by
  intro k hk
  rcases hk with hk | hk
  · omega
  · exact (own_block h.2 k hk).1
/-- what was told lies in memory that the glue has left -/
def ToldIs (B : Nat) (w : World) (hv : Value) (A : Option Addr) (L : List RowB) : Prop :=
  (∃ C c, w.ownsRow C 30 1 (.slice A L.length c) L.length (L.map RowB.v)) ∧ ∀ r ∈ L, TOk B w hv r
theorem ToldIs.step {B p : Nat} {w v : World} {hv hv' : Value} {s : GS} {A : Option Addr} {L : List RowB} (h : ToldIs B w hv A L) (hp : GRep B w p hv s) (ho : Only (GS1 p hv) w v) (hg : GNext w hv hv') : ToldIs B v hv' A L := by
  obtain ⟨⟨C, c, a4⟩, a5⟩ := h
  refine ⟨⟨C, c, own_only a4 ho (fun k hk hx => ?_)⟩, fun r hr => (a5 r hr).step ho (fun g cs h6 h7 hx => ?_) hg⟩
  · rcases hx with hx | hx
    · subst hx; exact own_apart a4 hp.1 (by decide) hk
    · exact own_rows_apart a4 hp.2 (by decide) k hk hx
  · rcases hx with hx | hx
    · exact h6.apart hp.1 (by decide) hx
    · exact h7 hx
theorem ToldIs.later {B : Nat} {w v : World} {hv : Value} {A : Option Addr} {L : List RowB} (h : ToldIs B w hv A L) (hb : Below w.heap.size w v) : ToldIs B v hv A L := by
  obtain ⟨⟨C, c, a4⟩, a5⟩ := h
  exact ⟨⟨C, c, own_later2 a4 hb⟩, fun r hr => (a5 r hr).step (S := fun _ => False) (.of_below hb) (fun _ _ _ _ h => h) (GNext.refl _ _)⟩
theorem ToldIs.src {B : Nat} {w : World} {hv : Value} {A : Option Addr} {L : List RowB} (h : ToldIs B w hv A L) (hb : ∀ t ∈ texts L, ∀ x ∈ t, x < 256) : RSrc w A L := by
  obtain ⟨⟨C, c, h4⟩, h5⟩ := h
  have hok : ∀ r ∈ L, r.ok w := fun r hr => by
    have h9 := h5 r hr
    obtain ⟨g, cs, _, _, _, k1, k2, _⟩ := id h9
    exact ⟨h9.src, k1, k2, hb r.bs (List.mem_map.2 ⟨r, hr, rfl⟩)⟩
  rcases h4.2 with ⟨e, h0⟩ | ⟨g, cap, cur, e, _, _, h1, _, _⟩
  · intro h9
    omega
  · injection e with e1 e2 e3
    subst e1
    exact fun _ => ⟨_, rfl, fun k r hr => ⟨h4.cells (g := g) rfl k _ (by rw [List.getElem?_map, hr]; rfl), hok r (List.mem_of_getElem? hr)⟩⟩
theorem texts_one {L : List RowB} {t : List Nat} (h : texts L = [t]) : ∃ r, L = [r] ∧ r.bs = t := by
  match L, h with
  | [r], h =>
    refine ⟨r, rfl, ?_⟩
    simpa [texts] using h
theorem texts_nil {L : List RowB} (h : texts L = []) : L = [] := by
  simpa [texts] using h
/-- one text told -/
theorem PutDone.one {B p : Nat} {hv : Value} {s' : GS} {t : List Nat} {w w' : World} {e : Ending} (h : PutDone B p hv s' [t] w e w') : ∃ hv' ad r, e = .returned (.tuple #[.slice (some ad) 1 1, .int .i64 0]) ∧ r.bs = t ∧ GRep B w' p hv' s' ∧ Only (GS1 p hv) w w' ∧ GNext w hv hv' ∧ ToldIs B w' hv' (some ad) [r] := by
  obtain ⟨hv', L, A, rfl, h1, h2, h3, h4, h5, h6, h7⟩ := h
  obtain ⟨r, rfl, hr⟩ := texts_one h1
  obtain ⟨ad, rfl, _⟩ := h3 (by simp)
  exact ⟨hv', ad, r, rfl, hr, h2, h4, h5, h6, h7⟩
/-- nothing told -/
theorem PutDone.none {B p : Nat} {hv : Value} {s' : GS} {w w' : World} {e : Ending} (h : PutDone B p hv s' [] w e w') : ∃ hv' A, e = .returned (.tuple #[.slice A 0 0, .int .i64 0]) ∧ GRep B w' p hv' s' ∧ Only (GS1 p hv) w w' ∧ GNext w hv hv' := by
  obtain ⟨hv', L, A, rfl, h1, h2, h3, h4, h5, h6, h7⟩ := h
  obtain rfl := texts_nil h1
  exact ⟨hv', A, rfl, h2, h4, h5⟩
theorem fresh_row {B p g : Nat} {t : TypeId} {cs : Array Value} {W0 w W : World} {hv : Value} {s : GS} (h : Row w g t cs) (h0 : GRep B W0 p hv s) (hg : W0.heap.size ≤ g) (ho : Only (GS1 p hv) w W) : Row W g t cs :=
  h.only ho (fun hx => by have := h0.block_lt g hx; omega)
/-- a row, marked or not -/
def RowF (w : World) (g : Nat) (t : TypeId) (cs : Array Value) : Prop := ∃ fr, w.heap[g]? = some (.cells cs t fr)
theorem RowF.of {w : World} {g : Nat} {t : TypeId} {cs : Array Value} (h : Row w g t cs) : RowF w g t cs := ⟨_, h⟩
theorem RowF.inside {w : World} {g : Nat} {t : TypeId} {cs : Array Value} (h : RowF w g t cs) : g < w.heap.size := by
  obtain ⟨fr, h⟩ := h
  rcases Nat.lt_or_ge g w.heap.size with h1 | h1
  · exact h1
  · exfalso
    rw [Array.getElem?_eq_none h1] at h
    cases h
theorem RowF.made (w : World) (t : TypeId) (cs : Array Value) (fr : Nat × Nat) : RowF (w.alloc (.cells cs t fr)) w.heap.size t cs := ⟨fr, heap_alloc_new w _⟩
theorem RowF.made1 (w : World) (o : Obj) (t : TypeId) (cs : Array Value) (fr : Nat × Nat) : RowF ((w.alloc o).alloc (.cells cs t fr)) (w.heap.size + 1) t cs := by
  have h := RowF.made (w.alloc o) t cs fr
  have e : (w.alloc o).heap.size = w.heap.size + 1 := by simp
  rw [e] at h
  exact h
theorem RowF.only {S : Nat → Prop} {w v : World} {g : Nat} {t : TypeId} {cs : Array Value} (h : RowF w g t cs) (ho : Only S w v) (hg : ¬ S g) : RowF v g t cs := by
  have hi := h.inside
  obtain ⟨fr, h⟩ := h
  exact ⟨fr, (ho.same g hi hg).trans h⟩
theorem RowF.later {w v : World} {g : Nat} {t : TypeId} {cs : Array Value} (h : RowF w g t cs) (hb : Below w.heap.size w v) : RowF v g t cs := h.only (S := fun _ => False) (.of_below hb) (fun h => h)
theorem RowF.more {w : World} {g : Nat} {t : TypeId} {cs : Array Value} (h : RowF w g t cs) (o : Obj) : RowF (w.alloc o) g t cs := h.later (bl_alloc (Below.refl _ _) o)
theorem RowF.src {w : World} {g : Nat} {l : List Nat} (h : RowF w g 5 (bts l).toArray) : Src w (some ⟨g, 0, none⟩) (bts l) := fun _ => ⟨_, rfl, fun j u hu => by
  obtain ⟨fr, h⟩ := h
  rw [add_zero_addr]
  exact (cell_of_row w g j _ 5 fr h).trans (by rw [List.getElem?_toArray]; exact hu)⟩
theorem fresh_rowF {B p g : Nat} {t : TypeId} {cs : Array Value} {W0 w W : World} {hv : Value} {s : GS} (h : RowF w g t cs) (h0 : GRep B W0 p hv s) (hg : W0.heap.size ≤ g) (ho : Only (GS1 p hv) w W) : RowF W g t cs :=
  h.only ho (fun hx => by have := h0.block_lt g hx; omega)
theorem g_ok {w : World} {g : Nat} {l : List Nat} (h : RowF w g 5 (bts l).toArray) (hb : ∀ b ∈ l, b < 256) (hl : l.length ≤ 9223372036854775807) : RowB.ok w ⟨some ⟨g, 0, none⟩, l.length, l⟩ := ⟨h.src, Nat.le_refl _, hl, hb⟩
theorem g_rsrc {w : World} {g : Nat} {L : List RowB} (h : Row w g 30 (L.map RowB.v).toArray) (hok : ∀ r ∈ L, r.ok w) : RSrc w (some ⟨g, 0, none⟩) L := fun _ => ⟨_, rfl, fun k r hr => ⟨by
  rw [add_zero_addr]
  exact h.read (by rw [List.getElem?_toArray, List.getElem?_map, hr]; rfl), hok r (List.mem_of_getElem? hr)⟩⟩
theorem gput_lit1 {B p g1 g2 : Nat} {W0 w : World} {hv : Value} {s : GS} (fi : Nat) (gap : Bool) (b : Nat) (h0 : GRep B W0 p hv s) (hb : Below W0.heap.size W0 w) (hg1 : W0.heap.size ≤ g1) (hg2 : W0.heap.size ≤ g2) (hB : B ≤ W0.heap.size)
    (h1 : RowF w g1 5 #[.int .u8 (b : Nat)]) (h2 : Row w g2 30 #[.slice (some ⟨g1, 0, none⟩) 1 1]) (hb1 : b < 256) (hlost : s.lost ≤ 10000) (hheld : s.held.length ≤ 1000) (hby : ∀ x ∈ s.held, x < 256) (hfi : fi ≤ 3) :
    Calls Try.prog 31 #[.pointer (some ⟨p, 0, none⟩), .int .i64 fi, .slice (some ⟨g2, 0, none⟩) 1 1, .bool gap] w (PutDone B p hv (putG fi [[b]] gap s).1 (putG fi [[b]] gap s).2 w) :=
  gput_ok (L := [⟨some ⟨g1, 0, none⟩, 1, [b]⟩]) fi 1 1 gap (h0.later hb) rfl (Nat.le_trans hB hb.size) (fun W ho => g_rsrc (fresh_row h2 h0 hg2 ho) (fun r hr => by
    rw [List.mem_singleton] at hr
    subst hr
    exact g_ok (l := [b]) (fresh_rowF h1 h0 hg1 ho) (by simpa using hb1) (by simp))) (by
    unfold okG
    simp [lens]
    omega) (by
    intro _ r hr
    simp at hr
    subst hr
    simp) hlost hheld hby
theorem gput_lit2 {B p g1 g2 g3 : Nat} {W0 w : World} {hv : Value} {s : GS} (fi : Nat) (gap : Bool) (b c d : Nat) (h0 : GRep B W0 p hv s) (hb : Below W0.heap.size W0 w) (hg1 : W0.heap.size ≤ g1) (hg2 : W0.heap.size ≤ g2) (hg3 : W0.heap.size ≤ g3) (hB : B ≤ W0.heap.size)
    (h1 : RowF w g1 5 #[.int .u8 (b : Nat)]) (h2 : RowF w g2 5 #[.int .u8 (c : Nat), .int .u8 (d : Nat)]) (h3 : Row w g3 30 #[.slice (some ⟨g1, 0, none⟩) 1 1, .slice (some ⟨g2, 0, none⟩) 2 2]) (hb1 : b < 256) (hc1 : c < 256) (hd1 : d < 256) (hlost : s.lost ≤ 10000) (hheld : s.held.length ≤ 1000) (hby : ∀ x ∈ s.held, x < 256) (hfi : fi ≤ 3) :
    Calls Try.prog 31 #[.pointer (some ⟨p, 0, none⟩), .int .i64 fi, .slice (some ⟨g3, 0, none⟩) 2 2, .bool gap] w (PutDone B p hv (putG fi [[b], [c, d]] gap s).1 (putG fi [[b], [c, d]] gap s).2 w) :=
  gput_ok (L := [⟨some ⟨g1, 0, none⟩, 1, [b]⟩, ⟨some ⟨g2, 0, none⟩, 2, [c, d]⟩]) fi 2 2 gap (h0.later hb) rfl (Nat.le_trans hB hb.size) (fun W ho => g_rsrc (fresh_row h3 h0 hg3 ho) (fun r hr => by
    rw [List.mem_cons, List.mem_singleton] at hr
    rcases hr with rfl | rfl
    · exact g_ok (l := [b]) (fresh_rowF h1 h0 hg1 ho) (by simpa using hb1) (by simp)
    · exact g_ok (l := [c, d]) (fresh_rowF h2 h0 hg2 ho) (by simp; omega) (by simp))) (by
    unfold okG
    simp [lens]
    omega) (by
    intro _ r hr
    simp at hr
    subst hr
    simp) hlost hheld hby
end Go.Proofs.Ytgdpjaojlhdhdaa
namespace Go.Proofs.Ytgdpjaojlhdhdaa
open Go.RowKit

theorem RowF.q {B : Nat} {w v : World} {g : Nat} {t : TypeId} {cs : Array Value} (h : RowF w g t cs) (h1 : t ≠ 170) (h2 : t ≠ 284) (ho : QOnly B w v) : RowF v g t cs :=
  h.only ho (fun ⟨_, t', cs', hr, ht⟩ => by
    obtain ⟨fr, h⟩ := h
    unfold Row at hr
    rw [h] at hr
    injection hr with hr
    injection hr with _ hr
    subst hr
    rcases ht with ht | ht
    · exact h1 ht
    · exact h2 ht)
theorem qb_src {w : World} {g : Nat} {l : List Nat} (h : QBytes w g l) : Src w (some ⟨g, 0, none⟩) (bts l) := by
  obtain ⟨cs, h1, h2⟩ := h
  intro _
  refine ⟨_, rfl, fun j u hu => ?_⟩
  have hj : j < l.length := by have := (List.getElem?_eq_some_iff.1 hu).1; rw [length_bts] at this; exact this
  have hb := bts_at (List.getElem?_eq_getElem hj)
  rw [hu] at hb
  injection hb with hb
  rw [hb, add_zero_addr]
  exact h1.read (h2 j _ (List.getElem?_eq_getElem hj))
theorem qb_conv {w : World} {g : Nat} {l : List Nat} (n c : Nat) (hl : l.length = n) (h : QBytes w g l) (hb : ∀ b ∈ l, b < 256) : (convert 30 9 (.slice (some ⟨g, 0, none⟩) n c)).run Try.prog w = .ok (.string (strOf l)) w := conv_src n c hl (qb_src h) hb
def us1 : Cf := ⟨1, 5, 16, 4, 0, 0, 0, 0, 0, 5000⟩
theorem us1_any (w : World) : Calls Try.prog 28 #[.int .i64 1] w fun e w' => e = .returned (.agg us1.a) ∧ Below w.heap.size w w' := pusual_any 1 w
end Go.Proofs.Ytgdpjaojlhdhdaa
namespace Go.Proofs.Ytgdpjaojlhdhdaa
open Go.RowKit

section
variable {W w v : World} {x q B : Nat} {c : Cf} {sn wd last : Nat} {ts : List Txt}
theorem OwnY.u {y : Value} {l : List Nat} {cs : Array Value} (h : OwnY B w y l) (hx : Row w x 202 cs) {D : Nat} (ho : UOnly D x w v) : OwnY B v y l := h.only ho (fun k hk hq => by
  rcases hq with ⟨_, t, cs', h1, h2⟩ | hq
  · exact own_apart h h1 (by rintro rfl; rcases h2 with h2 | h2 <;> exact absurd h2 (by decide)) hk
  · subst hq
    exact own_apart h hx (by decide) hk)
theorem US.push_const (h : US W w x q c sn wd last ts) (l : List Nat) (n : Nat) (fr : Nat × Nat) (hn : l.length = n) (hlast : last ≤ 1000000) (h0 : 0 < n) (h1 : n ≤ 1000) (hm : ts.length < 64) (hf : (bytesF ts : Int) + n ≤ c.qb) (hb : ∀ b ∈ l, b < 256) :
    Calls Try.prog 22 #[.pointer (some ⟨x, 0, none⟩), .slice (some ⟨w.heap.size, 0, none⟩) n n] (w.alloc (.cells (bts l).toArray 5 fr)) fun e w' => e = .returned (.tuple #[.int .u64 (last + 1 : Nat), .int .i64 0]) ∧ ∃ t : Txt, t.id = last + 1 ∧ t.bs = l ∧ t.bg = false ∧ US W w' x q c sn wd (last + 1) (ts ++ [t]) := by
  have hbl := bl_alloc (Below.refl w.heap.size w) (.cells (bts l).toArray 5 fr)
  have h' := h.later hbl
  refine (upush_all (some ⟨w.heap.size, 0, none⟩) l n n hn h'.snd h'.qs (by have := h.hr; omega) h.hr2 (by omega) (by omega) hb (fun V V' hV hq => csrc_mark w l fr V' ((QOnly.of_below hV).trans hq))).mono ?_
  rintro e w' ⟨w1, hb1, nid, er, rfl, ho, ⟨rfl, h2, h3, h4, h5, h6, t, k1, k2, k3, k4⟩ | ⟨h2, h3, h4, h5⟩⟩
  · have hoo : QOnly W.heap.size _ w' := (QOnly.of_below hb1).trans ho
    subst h2
    exact ⟨rfl, t, k1, k2, k3.1, h'.next (hoo.row h'.snd (by decide) (by decide)) k4 (UOnly.of_q hoo) h.hsn⟩
  · exfalso
    rw [hn] at h5
    omega
theorem US.bld {g room : Int} {k : Nat} {n : Int} (h : US W w x q c sn wd last ts) (hg : min g 4000 - c.bits / 5 = room) (hb : Bld room 11 (lenT ts) k n) (hf : faultU g (bytesF ts : Nat) c.bits = 0) :
    Calls Try.prog 24 #[.pointer (some ⟨x, 0, none⟩), .int .i64 g] w fun e w' => ∃ (f : Nat) (ts' : List Txt) (D : Option Addr) (L : List RowB) (A : Option Addr) (m cp : Nat), e = .returned (.tuple #[.slice A m cp, .slice D k k, .int .i64 0]) ∧ fiT ts n = (f : Int) ∧ (umdBytes f sn L wd).length = m ∧ OwnY w.heap.size w' (.slice A m cp) (umdBytes f sn L wd) ∧ texts L = fieldsT (ts.map Txt.bs) k n ∧ RestT ts k n ts' ∧ US W w' x q c ((sn + 1) % 2 ^ wd) wd last ts' ∧ UOnly W.heap.size x w w' := by
  refine (h.build g hf).mono ?_
  rintro e w' ⟨k2, f, n2, ts', D, L, v, rfl, e2, e3, e4, e5, e6, e7, e8, e9, e10, e11, e12⟩
  rw [hg] at e7
  obtain ⟨rfl, rfl⟩ := e7.only hb (lenT_pos (fun t ht => (h.qs.bytes t ht).1))
  obtain ⟨A, cp, rfl, _⟩ := e3.form
  exact ⟨f, ts', D, L, A, _, cp, rfl, e2, rfl, e3, e6, e8, e10, e12⟩
end
theorem ub1 : Bld 1 11 [2] 0 1 := ⟨by decide, fun i l hi hl => by omega, by decide, by decide⟩
theorem ub2 : Bld 1 11 [1] 1 (-2) := ⟨by decide, fun i l hi hl => by
  match i, hi, hl with
  | 0, _, hl => simp at hl; subst hl; decide, by decide, by decide⟩
def us5 : Cf := ⟨1, 5, 16, 4, 0, 0, 0, 0, 0, 5000⟩
theorem one_text {L : List RowB} {a : Nat} (h : texts L = [[a]]) : lens L = [1] ∧ flat L = [a] ∧ L.length = 1 := by
  refine ⟨by rw [lens_texts, h]; rfl, by unfold flat; rw [h]; rfl, ?_⟩
  have := congrArg List.length h
  simpa [texts] using this
theorem ubytes1 {L : List RowB} (h : texts L = [[97]]) : umdBytes 1 0 L 5 = [64, 97] := by
  obtain ⟨h1, h2, h3⟩ := one_text h
  unfold umdBytes
  rw [h1, h2, h3]
  decide +kernel
theorem ubytes2 {L : List RowB} (h : texts L = [[98]]) : umdBytes 2 1 L 5 = [129, 98] := by
  obtain ⟨h1, h2, h3⟩ := one_text h
  unfold umdBytes
  rw [h1, h2, h3]
  decide +kernel
section
variable {W w v : World} {x q B : Nat} {t : Txt}
theorem ual_b1 (h : US W w x q us5 0 5 1 [t]) (hb : t.bs = [97, 98]) (hg : t.bg = false) : Calls Try.prog 24 #[.pointer (some ⟨x, 0, none⟩), .int .i64 2] w fun e w' => ∃ (D A : Option Addr) (cp : Nat) (t' : Txt), e = .returned (.tuple #[.slice A 2 cp, .slice D 0 0, .int .i64 0]) ∧ OwnY w.heap.size w' (.slice A 2 cp) [64, 97] ∧ t'.bs = [98] ∧ t'.bg = true ∧ US W w' x q us5 1 5 1 [t'] := by
  refine (h.bld (g := 2) (room := 1) (k := 0) (n := 1) (by decide) (by rw [show lenT [t] = [2] by simp [lenT, hb]]; exact ub1) (by simp [bytesF, hb]; decide)).mono ?_
  rintro e w' ⟨f, ts', D, L, A, m, cp, rfl, e2, e3, e4, e5, e6, e7, e8⟩
  have hf : f = 1 := by
    rw [fiT_pos (ts := [t]) (b := false) (n := 1) hg (by omega)] at e2
    simp at e2
    omega
  subst hf
  have hbb := ubytes1 (L := L) (by rw [e5]; simp [fieldsT, hb])
  rw [hbb] at e3 e4
  simp at e3
  subst e3
  rcases e6 with ⟨h9, _⟩ | ⟨_, t0, t', k1, k2, k3, k4, k5⟩
  · omega
  · simp at k1
    subst k1
    simp at k5
    subst k5
    exact ⟨D, A, cp, t', rfl, e4, by rw [k3, hb]; rfl, k4.1, e7⟩
theorem ual_b2 (h : US W w x q us5 1 5 1 [t]) (hb : t.bs = [98]) (hg : t.bg = true) : Calls Try.prog 24 #[.pointer (some ⟨x, 0, none⟩), .int .i64 2] w fun e w' => ∃ (D A : Option Addr) (cp : Nat), e = .returned (.tuple #[.slice A 2 cp, .slice D 1 1, .int .i64 0]) ∧ OwnY w.heap.size w' (.slice A 2 cp) [129, 98] ∧ US W w' x q us5 2 5 1 [] ∧ UOnly W.heap.size x w w' := by
  refine (h.bld (g := 2) (room := 1) (k := 1) (n := -2) (by decide) (by rw [show lenT [t] = [1] by simp [lenT, hb]]; exact ub2) (by simp [bytesF, hb]; decide)).mono ?_
  rintro e w' ⟨f, ts', D, L, A, m, cp, rfl, e2, e3, e4, e5, e6, e7, e8⟩
  have hf : f = 2 := by
    rw [fiT_zero (ts := [t]) (b := true) (n := -2) hg (by omega)] at e2
    simp at e2
    omega
  subst hf
  have hbb := ubytes2 (L := L) (by rw [e5]; simp [fieldsT, hb])
  rw [hbb] at e3 e4
  simp at e3
  subst e3
  rcases e6 with ⟨_, h9⟩ | ⟨h9, _⟩
  · simp at h9
    subst h9
    exact ⟨D, A, cp, rfl, e4, e7, e8⟩
  · omega
theorem ual_b3 (h : US W w x q us5 2 5 1 []) : Calls Try.prog 24 #[.pointer (some ⟨x, 0, none⟩), .int .i64 2] w fun e w' => e = .returned (.tuple #[.slice none 0 0, .slice none 0 0, .int .i64 4]) ∧ Below w.heap.size w w' ∧ US W w' x q us5 2 5 1 [] :=
  (ubuild_bad 2 h.snd h.qs.q (by decide) h.bits (by simp [bytesF]) (by decide)).mono fun _ _ ⟨h1, h2⟩ => ⟨h1, h2, h.later h2⟩
theorem ual_p (h : US W w x q us5 0 5 0 []) : Calls Try.prog 22 #[.pointer (some ⟨x, 0, none⟩), .slice (some ⟨w.heap.size, 0, none⟩) 2 2] (w.alloc (.cells #[.int .u8 97, .int .u8 98] 5 (2, 3))) fun e w' => e = .returned (.tuple #[.int .u64 1, .int .i64 0]) ∧ ∃ t : Txt, t.id = 1 ∧ t.bs = [97, 98] ∧ t.bg = false ∧ US W w' x q us5 0 5 1 [t] :=
  h.push_const [97, 98] 2 (2, 3) rfl (by omega) (by omega) (by omega) (by simp) (by decide) (by simp)
theorem us5_any (w : World) : Calls Try.prog 28 #[.int .i64 1] w fun e w' => e = .returned (.agg us5.a) ∧ Below w.heap.size w w' := pusual_any 1 w
set_option maxRecDepth 100000 in
set_option maxHeartbeats 3200000 in
theorem ualive_any (w : World) : Calls Try.prog 21 #[] w fun e w' => e = .returned (.bool true) ∧ Below w.heap.size w w' := by
  have kc := fun w => Lib.run_convert_bytes_const (P := Try.prog) w 30 5 #[.int .u8 97, .int .u8 98] 2 2 Try.underlying30 Try.underlying5
  have HU := Lib.hid us5_any
  have HN := Lib.hid (fun w => us_new us5 w (by decide +kernel) rfl)
  generalize us5.a = u5 at *
  go_enter Try.func21, Try.ntmps21
  go_wp2_with (first
    | (go_at_call 28; (with_reducible refine (HU.out _).mono ?_); rintro e w1 ⟨rfl, hb1⟩; (have HB1 := Lib.hid hb1; clear hb1))
    | (go_at_call 20; (with_reducible refine (HN.out _).mono ?_); rintro e w2 ⟨x, q, wd, rfl, h2⟩; (obtain rfl : wd = 5 := (by have h9 := h2.hcb; have h8 : us5.bits = 5 := rfl; omega); have H2 := Lib.hid h2; have HPU := Lib.hid (ual_p h2); clear h2))
    | (go_at_call 22; (with_reducible refine HPU.out.mono ?_); rintro e w3 ⟨rfl, t, ht1, ht2, ht3, h3⟩; (have HP1 := Lib.hid (ual_b1 h3 ht2 ht3); clear ht1 ht2 ht3 h3))
    | (go_at_call 24; (with_reducible refine HP1.out.mono ?_); rintro e w4 ⟨D4, A4, c4, t4, rfl, ho4, ht4, hg4, h4⟩; (have HO4 := Lib.hid ho4; have H4 := Lib.hid h4; have HP2 := Lib.hid (ual_b2 h4 ht4 hg4); clear ho4 ht4 hg4 h4))
    | (go_at_call 24; (with_reducible refine HP2.out.mono ?_); rintro e w5 ⟨D5, A5, c5, rfl, ho5, h5, hu5⟩; (have HO45 := Lib.hid (HO4.out.u H4.out.snd hu5); have HO5 := Lib.hid ho5; have HP3 := Lib.hid (ual_b3 h5); clear ho5 h5 hu5))
    | (go_at_call 24; (with_reducible refine HP3.out.mono ?_); rintro e w6 ⟨rfl, hb6, h6⟩; (have cv5 := (HO45.out.later hb6).conv (by simp); have cv6 := (HO5.out.later hb6).conv (by simp); have z2 : strOf [64, 97] = ⟨#[64, 97]⟩ := rfl; have z3 : strOf [129, 98] = ⟨#[129, 98]⟩ := rfl; rw [z2] at cv5; rw [z3] at cv6; have H6 := Lib.hid h6; have HNX := Lib.hid h6.nx; clear z2 z3 h6 hb6))
    | (go_at_call 27; (with_reducible refine HNX.out.mono ?_); rintro e w7 ⟨rfl, rfl⟩))
  go_ret
  exact ⟨rfl, bl_step HB1.out H6.out.bl⟩
end
end Go.Proofs.Ytgdpjaojlhdhdaa
