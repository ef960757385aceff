/-
  Whether two packets of amd are equal, as the code and the document say. A head of amd: what the document says that it tells. The document's Read answers as the code's. The document's answer for fields behind a head.
-/
import Derived.Test.YtgdpjaojlhdhdaaJAmdWrites09
import Derived.Test.YtgdpjaojlhdhdaaJAmdWrites14
import Derived.Test.YtgdpjaojlhdhdaaJAmdWrites06
import Derived.Test.YtgdpjaojlhdhdaaJAmdWrites04
import Derived.Test.YtgdpjaojlhdhdaaJAmdWrites10
namespace Go.Proofs.Ytgdpjaojlhdhdaa
open Go.RowKit

theorem Try.inforef10 : (Try.prog.info? 60).map (·.size) = some 7 := by kernel_rfl
theorem Try.underref10 : (Try.prog.underlying 60).map (fun d => match d with | .struct _ => true | _ => false) = some true := by kernel_rfl
theorem underref10_parts : ∃ fs, Try.prog.underlying 60 = some (.struct fs) := by
  obtain ⟨d, hd, h⟩ := Option.map_eq_some_iff.1 Try.underref10
  cases d with
  | struct fs => exact ⟨fs, hd⟩
  | _ => simp at h
set_option maxRecDepth 100000 in
set_option maxHeartbeats 1600000 in
theorem aas_any (poll part last : Bool) (fi sn off : Int) (A : Option Addr) (n cap : Nat) (w : World) :
    Calls Try.prog 37 #[.agg #[.bool poll, .int .i64 fi, .int .i64 sn, .bool part, .bool last, .int .i64 off, .slice A n cap]] w fun e w' => e = .returned (.agg #[.bool poll, .int .i64 fi, .int .i64 sn, .bool part, .bool last, .int .i64 off, .slice A n cap]) ∧ Below w.heap.size w w' := by
  go_enter Try.func37, Try.ntmps37
  go_wp2
  refine bodyPost_ret (v := .agg #[.bool poll, .int .i64 fi, .int .i64 sn, .bool part, .bool last, .int .i64 off, .slice A n cap]) (by simp [results, Try.results37, go_sem]) rfl ⟨rfl, ?_⟩
  exact bl_alloc (bl_alloc (Below.refl _ _) _) _
/-- all fields equal -/
def eqA (poll part last : Bool) (fi sn off : Int) (poll' part' last' : Bool) (fi' sn' off' : Int) (t t' : List (List Nat)) : Bool := (poll == poll') && (fi == fi') && (sn == sn') && (part == part') && (last == last') && (off == off') && decide (t = t')
theorem eqA_self (poll part last : Bool) (fi sn off : Int) (t : List (List Nat)) : eqA poll part last fi sn off poll part last fi sn off t t = true := by simp [eqA]
set_option maxRecDepth 100000 in
set_option maxHeartbeats 1600000 in
theorem rasame_any {A B : Option Addr} {L M : List RowB} (poll part last : Bool) (fi sn off : Int) (poll' part' last' : Bool) (fi' sn' off' : Int) (n m cap capb : Nat) (w : World) (hL : L.length = n) (hM : M.length = m) (hn : n ≤ 9223372036854775807) (hs : RSrc w A L) (hs' : RSrc w B M) :
    Calls Try.prog 36 #[.agg #[.bool poll, .int .i64 fi, .int .i64 sn, .bool part, .bool last, .int .i64 off, .slice A n cap], .agg #[.bool poll', .int .i64 fi', .int .i64 sn', .bool part', .bool last', .int .i64 off', .slice B m capb]] w (SameAns (eqA poll part last fi sn off poll' part' last' fi' sn' off' (texts L) (texts M)) w) := by
  have HF := Lib.hid (fun W (hb : Below w.heap.size w W) => samef_any (A := A) (B := B) n m cap capb W hL hM hn (hs.later hb) (hs'.later hb))
  have HE := Lib.hid (show eqA poll part last fi sn off poll' part' last' fi' sn' off' (texts L) (texts M) = ((poll == poll') && (fi == fi') && (sn == sn') && (part == part') && (last == last') && (off == off') && decide (texts L = texts M)) from rfl)
  generalize eqA poll part last fi sn off poll' part' last' fi' sn' off' (texts L) (texts M) = q at *
  generalize decide (texts L = texts M) = q2 at *
  clear hL hM hs hs'
  cases h1 : (poll == poll')
  · have HQ := Lib.hid (show q = false by rw [HE.out, h1]; simp)
    go_enter Try.func36, Try.ntmps36
    go_wp2
    go_ret
    exact ⟨by rw [HQ.out]; rfl, bl_alloc (bl_alloc (Below.refl _ _) _) _⟩
  · skip
    cases h2 : (fi == fi')
    · have HQ := Lib.hid (show q = false by rw [HE.out, h1, h2]; simp)
      go_enter Try.func36, Try.ntmps36
      go_wp2
      go_ret
      exact ⟨by rw [HQ.out]; rfl, bl_alloc (bl_alloc (Below.refl _ _) _) _⟩
    · skip
      cases h3 : (sn == sn')
      · have HQ := Lib.hid (show q = false by rw [HE.out, h1, h2, h3]; simp)
        go_enter Try.func36, Try.ntmps36
        go_wp2
        go_ret
        exact ⟨by rw [HQ.out]; rfl, bl_alloc (bl_alloc (Below.refl _ _) _) _⟩
      · skip
        cases h4 : (part == part')
        · have HQ := Lib.hid (show q = false by rw [HE.out, h1, h2, h3, h4]; simp)
          go_enter Try.func36, Try.ntmps36
          go_wp2
          go_ret
          exact ⟨by rw [HQ.out]; rfl, bl_alloc (bl_alloc (Below.refl _ _) _) _⟩
        · skip
          cases h5 : (last == last')
          · have HQ := Lib.hid (show q = false by rw [HE.out, h1, h2, h3, h4, h5]; simp)
            go_enter Try.func36, Try.ntmps36
            go_wp2
            go_ret
            exact ⟨by rw [HQ.out]; rfl, bl_alloc (bl_alloc (Below.refl _ _) _) _⟩
          · skip
            cases h6 : (off == off')
            · have HQ := Lib.hid (show q = false by rw [HE.out, h1, h2, h3, h4, h5, h6]; simp)
              go_enter Try.func36, Try.ntmps36
              go_wp2
              go_ret
              exact ⟨by rw [HQ.out]; rfl, bl_alloc (bl_alloc (Below.refl _ _) _) _⟩
            · skip
              have HQ := Lib.hid (show q = q2 by rw [HE.out, h1, h2, h3, h4, h5, h6]; cases q2 <;> rfl)
              go_enter Try.func36, Try.ntmps36
              go_wp2_with (go_at_call 79; refine (HF.out _ (bl_alloc (bl_alloc (Below.refl _ _) _) _)).mono ?_; rintro e w1 ⟨rfl, hb1⟩)
              go_ret
              exact ⟨by rw [HQ.out]; rfl, bl_step (bl_alloc (bl_alloc (Below.refl _ _) _) _) hb1⟩
set_option maxRecDepth 100000 in
set_option maxHeartbeats 1600000 in
theorem asame_any {A B : Option Addr} {L M : List RowB} (poll part last : Bool) (fi sn off : Int) (poll' part' last' : Bool) (fi' sn' off' : Int) (n m cap capb : Nat) (w : World) (hL : L.length = n) (hM : M.length = m) (hn : n ≤ 9223372036854775807) (hs : RSrc w A L) (hs' : RSrc w B M) :
    Calls Try.prog 43 #[.agg #[.bool poll, .int .i64 fi, .int .i64 sn, .bool part, .bool last, .int .i64 off, .slice A n cap], .agg #[.bool poll', .int .i64 fi', .int .i64 sn', .bool part', .bool last', .int .i64 off', .slice B m capb]] w (SameAns (eqA poll part last fi sn off poll' part' last' fi' sn' off' (texts L) (texts M)) w) := by
  have HF := Lib.hid (fun W (hb : Below w.heap.size w W) => fsame_any (A := A) (B := B) n m cap capb W hL hM hn (hs.later hb) (hs'.later hb))
  have HE := Lib.hid (show eqA poll part last fi sn off poll' part' last' fi' sn' off' (texts L) (texts M) = ((poll == poll') && (fi == fi') && (sn == sn') && (part == part') && (last == last') && (off == off') && decide (texts L = texts M)) from rfl)
  generalize eqA poll part last fi sn off poll' part' last' fi' sn' off' (texts L) (texts M) = q at *
  generalize decide (texts L = texts M) = q2 at *
  clear hL hM hs hs'
  cases h1 : (poll == poll')
  · have HQ := Lib.hid (show q = false by rw [HE.out, h1]; simp)
    go_enter Try.func43, Try.ntmps43
    go_wp2
    go_ret
    exact ⟨by rw [HQ.out]; rfl, bl_alloc (bl_alloc (Below.refl _ _) _) _⟩
  · skip
    cases h2 : (fi == fi')
    · have HQ := Lib.hid (show q = false by rw [HE.out, h1, h2]; simp)
      go_enter Try.func43, Try.ntmps43
      go_wp2
      go_ret
      exact ⟨by rw [HQ.out]; rfl, bl_alloc (bl_alloc (Below.refl _ _) _) _⟩
    · skip
      cases h3 : (sn == sn')
      · have HQ := Lib.hid (show q = false by rw [HE.out, h1, h2, h3]; simp)
        go_enter Try.func43, Try.ntmps43
        go_wp2
        go_ret
        exact ⟨by rw [HQ.out]; rfl, bl_alloc (bl_alloc (Below.refl _ _) _) _⟩
      · skip
        cases h4 : (part == part')
        · have HQ := Lib.hid (show q = false by rw [HE.out, h1, h2, h3, h4]; simp)
          go_enter Try.func43, Try.ntmps43
          go_wp2
          go_ret
          exact ⟨by rw [HQ.out]; rfl, bl_alloc (bl_alloc (Below.refl _ _) _) _⟩
        · skip
          cases h5 : (last == last')
          · have HQ := Lib.hid (show q = false by rw [HE.out, h1, h2, h3, h4, h5]; simp)
            go_enter Try.func43, Try.ntmps43
            go_wp2
            go_ret
            exact ⟨by rw [HQ.out]; rfl, bl_alloc (bl_alloc (Below.refl _ _) _) _⟩
          · skip
            cases h6 : (off == off')
            · have HQ := Lib.hid (show q = false by rw [HE.out, h1, h2, h3, h4, h5, h6]; simp)
              go_enter Try.func43, Try.ntmps43
              go_wp2
              go_ret
              exact ⟨by rw [HQ.out]; rfl, bl_alloc (bl_alloc (Below.refl _ _) _) _⟩
            · skip
              have HQ := Lib.hid (show q = q2 by rw [HE.out, h1, h2, h3, h4, h5, h6]; cases q2 <;> rfl)
              go_enter Try.func43, Try.ntmps43
              go_wp2_with (go_at_call 187; refine (HF.out _ (bl_alloc (bl_alloc (Below.refl _ _) _) _)).mono ?_; rintro e w1 ⟨rfl, hb1⟩)
              go_ret
              exact ⟨by rw [HQ.out]; rfl, bl_step (bl_alloc (bl_alloc (Below.refl _ _) _) _) hb1⟩
end Go.Proofs.Ytgdpjaojlhdhdaa
namespace Go.Proofs.Ytgdpjaojlhdhdaa
open Go.RowKit

theorem rwidths_any (wd : Int) (w : World) : Calls Try.prog 177 #[.int .i64 wd] w fun e w' => e = .returned (.tuple #[.int .i64 (lwA wd), .int .i64 (owA wd)]) ∧ w = w' := by
  by_cases h5 : wd = 10
  · subst h5
    go_enter Try.func177, Try.ntmps177
    go_wp2
    go_ret2
    exact ⟨rfl, rfl⟩
  · have h1 : (wd == 10) = false := by simpa using h5
    have HH := Lib.hid (show lwA wd = 15 ∧ owA wd = 16 by unfold lwA owA; rw [if_neg h5, if_neg h5]; exact ⟨rfl, rfl⟩)
    clear h5
    go_enter Try.func177, Try.ntmps177
    go_wp2
    go_ret2
    exact ⟨by rw [HH.out.1, HH.out.2]; rfl, rfl⟩
theorem SrcB.bitc {w : World} {b off : Nat} {hd : List Nat} (h : SrcB w (some ⟨b, off, none⟩) (bls (bitsOf hd))) (k : Nat) (hk : k < 8 * hd.length) : w.cell? ⟨b, off + k, none⟩ = some (.bool (bitAt hd k)) := by
  obtain ⟨b', off', hA, hc⟩ := h (by rw [length_bls, length_bitsOf]; omega)
  injection hA with hA
  injection hA with h1 h2
  subst h1
  subst h2
  exact hc _ _ (bls_at (bitAt_get hk))
theorem cell_in {w : World} {b o : Nat} {x : Value} (h : w.cell? ⟨b, o, none⟩ = some x) : b < w.heap.size := by
  rcases Nat.lt_or_ge b w.heap.size with h1 | h1
  · exact h1
  · exfalso
    simp [World.cell?, Array.getElem?_eq_none h1] at h
theorem cells_ref10 {w : World} {g : Nat} {a b c d e f s : Value} (hr : Row w g 60 #[a, b, c, d, e, f, s]) :
    (w.cell? ⟨g, 0, none⟩ = some a ∧ w.cell? ⟨g, 1, none⟩ = some b ∧ w.cell? ⟨g, 2, none⟩ = some c ∧ w.cell? ⟨g, 3, none⟩ = some d ∧ w.cell? ⟨g, 4, none⟩ = some e ∧ w.cell? ⟨g, 5, none⟩ = some f ∧ w.cell? ⟨g, 6, none⟩ = some s) ∧
    (w.frozen? ⟨g, 0, none⟩ = false ∧ w.frozen? ⟨g, 1, none⟩ = false ∧ w.frozen? ⟨g, 2, none⟩ = false ∧ w.frozen? ⟨g, 3, none⟩ = false ∧ w.frozen? ⟨g, 4, none⟩ = false ∧ w.frozen? ⟨g, 5, none⟩ = false ∧ w.frozen? ⟨g, 6, none⟩ = false) :=
  ⟨⟨hr.read rfl, hr.read rfl, hr.read rfl, hr.read rfl, hr.read rfl, hr.read rfl, hr.read rfl⟩, hr.free _, hr.free _, hr.free _, hr.free _, hr.free _, hr.free _, hr.free _⟩
end Go.Proofs.Ytgdpjaojlhdhdaa
namespace Go.Proofs.Ytgdpjaojlhdhdaa
open Go.RowKit

/-- what the document's Read answers: its list may have room behind -/
def RrAns (w : World) (bs : List Nat) (wd : Nat) (e : Ending) (w' : World) : Prop :=
  (((readF bs wd).2.2 = 0 ∧ ∃ u, e = .returned (.tuple #[u, .int .i64 ((readF bs wd).2.1 : Nat), .int .i64 0]) ∧ w'.ownsRow w.heap.size 3 1 u (readF bs wd).1.length (insN (readF bs wd).1)) ∨
   ((readF bs wd).2.2 ≠ 0 ∧ e = .returned (.tuple #[.slice none 0 0, .int .i64 0, .int .i64 (readF bs wd).2.2]))) ∧ Below w.heap.size w w'
theorem rr_bad {w w' : World} {bs : List Nat} {wd : Nat} {er : Int} (h : prs wd 23 (bitsOf bs) = ([], 0, er)) (h0 : er ≠ 0) (hb : Below w.heap.size w w') : RrAns w bs wd (.returned (.tuple #[.slice none 0 0, .int .i64 0, .int .i64 er])) w' := by
  have h1 : readF bs wd = ([], 0, er) := by
    unfold readF
    rw [h]
    simp [h0]
  unfold RrAns
  rw [h1]
  exact ⟨.inr ⟨h0, rfl⟩, hb⟩
theorem rr_form {w w' : World} {bs l : List Nat} {wd a : Nat} (h : prs wd 23 (bitsOf bs) = (l, a, 0)) (hq : quiet (bitsOf bs) a = false) (hb : Below w.heap.size w w') : RrAns w bs wd (.returned (.tuple #[.slice none 0 0, .int .i64 0, .int .i64 3])) w' := by
  have h1 : readF bs wd = ([], 0, 3) := by
    unfold readF
    rw [h]
    simp [hq]
  unfold RrAns
  rw [h1]
  exact ⟨.inr ⟨by decide, rfl⟩, hb⟩
theorem rr_good {w w' : World} {bs l : List Nat} {wd a : Nat} {u : Value} (h : prs wd 23 (bitsOf bs) = (l, a, 0)) (hq : quiet (bitsOf bs) a = true) (hu : w'.ownsRow w.heap.size 3 1 u l.length (insN l)) (hb : Below w.heap.size w w') :
    RrAns w bs wd (.returned (.tuple #[u, .int .i64 ((up a : Nat) : Int), .int .i64 0])) w' := by
  have h1 : readF bs wd = (l, up a, 0) := by
    unfold readF
    rw [h]
    simp [hq]
  unfold RrAns
  rw [h1]
  exact ⟨.inl ⟨rfl, u, rfl, hu⟩, hb⟩

theorem plain_add (b off j : Nat) : (⟨b, off, none⟩ : Addr).add j = ⟨b, off + j, none⟩ := by
  unfold Addr.add
  split
  · rename_i h; rw [h]; rfl
  · rfl
theorem src_b {w : World} {A : Option Addr} {xs : List Value} (h : Src w A xs) : SrcB w A xs := by
  intro h0
  obtain ⟨a, rfl, hc⟩ := h h0
  obtain ⟨b, off, spot⟩ := a
  have hspot : spot = none := by
    have h1 := hc 0 xs[0] (List.getElem?_eq_getElem h0)
    simpa [Addr.add] using World.cell?_spot h1
  subst hspot
  refine ⟨b, off, rfl, fun j u hu => ?_⟩
  have h1 := hc j u hu
  rw [plain_add] at h1
  exact h1
theorem own_own {w : World} {b1 b2 : Nat} {e1 e2 : TypeId} {s1 s2 : Nat} {x y : Value} {n m : Nat} {xs ys : List Value} (h : w.ownsRow b1 e1 s1 x n xs) (h' : w.ownsRow b2 e2 s2 y m ys) (hne : e1 ≠ e2) : ∀ k, x.ownBlock = some k → y.ownBlock ≠ some k := by
  intro k hk
  rcases h.2 with ⟨rfl, _⟩ | ⟨g, cap, cur, rfl, _, hh, _⟩
  · simp [Value.ownBlock] at hk
  · have e : g = k := by simpa [Value.ownBlock] using hk
    subst e
    exact own_apart h' (show Row w g e1 cur from hh) (Ne.symm hne)

/-- behind some rounds: the bits in x7, the lengths acc in v -/
structure RrInv (B : Nat) (bs acc : List Nat) (x7 : Value) (v : Value) (w w' : World) : Prop where
  bits : OwnB B w' x7 (bitsOf bs)
  own : w'.ownsRow B 3 1 v acc.length (insN acc)
  below : Below B w w'
  size : B ≤ w'.heap.size
section
variable {B : Nat} {bs acc : List Nat} {x7 v : Value} {w w' : World}
theorem RrInv.start {w w' : World} (h : OwnB w.heap.size w' x7 (bitsOf bs)) (hb : Below w.heap.size w w') : RrInv w.heap.size bs [] x7 (.slice none 0 0) w w' :=
  ⟨h, World.ownsRow_nil _ _ _ _, hb, hb.size⟩
theorem RrInv.form (h : RrInv B bs acc x7 v w w') : ∃ A c, v = .slice A acc.length c := by
  rcases h.own.2 with ⟨rfl, h0⟩ | ⟨g, c, cur, rfl, _⟩
  · exact ⟨none, 0, by rw [h0]⟩
  · exact ⟨_, c, rfl⟩
theorem RrInv.src {A7 : Option Addr} {L c7 : Nat} (h : RrInv B bs acc (.slice A7 L c7) v w w') : SrcB w' A7 (bls (bitsOf bs)) := h.bits.src
theorem RrInv.cell {A7 : Option Addr} {L c7 : Nat} (h : RrInv B bs acc (.slice A7 L c7) v w w') {k : Nat} (hk : k < 8 * bs.length) : ∃ b off, A7 = some ⟨b, off, none⟩ ∧ w'.cell? ⟨b, off + k, none⟩ = some (.bool (bitAt bs k)) := by
  obtain ⟨b, off, hA, hc⟩ := h.src (by rw [length_bls, length_bitsOf]; omega)
  exact ⟨b, off, hA, hc _ _ (bls_at (bitAt_get hk))⟩
theorem RrInv.next (h : RrInv B bs acc x7 v w w') (m : Nat) (hacc : acc.length ≤ 1000000) : ∃ g3 c3 w3, (Builtin.append_ #[85, 85] 85 #[v, .slice (some ⟨w'.heap.size, 0, none⟩) 1 1]).run Try.prog (w'.alloc (.cells #[.int .i64 m] 3)) = .ok (.slice (some ⟨g3, 0, none⟩) (acc.length + 1) c3) w3 ∧
      RrInv B bs (acc ++ [m]) x7 (.slice (some ⟨g3, 0, none⟩) (acc.length + 1) c3) w w3 := by
  have hl : acc.length ≤ 1000000 := hacc
  obtain ⟨g3, c3, w3, hrun, hown3, ho3⟩ := int_tail h.own h.size m hl
  refine ⟨g3, c3, w3, hrun, ⟨⟨own_only h.bits.1 ho3 fun k hk hk' => own_own h.own h.bits.1 (by decide) k hk' hk, h.bits.2⟩, ?_, h.below.trans (ho3.below h.size fun k hk hk' => by have := (h.own.lt k hk').1; omega), Nat.le_trans h.size ho3.size⟩⟩
  rw [List.length_append, List.length_singleton]
  have e : insN (acc ++ [m]) = insN acc ++ [.int .i64 m] := by simp [insN]
  rw [e]
  exact hown3
end

set_option maxRecDepth 100000 in
set_option maxHeartbeats 6400000 in
theorem refread_11 {A : Option Addr} {bs : List Nat} (n cap : Nat) (w : World) (hn : bs.length = n) (hm : n ≤ 8000) (hs : Src w A (bts bs)) (hb : ∀ b ∈ bs, b < 256) :
    Calls Try.prog 178 #[.slice A n cap, .int .i64 11] w (RrAns w bs 11) := by
  have HRB := Lib.hid (refbits_any cap (src_b hs) (by omega) hb)
  rw [hn] at HRB
  have HN := Lib.hid hn
  clear hs hb
  go_enter Try.func178, Try.ntmps178
  go_wp2_with (go_at_call 176; refine HRB.out.mono ?_; rintro e w1 ⟨x7, rfl, ho7, hb7⟩; have HO7 := Lib.hid ho7; have HB7 := Lib.hid hb7; clear ho7 hb7)
  obtain ⟨A7, c7, hx7⟩ := HO7.out.form
  rw [length_bitsOf, HN.out] at hx7
  subst hx7
  have HL0 := Lib.hid (LInv.start 11 (bitsOf bs))
  have HI0 := Lib.hid (RrInv.start HO7.out HB7.out)
  clear HO7 HB7 HRB
  obtain ⟨L, hL⟩ : ∃ L, L = 8 * n := ⟨_, rfl⟩
  rw [← hL] at HI0 ⊢
  have hL2 : L ≤ 64000 := by omega
  have HLL := Lib.hid (show L = 8 * bs.length by rw [hL, hn])
  have HLB := Lib.hid (show (bitsOf bs).length = L by rw [length_bitsOf, hn, hL])
  clear hL hn
  go_loopw [8, 9] (fun o at' wr => ∃ (acc : List Nat) (a : Nat), a ≤ L ∧ at' = .int .i64 a ∧ Hid (a = acc.length * (11 + 1)) ∧ Hid (LInv 11 (bitsOf bs) acc) ∧ Hid (RrInv w.heap.size bs acc (.slice A7 L c7) o w wr)) (fun o _ _ => 23 - sliceLen o)
  case atStart => exact ⟨[], 0, by omega, rfl, Lib.hid (by simp), HL0, HI0⟩
  case round =>
    obtain ⟨acc, a, haL, rfl, HA, HI, HR⟩ := hrel
    obtain ⟨Av, cv, rfl⟩ := HR.out.form
    clear HL0 HI0
    have hl22 := HI.out.1
    rcases Nat.lt_or_ge (L - a) 12 with hsh | hsh
    · have HE := Lib.hid (HI.out.short (by rw [HLB.out, ← HA.out]; exact hsh))
      have hlt : (L : Int) - (a : Int) < 12 := by omega
      clear hsh
      go_wp2_with fail
      exact bodyPost_ret (v := .tuple #[.slice none 0 0, .int .i64 0, .int .i64 8]) (by simp [results, Try.results178, go_sem]) rfl (rr_bad HE.out (by decide) HR.out.below)
    · have hnlt : ¬ (L : Int) - (a : Int) < 12 := by omega
      have hns : ¬ (bitsOf bs).length - acc.length * (11 + 1) < 11 + 1 := by rw [HLB.out, ← HA.out]; omega
      have HNS := Lib.hid hns
      have hlen : bs.length ≤ 8000 := by have := HLL.out; omega
      have HG := Lib.hid (refget_ok A7 L c7 (a + 1) 11 wr HR.out.src HLL.out hlen (by omega) (by omega))
      have hcast : (((a + 1 : Nat)) : Int) = (a : Int) + 1 := by omega
      rw [hcast] at HG
      have hcell := HR.out.cell (k := a) (by have := HLL.out; omega)
      have HBT := Lib.hid (show bitAt bs a = (bitsOf bs).getD (acc.length * (11 + 1)) false by rw [← HA.out]; rfl)
      have HV := Lib.hid (show val (seg bs (a + 1) 11) = val (((bitsOf bs).drop (acc.length * (11 + 1) + 1)).take 11) by rw [← HA.out]; rfl)
      have hnl : val (seg bs (a + 1) 11) < 32768 := by
        have h9 := val_lt (seg bs (a + 1) 11)
        rw [length_seg (by have := HLL.out; omega)] at h9
        omega
      obtain ⟨b7, o7, hA7, hcell⟩ := hcell
      subst hA7
      generalize val (seg bs (a + 1) 11) = m at *
      generalize bitAt bs a = bit at *
      have ha0 : (0 : Int) ≤ (a : Int) := by omega
      have ha1 : (a : Int) < (L : Int) := by omega
      clear hsh hns hlen hcast
      rcases Nat.eq_zero_or_pos m with hz | hz
      · have HE := Lib.hid (HI.out.nought HNS.out (by rw [← HV.out]; exact hz))
        subst hz
        go_wp2_with (go_at_call 284; refine HG.out.mono ?_; rintro e w2 ⟨rfl, rfl⟩)
        exact bodyPost_ret (v := .tuple #[.slice none 0 0, .int .i64 0, .int .i64 3]) (by simp [results, Try.results178, go_sem]) rfl (rr_bad HE.out (by decide) HR.out.below)
      · have hz0 : ((m : Int) == 0) = false := by simp; omega
        have HZ := Lib.hid (show m ≠ 0 by omega)
        obtain ⟨g3, c3, w3, hr3, hinv⟩ := HR.out.next m (by omega)
        have HR3 := Lib.hid hr3
        have HI3 := Lib.hid hinv
        have HNA := Lib.hid (show a + 12 = (acc ++ [m]).length * (11 + 1) by rw [HA.out]; simp; omega)
        clear hz hr3 hinv
        cases bit
        · have HE := Lib.hid (HI.out.last HNS.out (by rw [← HV.out]; exact HZ.out) HBT.out.symm)
          rw [← HV.out] at HE
          go_wp2_with (first
            | (go_at_call 284; refine HG.out.mono ?_; rintro e w2 ⟨rfl, rfl⟩)
            | (at_builtin; refine wpList_run rfl (.tmp 45) (.tmp 48) 85 rfl (.slice Av acc.length cv) (.slice (some ⟨wr.heap.size, 0, none⟩) 1 1) (by rfl) (by rfl) HR3.out ?_))
          have HNA2 := Lib.hid (show (acc.length + 1) * (11 + 1) = a + 12 by rw [HNA.out]; simp)
          rw [HNA2.out] at HE
          obtain ⟨q, hq⟩ : ∃ q, q = a + 12 := ⟨_, rfl⟩
          have hcq : (a : Int) + 1 + 11 = (q : Int) := by omega
          have hqL : q ≤ L := by have := HLL.out; omega
          have hupL : 8 * up q ≤ L := by have := HLL.out; unfold up; omega
          rw [← hq] at HE
          go_loopw [9] (fun at' wq => ∃ k : Nat, q ≤ k ∧ k ≤ 8 * up q ∧ at' = .int .i64 k ∧ Hid (∀ j, q ≤ j → j < k → bitAt bs j = false) ∧ w3 = wq) (fun at' _ => 8 * up q - (intOf at').toNat)
          case atStart => exact ⟨q, by omega, by unfold up; omega, by first | rfl | (rw [hq]; rfl) | go_num, Lib.hid (fun j h1 h2 => by omega), rfl⟩
          case round =>
            obtain ⟨k, hk1, hk2, rfl, HZS, rfl⟩ := hrel
            by_cases h8 : k % 8 = 0
            · have hb8 : ((k : Int) % 8 != 0) = false := by simp; omega
              have hku : k = 8 * up q := by unfold up at *; omega
              have HQ := Lib.hid (show quiet (bitsOf bs) q = true from quiet_iff.2 fun j h1 h2 => HZS.out j h1 (by omega))
              have HKU := Lib.hid (show (k : Int) / 8 = ((up q : Nat) : Int) by omega)
              clear hku h8 hq hcq
              go_wp2_with fail
              refine bodyPost_ret (v := .tuple #[.slice (some ⟨g3, 0, none⟩) (acc.length + 1) c3, .int .i64 ((up q : Nat) : Int), .int .i64 0]) ?_ rfl ?_
              · rw [← HKU.out]
                simp [results, Try.results178, go_sem]
              · exact rr_good HE.out HQ.out (by have h := HI3.out.own; simpa using h) HI3.out.below
            · have hb8 : ((k : Int) % 8 != 0) = true := by simp; omega
              have hklt : k < 8 * up q := by unfold up at *; omega
              obtain ⟨b8, o8, hA8, hcell8⟩ := HI3.out.cell (k := k) (by have := HLL.out; omega)
              injection hA8 with hA8
              injection hA8 with hA8 hO8
              subst hA8
              subst hO8
              have hk0 : (0 : Int) ≤ (k : Int) := by omega
              have hkL : (k : Int) < (L : Int) := by omega
              have HBK := Lib.hid (show bitAt bs k = (bitsOf bs).getD k false from rfl)
              cases hbk : bitAt bs k
              · rw [hbk] at hcell8
                have HBK2 := Lib.hid hbk
                clear hbk HBK h8 hq hcq
                go_wp2_with fail
                go_roundw
                case rel => exact ⟨k + 1, by omega, by omega, by go_num, Lib.hid (fun j h1 h2 => by
                  rcases Nat.lt_or_ge j k with h3 | h3
                  · exact HZS.out j h1 h3
                  · obtain rfl : j = k := by omega
                    exact HBK2.out), trivial⟩
                case measure => simp [intOf]; omega
              · rw [hbk] at hcell8
                have HQ := Lib.hid (show quiet (bitsOf bs) q = false by
                  rw [← Bool.not_eq_true, quiet_iff]
                  intro hh
                  have := hh k hk1 hklt
                  rw [← HBK.out, hbk] at this
                  cases this)
                clear hbk HBK h8 hq hcq
                go_wp2_with fail
                exact bodyPost_ret (v := .tuple #[.slice none 0 0, .int .i64 0, .int .i64 3]) (by simp [results, Try.results178, go_sem]) rfl (rr_form HE.out HQ.out HI3.out.below)
        · rcases Nat.lt_or_ge acc.length 22 with h22 | h22
          · have HM2 := Lib.hid (HI.out.more HNS.out (by rw [← HV.out]; exact HZ.out) HBT.out.symm h22)
            rw [← HV.out] at HM2
            have hcnt : ((acc.length : Int) + 1 == 23) = false := by simp; omega
            go_wp2_with (first
              | (go_at_call 284; refine HG.out.mono ?_; rintro e w2 ⟨rfl, rfl⟩)
              | (at_builtin; refine wpList_run rfl (.tmp 45) (.tmp 48) 85 rfl (.slice Av acc.length cv) (.slice (some ⟨wr.heap.size, 0, none⟩) 1 1) (by rfl) (by rfl) HR3.out ?_))
            go_roundw
            case rel => exact ⟨acc ++ [m], a + 12, by omega, by go_num, HNA, HM2, HI3⟩
            case measure => simp [sliceLen]; omega
          · have HE := Lib.hid (HI.out.long HNS.out (by rw [← HV.out]; exact HZ.out) HBT.out.symm (by omega))
            have hcnt : ((acc.length : Int) + 1 == 23) = true := by simp; omega
            go_wp2_with (first
              | (go_at_call 284; refine HG.out.mono ?_; rintro e w2 ⟨rfl, rfl⟩)
              | (at_builtin; refine wpList_run rfl (.tmp 45) (.tmp 48) 85 rfl (.slice Av acc.length cv) (.slice (some ⟨wr.heap.size, 0, none⟩) 1 1) (by rfl) (by rfl) HR3.out ?_))
            exact bodyPost_ret (v := .tuple #[.slice none 0 0, .int .i64 0, .int .i64 2]) (by simp [results, Try.results178, go_sem]) rfl (rr_bad HE.out (by decide) HI3.out.below)

set_option maxRecDepth 100000 in
set_option maxHeartbeats 6400000 in
theorem refread_15 {A : Option Addr} {bs : List Nat} (n cap : Nat) (w : World) (hn : bs.length = n) (hm : n ≤ 8000) (hs : Src w A (bts bs)) (hb : ∀ b ∈ bs, b < 256) :
    Calls Try.prog 178 #[.slice A n cap, .int .i64 15] w (RrAns w bs 15) := by
  have HRB := Lib.hid (refbits_any cap (src_b hs) (by omega) hb)
  rw [hn] at HRB
  have HN := Lib.hid hn
  clear hs hb
  go_enter Try.func178, Try.ntmps178
  go_wp2_with (go_at_call 176; refine HRB.out.mono ?_; rintro e w1 ⟨x7, rfl, ho7, hb7⟩; have HO7 := Lib.hid ho7; have HB7 := Lib.hid hb7; clear ho7 hb7)
  obtain ⟨A7, c7, hx7⟩ := HO7.out.form
  rw [length_bitsOf, HN.out] at hx7
  subst hx7
  have HL0 := Lib.hid (LInv.start 15 (bitsOf bs))
  have HI0 := Lib.hid (RrInv.start HO7.out HB7.out)
  clear HO7 HB7 HRB
  obtain ⟨L, hL⟩ : ∃ L, L = 8 * n := ⟨_, rfl⟩
  rw [← hL] at HI0 ⊢
  have hL2 : L ≤ 64000 := by omega
  have HLL := Lib.hid (show L = 8 * bs.length by rw [hL, hn])
  have HLB := Lib.hid (show (bitsOf bs).length = L by rw [length_bitsOf, hn, hL])
  clear hL hn
  go_loopw [8, 9] (fun o at' wr => ∃ (acc : List Nat) (a : Nat), a ≤ L ∧ at' = .int .i64 a ∧ Hid (a = acc.length * (15 + 1)) ∧ Hid (LInv 15 (bitsOf bs) acc) ∧ Hid (RrInv w.heap.size bs acc (.slice A7 L c7) o w wr)) (fun o _ _ => 23 - sliceLen o)
  case atStart => exact ⟨[], 0, by omega, rfl, Lib.hid (by simp), HL0, HI0⟩
  case round =>
    obtain ⟨acc, a, haL, rfl, HA, HI, HR⟩ := hrel
    obtain ⟨Av, cv, rfl⟩ := HR.out.form
    clear HL0 HI0
    have hl22 := HI.out.1
    rcases Nat.lt_or_ge (L - a) 16 with hsh | hsh
    · have HE := Lib.hid (HI.out.short (by rw [HLB.out, ← HA.out]; exact hsh))
      have hlt : (L : Int) - (a : Int) < 16 := by omega
      clear hsh
      go_wp2_with fail
      exact bodyPost_ret (v := .tuple #[.slice none 0 0, .int .i64 0, .int .i64 8]) (by simp [results, Try.results178, go_sem]) rfl (rr_bad HE.out (by decide) HR.out.below)
    · have hnlt : ¬ (L : Int) - (a : Int) < 16 := by omega
      have hns : ¬ (bitsOf bs).length - acc.length * (15 + 1) < 15 + 1 := by rw [HLB.out, ← HA.out]; omega
      have HNS := Lib.hid hns
      have hlen : bs.length ≤ 8000 := by have := HLL.out; omega
      have HG := Lib.hid (refget_ok A7 L c7 (a + 1) 15 wr HR.out.src HLL.out hlen (by omega) (by omega))
      have hcast : (((a + 1 : Nat)) : Int) = (a : Int) + 1 := by omega
      rw [hcast] at HG
      have hcell := HR.out.cell (k := a) (by have := HLL.out; omega)
      have HBT := Lib.hid (show bitAt bs a = (bitsOf bs).getD (acc.length * (15 + 1)) false by rw [← HA.out]; rfl)
      have HV := Lib.hid (show val (seg bs (a + 1) 15) = val (((bitsOf bs).drop (acc.length * (15 + 1) + 1)).take 15) by rw [← HA.out]; rfl)
      have hnl : val (seg bs (a + 1) 15) < 32768 := by
        have h9 := val_lt (seg bs (a + 1) 15)
        rw [length_seg (by have := HLL.out; omega)] at h9
        omega
      obtain ⟨b7, o7, hA7, hcell⟩ := hcell
      subst hA7
      generalize val (seg bs (a + 1) 15) = m at *
      generalize bitAt bs a = bit at *
      have ha0 : (0 : Int) ≤ (a : Int) := by omega
      have ha1 : (a : Int) < (L : Int) := by omega
      clear hsh hns hlen hcast
      rcases Nat.eq_zero_or_pos m with hz | hz
      · have HE := Lib.hid (HI.out.nought HNS.out (by rw [← HV.out]; exact hz))
        subst hz
        go_wp2_with (go_at_call 284; refine HG.out.mono ?_; rintro e w2 ⟨rfl, rfl⟩)
        exact bodyPost_ret (v := .tuple #[.slice none 0 0, .int .i64 0, .int .i64 3]) (by simp [results, Try.results178, go_sem]) rfl (rr_bad HE.out (by decide) HR.out.below)
      · have hz0 : ((m : Int) == 0) = false := by simp; omega
        have HZ := Lib.hid (show m ≠ 0 by omega)
        obtain ⟨g3, c3, w3, hr3, hinv⟩ := HR.out.next m (by omega)
        have HR3 := Lib.hid hr3
        have HI3 := Lib.hid hinv
        have HNA := Lib.hid (show a + 16 = (acc ++ [m]).length * (15 + 1) by rw [HA.out]; simp; omega)
        clear hz hr3 hinv
        cases bit
        · have HE := Lib.hid (HI.out.last HNS.out (by rw [← HV.out]; exact HZ.out) HBT.out.symm)
          rw [← HV.out] at HE
          go_wp2_with (first
            | (go_at_call 284; refine HG.out.mono ?_; rintro e w2 ⟨rfl, rfl⟩)
            | (at_builtin; refine wpList_run rfl (.tmp 45) (.tmp 48) 85 rfl (.slice Av acc.length cv) (.slice (some ⟨wr.heap.size, 0, none⟩) 1 1) (by rfl) (by rfl) HR3.out ?_))
          have HNA2 := Lib.hid (show (acc.length + 1) * (15 + 1) = a + 16 by rw [HNA.out]; simp)
          rw [HNA2.out] at HE
          obtain ⟨q, hq⟩ : ∃ q, q = a + 16 := ⟨_, rfl⟩
          have hcq : (a : Int) + 1 + 15 = (q : Int) := by omega
          have hqL : q ≤ L := by have := HLL.out; omega
          have hupL : 8 * up q ≤ L := by have := HLL.out; unfold up; omega
          rw [← hq] at HE
          go_loopw [9] (fun at' wq => ∃ k : Nat, q ≤ k ∧ k ≤ 8 * up q ∧ at' = .int .i64 k ∧ Hid (∀ j, q ≤ j → j < k → bitAt bs j = false) ∧ w3 = wq) (fun at' _ => 8 * up q - (intOf at').toNat)
          case atStart => exact ⟨q, by omega, by unfold up; omega, by first | rfl | (rw [hq]; rfl) | go_num, Lib.hid (fun j h1 h2 => by omega), rfl⟩
          case round =>
            obtain ⟨k, hk1, hk2, rfl, HZS, rfl⟩ := hrel
            by_cases h8 : k % 8 = 0
            · have hb8 : ((k : Int) % 8 != 0) = false := by simp; omega
              have hku : k = 8 * up q := by unfold up at *; omega
              have HQ := Lib.hid (show quiet (bitsOf bs) q = true from quiet_iff.2 fun j h1 h2 => HZS.out j h1 (by omega))
              have HKU := Lib.hid (show (k : Int) / 8 = ((up q : Nat) : Int) by omega)
              clear hku h8 hq hcq
              go_wp2_with fail
              refine bodyPost_ret (v := .tuple #[.slice (some ⟨g3, 0, none⟩) (acc.length + 1) c3, .int .i64 ((up q : Nat) : Int), .int .i64 0]) ?_ rfl ?_
              · rw [← HKU.out]
                simp [results, Try.results178, go_sem]
              · exact rr_good HE.out HQ.out (by have h := HI3.out.own; simpa using h) HI3.out.below
            · have hb8 : ((k : Int) % 8 != 0) = true := by simp; omega
              have hklt : k < 8 * up q := by unfold up at *; omega
              obtain ⟨b8, o8, hA8, hcell8⟩ := HI3.out.cell (k := k) (by have := HLL.out; omega)
              injection hA8 with hA8
              injection hA8 with hA8 hO8
              subst hA8
              subst hO8
              have hk0 : (0 : Int) ≤ (k : Int) := by omega
              have hkL : (k : Int) < (L : Int) := by omega
              have HBK := Lib.hid (show bitAt bs k = (bitsOf bs).getD k false from rfl)
              cases hbk : bitAt bs k
              · rw [hbk] at hcell8
                have HBK2 := Lib.hid hbk
                clear hbk HBK h8 hq hcq
                go_wp2_with fail
                go_roundw
                case rel => exact ⟨k + 1, by omega, by omega, by go_num, Lib.hid (fun j h1 h2 => by
                  rcases Nat.lt_or_ge j k with h3 | h3
                  · exact HZS.out j h1 h3
                  · obtain rfl : j = k := by omega
                    exact HBK2.out), trivial⟩
                case measure => simp [intOf]; omega
              · rw [hbk] at hcell8
                have HQ := Lib.hid (show quiet (bitsOf bs) q = false by
                  rw [← Bool.not_eq_true, quiet_iff]
                  intro hh
                  have := hh k hk1 hklt
                  rw [← HBK.out, hbk] at this
                  cases this)
                clear hbk HBK h8 hq hcq
                go_wp2_with fail
                exact bodyPost_ret (v := .tuple #[.slice none 0 0, .int .i64 0, .int .i64 3]) (by simp [results, Try.results178, go_sem]) rfl (rr_form HE.out HQ.out HI3.out.below)
        · rcases Nat.lt_or_ge acc.length 22 with h22 | h22
          · have HM2 := Lib.hid (HI.out.more HNS.out (by rw [← HV.out]; exact HZ.out) HBT.out.symm h22)
            rw [← HV.out] at HM2
            have hcnt : ((acc.length : Int) + 1 == 23) = false := by simp; omega
            go_wp2_with (first
              | (go_at_call 284; refine HG.out.mono ?_; rintro e w2 ⟨rfl, rfl⟩)
              | (at_builtin; refine wpList_run rfl (.tmp 45) (.tmp 48) 85 rfl (.slice Av acc.length cv) (.slice (some ⟨wr.heap.size, 0, none⟩) 1 1) (by rfl) (by rfl) HR3.out ?_))
            go_roundw
            case rel => exact ⟨acc ++ [m], a + 16, by omega, by go_num, HNA, HM2, HI3⟩
            case measure => simp [sliceLen]; omega
          · have HE := Lib.hid (HI.out.long HNS.out (by rw [← HV.out]; exact HZ.out) HBT.out.symm (by omega))
            have hcnt : ((acc.length : Int) + 1 == 23) = true := by simp; omega
            go_wp2_with (first
              | (go_at_call 284; refine HG.out.mono ?_; rintro e w2 ⟨rfl, rfl⟩)
              | (at_builtin; refine wpList_run rfl (.tmp 45) (.tmp 48) 85 rfl (.slice Av acc.length cv) (.slice (some ⟨wr.heap.size, 0, none⟩) 1 1) (by rfl) (by rfl) HR3.out ?_))
            exact bodyPost_ret (v := .tuple #[.slice none 0 0, .int .i64 0, .int .i64 2]) (by simp [results, Try.results178, go_sem]) rfl (rr_bad HE.out (by decide) HI3.out.below)

set_option maxHeartbeats 400000 in
theorem refread_kind (A : Option Addr) (n cap : Nat) {x : Int} (w : World) (h : okW x = false) :
    Calls Try.prog 178 #[.slice A n cap, .int .i64 x] w fun e w' => e = .returned (.tuple #[.slice none 0 0, .int .i64 0, .int .i64 9]) ∧ w = w' := by
  obtain ⟨h1, h2⟩ := okW_not h
  have h3 : (x != 11) = true := by simpa using h1
  have h4 : (x != 15) = true := by simpa using h2
  clear h h1 h2
  go_enter Try.func178, Try.ntmps178
  go_wp2
  exact bodyPost_ret (v := .tuple #[.slice none 0 0, .int .i64 0, .int .i64 9]) (by simp [results, Try.results178, go_sem]) rfl ⟨rfl, rfl⟩
end Go.Proofs.Ytgdpjaojlhdhdaa
namespace Go.Proofs.Ytgdpjaojlhdhdaa
open Go.RowKit


/-- rows that lie in bytes that were there -/
structure OwnL (B : Nat) (w0 : World) (A0 : Option Addr) (bs0 : List Nat) (w : World) (v : Value) (L : List RowB) : Prop where
  own : w.ownsRow B 30 1 v L.length (L.map RowB.v)
  ok : ∀ r ∈ L, ∀ V, Src V A0 (bts bs0) → r.ok V
  below : Below B w0 w
section
variable {B : Nat} {w0 w w' : World} {v : Value} {L : List RowB} {A0 : Option Addr} {bs0 : List Nat}
theorem OwnL.form (h : OwnL B w0 A0 bs0 w v L) : ∃ A c, v = .slice A L.length c ∧ L.length ≤ c ∧ c ≤ 9223372036854775807 := by
  rcases h.own.2 with ⟨rfl, h0⟩ | ⟨g, cap, cur, rfl, _, _, h1, h2, _⟩
  · exact ⟨none, 0, by rw [h0], by omega, by omega⟩
  · exact ⟨_, cap, rfl, h1, by unfold maxLen at h2; exact h2⟩
theorem OwnL.src {A : Option Addr} {n c : Nat} {V : World} {S : Nat → Prop} (h : OwnL B w0 A0 bs0 w (.slice A n c) L) (ho : Only S w V) (hS : ∀ k, S k → k < B) (hs : Src V A0 (bts bs0)) : RSrc V A L := by
  intro h0
  have hown : V.ownsRow B 30 1 (.slice A n c) L.length (L.map RowB.v) := own_only h.own ho (fun k hk hk' => by have := (h.own.lt k hk).1; have := hS k hk'; omega)
  obtain ⟨g, cap, hv, _, _⟩ := hown.form h0
  injection hv with h1 h2 h3
  subst h1
  refine ⟨_, rfl, fun k r hr => ⟨?_, h.ok r (List.mem_of_getElem? hr) V hs⟩⟩
  exact hown.cells (g := g) rfl k _ (by rw [List.getElem?_map, hr]; rfl)
theorem OwnL.next (h : OwnL B w0 A0 bs0 w v L) (hB : B ≤ w.heap.size) (r : RowB) (hr : ∀ V, Src V A0 (bts bs0) → r.ok V) (hl : L.length ≤ 1000000) :
    ∃ g c w3, (Builtin.append_ #[40, 40] 40 #[v, .slice (some ⟨w.heap.size, 0, none⟩) 1 1]).run Try.prog (w.alloc (.cells #[.slice r.A r.bs.length r.cap] 30)) = .ok (.slice (some ⟨g, 0, none⟩) (L.length + 1) c) w3 ∧
      OwnL B w0 A0 bs0 w3 (.slice (some ⟨g, 0, none⟩) (L.length + 1) c) (L ++ [r]) := by
  obtain ⟨g, c, w3, h1, h2, h3⟩ := app_row h.own hB r hl
  refine ⟨g, c, w3, h1, by rw [List.length_append, List.map_append]; exact h2, fun x hx => ?_, h.below.trans (own_only_below h.own h3 hB)⟩
  rw [List.mem_append, List.mem_singleton] at hx
  rcases hx with hx | rfl
  · exact h.ok x hx
  · exact hr
end
/-- what the document's Cut answers -/
def RcAns (Ab : Option Addr) (bs : List Nat) (w : World) (r : Int × List (List Nat)) (e : Ending) (w' : World) : Prop :=
  ((r.1 = 0 ∧ ∃ A c L, r.2 = texts L ∧ e = .returned (.tuple #[.slice A L.length c, .int .i64 0]) ∧ (∀ V S, Only S w' V → (∀ k, S k → k < w.heap.size) → Src V Ab (bts bs) → RSrc V A L) ∧ L.length ≤ c ∧ c ≤ 9223372036854775807) ∨ (r.1 ≠ 0 ∧ e = .returned (.tuple #[.slice none 0 0, .int .i64 r.1]))) ∧ Below w.heap.size w w'
/-- the loop's rounds: the fields so far -/
structure RcSt (w0 : World) (A0 : Option Addr) (bs ls : List Nat) (at0 k at' : Nat) (L : List RowB) (v : Value) (w : World) : Prop where
  own : OwnL w0.heap.size w0 A0 bs w v L
  inv : CInv (bs.drop at0) ls (texts L) (at' - at0)
  len : L.length = k
  ge : at0 ≤ at'
  le : at' ≤ bs.length
theorem row_at {w : World} {ad : Addr} {bs : List Nat} {n cap : Nat} (hs : Src w (some ad) (bts bs)) (hb : ∀ b ∈ bs, b < 256) (_hn : bs.length = n) (hc : n ≤ cap) (hcm : cap ≤ 9223372036854775807) (a m : Nat) (ham : a + m ≤ n) : RowB.ok w ⟨some (ad.add a), cap - a, (bs.drop a).take m⟩ := by
  have h1 := src_dropc (c := 0) a (show Src w (some ad) (bts (bs.drop 0)) from hs)
  rw [Nat.zero_add] at h1
  refine ⟨src_take m h1, ?_, ?_, fun b h => hb b (List.mem_of_mem_drop (List.mem_of_mem_take h))⟩
  · show ((bs.drop a).take m).length ≤ cap - a
    rw [List.length_take, List.length_drop]
    omega
  · show cap - a ≤ _
    omega
theorem ans_ok {o : Option (List (List Nat))} {t : List (List Nat)} (h : o = some t) : ansOf o = (0, t) := by rw [h]; rfl
theorem ans_no {o : Option (List (List Nat))} (h : o = none) : ansOf o = (8, []) := by rw [h]; rfl
end Go.Proofs.Ytgdpjaojlhdhdaa
