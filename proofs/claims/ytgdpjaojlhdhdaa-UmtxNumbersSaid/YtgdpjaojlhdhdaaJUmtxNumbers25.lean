/-
  glue: a glue in memory; its small calls. glue: a field comes. glue: a field comes, and what is whole is told. glue: what one field of a packet does. glue: all fields of a packet, one by one.
-/
import Derived.Test.YtgdpjaojlhdhdaaJUmtxNumbers24
import Derived.Test.YtgdpjaojlhdhdaaJUmtxNumbers16
import Derived.Test.YtgdpjaojlhdhdaaJUmtxNumbers12
namespace Go.Proofs.Ytgdpjaojlhdhdaa
open Go.RowKit

def GRep (B : Nat) (w : World) (p : Nat) (hv : Value) (s : GS) : Prop := Row w p 229 #[.bool true, hv, .int .i64 s.lost] ∧ OwnY B w hv s.held
def GS1 (p : Nat) (hv : Value) (k : Nat) : Prop := k = p ∨ hv.ownBlock = some k
def GNext (w : World) (hv hv' : Value) : Prop := ∀ k, hv'.ownBlock = some k → hv.ownBlock = some k ∨ w.heap.size ≤ k
theorem GNext.refl (w : World) (hv : Value) : GNext w hv hv := fun _ h => .inl h
theorem GNext.nil (w : World) (hv : Value) : GNext w hv (.slice none 0 0) := fun _ h => by simp [Value.ownBlock] at h
theorem ownY_nil (B : Nat) (w : World) : OwnY B w (.slice none 0 0) [] := ⟨by simp [bts], .inl ⟨rfl, rfl⟩⟩
theorem GRep.later {B p : Nat} {w v : World} {hv : Value} {s : GS} (h : GRep B w p hv s) (hb : Below w.heap.size w v) : GRep B v p hv s := ⟨h.1.later hb, h.2.later hb⟩
theorem GRep.only {B p : Nat} {w v : World} {hv : Value} {s : GS} {S : Nat → Prop} (h : GRep B w p hv s) (ho : Only S w v) (h1 : ¬ S p) (h2 : ∀ k, hv.ownBlock = some k → ¬ S k) : GRep B v p hv s := ⟨h.1.only ho h1, h.2.only ho h2⟩
theorem set_only {w : World} {p : Nat} (i : Nat) (x : Value) : Only (fun k => k = p) w (w.setCell ⟨p, i, none⟩ x) := (Only.refl (fun k => k = p) w).set (p := ⟨p, i, none⟩) (.inl rfl) x
theorem GRep.apart {B p : Nat} {w : World} {hv : Value} {s : GS} (h : GRep B w p hv s) : hv.ownBlock ≠ some p := own_apart h.2 h.1 (by decide)
theorem gnew_any (w : World) : Calls Try.prog 29 #[] w fun e w' => e = .returned (.pointer (some ⟨w.heap.size, 0, none⟩)) ∧ GRep w.heap.size w' w.heap.size (.slice none 0 0) ⟨[], 0⟩ ∧ Below w.heap.size w w' := by
  go_enter Try.func29, Try.ntmps29
  go_wp2
  go_ret
  exact ⟨rfl, ⟨Row.made _ _ _, ownY_nil _ _⟩, bl_alloc (Below.refl _ _) _⟩
theorem glost_any {B p : Nat} {w : World} {hv : Value} {s : GS} (h : GRep B w p hv s) : Calls Try.prog 32 #[.pointer (some ⟨p, 0, none⟩)] w fun e w' => e = .returned (.int .i64 (s.lost : Nat)) ∧ w = w' := by
  have c1 := h.1.read (i := 2) rfl
  clear h
  go_enter Try.func32, Try.ntmps32
  go_wp2
  go_ret
  exact ⟨rfl, rfl⟩
theorem held_len {s : GS} : s.held = [] ↔ s.held.length = 0 := by simp
set_option maxRecDepth 100000 in
set_option maxHeartbeats 800000 in
theorem glose_any {B p : Nat} {w : World} {hv : Value} {s : GS} (h : GRep B w p hv s) (hlost : s.lost ≤ 1000000000) :
    Calls Try.prog 166 #[.pointer (some ⟨p, 0, none⟩)] w fun e w' => e = .returned (.tuple #[]) ∧ ∃ hv', GRep B w' p hv' s.lose ∧ Only (fun k => k = p) w w' ∧ GNext w hv hv' := by
  obtain ⟨A, c, rfl, h1, h2⟩ := h.2.form
  unfold maxLen at h2
  have c1 := h.1.read (i := 1) rfl
  have c2 := h.1.read (i := 2) rfl
  have f1 := h.1.free 1
  have HH := Lib.hid h
  by_cases h0 : s.held.length = 0
  · have HL := Lib.hid (show s.lose = s by unfold GS.lose; rw [if_pos (held_len.2 h0)])
    have hd : decide ((0 : Int) < (s.held.length : Int)) = false := decide_eq_false (by omega)
    have h0' : s.held.length ≤ 0 := by omega
    clear h h0
    go_enter Try.func166, Try.ntmps166
    go_wp2
    go_end0
    exact ⟨rfl, _, by rw [HL.out]; exact HH.out, Only.refl _ _, GNext.refl _ _⟩
  · have HL := Lib.hid (show s.lose = ⟨[], s.lost + 1⟩ by unfold GS.lose; rw [if_neg (fun e => h0 (held_len.1 e))])
    have hp : (0 : Int) < (s.held.length : Int) := by have := Nat.pos_of_ne_zero h0; omega
    have hrow := h.1.written 1 (.slice none 0 0)
    have d2 := hrow.read (i := 2) rfl
    have g2 := hrow.free 2
    have HR := Lib.hid (hrow.written 2 (.int .i64 ((s.lost : Int) + 1)))
    have HO := Lib.hid ((set_only (w := w) (p := p) 1 (.slice none 0 0)).set (p := ⟨p, 2, none⟩) (.inl rfl) (.int .i64 ((s.lost : Int) + 1)))
    have e9 : ((s.lost + 1 : Nat) : Int) = (s.lost : Int) + 1 := by omega
    have HE9 := Lib.hid e9
    clear h h0 hrow e9
    go_enter Try.func166, Try.ntmps166
    go_wp2
    go_end0
    refine ⟨rfl, .slice none 0 0, ⟨?_, ?_⟩, HO.out, GNext.nil _ _⟩
    · rw [HL.out]
      show Row _ p 229 #[.bool true, .slice none 0 0, .int .i64 ((s.lost + 1 : Nat) : Int)]
      rw [HE9.out]
      exact HR.out
    · rw [HL.out]
      exact ownY_nil _ _
end Go.Proofs.Ytgdpjaojlhdhdaa
namespace Go.Proofs.Ytgdpjaojlhdhdaa
open Go.RowKit

section
variable {B p : Nat} {w : World} {hv : Value} {s : GS}
theorem grep_lost (h : GRep B w p hv s) : GRep B ((w.setCell ⟨p, 1, none⟩ (.slice none 0 0)).setCell ⟨p, 2, none⟩ (.int .i64 ((s.lost : Int) + 1))) p (.slice none 0 0) ⟨[], s.lost + 1⟩ ∧ Only (GS1 p hv) w ((w.setCell ⟨p, 1, none⟩ (.slice none 0 0)).setCell ⟨p, 2, none⟩ (.int .i64 ((s.lost : Int) + 1))) := by
  have e9 : ((s.lost + 1 : Nat) : Int) = (s.lost : Int) + 1 := by omega
  refine ⟨⟨?_, ownY_nil _ _⟩, ((set_only 1 _).set (p := ⟨p, 2, none⟩) (.inl rfl) _).weaker (fun k _ hk => .inl hk)⟩
  show Row _ p 229 #[.bool true, .slice none 0 0, .int .i64 ((s.lost + 1 : Nat) : Int)]
  rw [e9]
  exact (h.1.written 1 _).written 2 _
theorem grep_count (h : GRep B w p hv s) : GRep B (w.setCell ⟨p, 2, none⟩ (.int .i64 ((s.lost : Int) + 1))) p hv ⟨s.held, s.lost + 1⟩ ∧ Only (GS1 p hv) w (w.setCell ⟨p, 2, none⟩ (.int .i64 ((s.lost : Int) + 1))) := by
  have e9 : ((s.lost + 1 : Nat) : Int) = (s.lost : Int) + 1 := by omega
  refine ⟨⟨?_, h.2.only (set_only 2 _) (fun k hk e => h.apart (by rw [hk, e]))⟩, (set_only 2 _).weaker (fun k _ hk => .inl hk)⟩
  show Row _ p 229 #[.bool true, hv, .int .i64 ((s.lost + 1 : Nat) : Int)]
  rw [e9]
  exact h.1.written 2 _
theorem grep_app {A F : Option Addr} {f : List Nat} {n m c fc : Nat} (h : GRep B w p (.slice A n c) s) (hn : s.held.length = n) (hB : B ≤ w.heap.size) (hs : Src w F (bts f)) (hm : f.length = m) (hnm : n + m ≤ 1000000) :
    ∃ A' c' W', (Builtin.append_ #[30, 30] 30 #[.slice A n c, .slice F m fc]).run Try.prog w = .ok (.slice A' (n + m) c') W' ∧ Row W' p 229 #[.bool true, .slice A n c, .int .i64 s.lost] ∧
      GRep B (W'.setCell ⟨p, 1, none⟩ (.slice A' (n + m) c')) p (.slice A' (n + m) c') ⟨s.held ++ f, s.lost⟩ ∧ Only (GS1 p (.slice A n c)) w (W'.setCell ⟨p, 1, none⟩ (.slice A' (n + m) c')) ∧ GNext w (.slice A n c) (.slice A' (n + m) c') := by
  subst hn
  obtain ⟨A', c', W', hrun, hown, hbl, hon, hat⟩ := app_bytes m fc h.2 hB hs hm (by omega)
  have hap := h.apart
  have hr2 : Row W' p 229 #[.bool true, .slice A s.held.length c, .int .i64 s.lost] := h.1.only hon hap
  have hap2 := own_apart hown hr2 (by decide)
  refine ⟨A', c', W', hrun, hr2, ⟨hr2.written 1 _, hown.only (set_only 1 _) (fun k hk e => hap2 (by rw [hk, e]))⟩, ?_, ?_⟩
  · exact (hon.weaker (fun k _ hk => .inr hk)).set (p := ⟨p, 1, none⟩) (.inl (.inl rfl)) _
  · intro k hk
    rcases hat with e | e
    · exact .inl (by rw [← e]; exact hk)
    · rw [e] at hk
      injection hk with hk
      exact .inr (by omega)
end
theorem lose_held (s : GS) : s.lose.held = [] := by
  unfold GS.lose
  split
  · assumption
  · rfl
/-- what a field's coming leaves -/
def ComeDone (B p : Nat) (hv : Value) (s' : GS) (w : World) (e : Ending) (w' : World) : Prop := e = .returned (.tuple #[]) ∧ ∃ hv', GRep B w' p hv' s' ∧ Only (GS1 p hv) w w' ∧ GNext w hv hv'
theorem ComeDone.behind {B p : Nat} {hv hv1 : Value} {s' : GS} {w w1 w' : World} {e : Ending} (h : ComeDone B p hv1 s' w1 e w') (ho : Only (fun k => k = p) w w1) (hg : GNext w hv hv1) : ComeDone B p hv s' w e w' := by
  obtain ⟨h1, hv', h2, h3, h4⟩ := h
  refine ⟨h1, hv', h2, ?_, ?_⟩
  · refine (ho.weaker (T := GS1 p hv) (fun k _ hk => .inl hk)).andThen h3 (fun k hk hx => ?_)
    rcases hx with hx | hx
    · exact .inl hx
    · rcases hg k hx with h9 | h9
      · exact .inr h9
      · omega
  · intro k hk
    rcases h4 k hk with h9 | h9
    · exact hg k h9
    · exact .inr (Nat.le_trans ho.size h9)
section
variable {B p : Nat} {w : World} {hv : Value} {s : GS} {F : Option Addr} {f : List Nat}
set_option maxRecDepth 100000 in
set_option maxHeartbeats 800000 in
theorem gcome_b (e : Bool) (m fc : Nat) (h : GRep B w p hv s) (hlost : s.lost ≤ 1000000) (hB : B ≤ w.heap.size) (hs : ∀ W, Only (fun k => k = p) w W → Src W F (bts f)) (hm : f.length = m) (hm1 : m ≤ 9223372036854775807) :
    Calls Try.prog 169 #[.pointer (some ⟨p, 0, none⟩), .slice F m fc, .bool true, .bool e] w (ComeDone B p hv (s.come f true e) w) := by
  have HLO := Lib.hid (glose_any h (by omega))
  have HS := Lib.hid hs
  have hll := s.lose_lost
  have HH := Lib.hid (lose_held s)
  have HC := Lib.hid (show s.come f true e = if f.length ≤ 1000 then ⟨f, s.lose.lost⟩ else ⟨[], s.lose.lost + 1⟩ from rfl)
  rw [HC.out]
  generalize s.lose = s1 at *
  obtain ⟨held1, lost1⟩ := s1
  simp only at hll HH
  obtain rfl := HH.out
  clear h hs HC HH
  rw [hm]
  by_cases hlong : m ≤ 1000
  · rw [if_pos hlong]
    have hd : decide ((1000 : Int) < (m : Int)) = false := decide_eq_false (by omega)
    have hw : IntKind.i64.wrap (0 + (m : Int)) = (m : Int) := by rw [IntKind.wrap_i64]; omega
    go_enter Try.func169, Try.ntmps169
    go_wp2_with fail
    refine (HLO.out).mono ?_
    rintro e1 w1 ⟨rfl, hv1, h1, ho1, hg1⟩
    obtain ⟨A, c, rfl, q1, q2⟩ := h1.2.form
    unfold maxLen at q2
    simp only [List.length_nil] at q1 h1
    obtain ⟨A', c', W', hrun, hr2, h3, ho3, hg3⟩ := grep_app (n := 0) (m := m) (fc := fc) h1 rfl (Nat.le_trans hB ho1.size) (HS.out w1 ho1) hm (by omega)
    have c1 := h1.1.read (i := 1) rfl
    have k1 := hr2.read (i := 1) rfl
    have k2 := hr2.free 1
    simp only [Nat.zero_add, List.nil_append] at hrun h3 ho3 hg3
    have HD := Lib.hid (ComeDone.behind (hv := hv) ⟨rfl, _, h3, ho3, hg3⟩ ho1 hg1)
    clear h1 ho1 hg1 h3 ho3 hg3 hr2 HLO HS
    go_wp2_with (at_builtin; refine wpList_run rfl _ _ 30 rfl (.slice A 0 c) (.slice F m fc) (by rfl) (by rfl) hrun ?_)
    go_end0
    exact HD.out
  · rw [if_neg hlong]
    have hd : decide ((1000 : Int) < (m : Int)) = true := decide_eq_true (by omega)
    have hw : IntKind.i64.wrap (0 + (m : Int)) = (m : Int) := by rw [IntKind.wrap_i64]; omega
    go_enter Try.func169, Try.ntmps169
    go_wp2_with fail
    refine (HLO.out).mono ?_
    rintro e1 w1 ⟨rfl, hv1, h1, ho1, hg1⟩
    obtain ⟨A, c, rfl, q1, q2⟩ := h1.2.form
    unfold maxLen at q2
    simp only [List.length_nil] at q1 h1
    obtain ⟨h3, ho3⟩ := grep_lost h1
    have c1 := h1.1.read (i := 1) rfl
    have f1 := h1.1.free 1
    have hrow := h1.1.written 1 (.slice none 0 0)
    have d2 := hrow.read (i := 2) rfl
    have g2 := hrow.free 2
    have HD := Lib.hid (ComeDone.behind (hv := hv) ⟨rfl, _, h3, ho3, GNext.nil _ _⟩ ho1 hg1)
    simp only at HD d2
    clear h1 ho1 hg1 h3 ho3 hrow HLO HS
    go_wp2
    go_end0
    exact HD.out
set_option maxRecDepth 100000 in
set_option maxHeartbeats 800000 in
theorem gcome_e (e : Bool) (m fc : Nat) (h : GRep B w p hv s) (hlost : s.lost ≤ 1000000) (h0 : s.held = []) :
    Calls Try.prog 169 #[.pointer (some ⟨p, 0, none⟩), .slice F m fc, .bool false, .bool e] w (ComeDone B p hv (s.come f false e) w) := by
  have HC := Lib.hid (show s.come f false e = if e then ⟨[], s.lost + 1⟩ else s by unfold GS.come; rw [if_neg (by decide), if_pos h0])
  rw [HC.out]
  obtain ⟨held1, lost1⟩ := s
  simp only at hlost h0
  subst h0
  have hcount := grep_count h
  obtain ⟨A, c, rfl, q1, q2⟩ := h.2.form
  unfold maxLen at q2
  simp only [List.length_nil] at q1 h hcount ⊢
  have c1 := h.1.read (i := 1) rfl
  have c2 := h.1.read (i := 2) rfl
  have f2 := h.1.free 2
  simp only at c2
  cases e
  · have HD := Lib.hid (show ComeDone B p (.slice A 0 c) ⟨[], lost1⟩ w (.returned (.tuple #[])) w from ⟨rfl, _, h, Only.refl _ _, GNext.refl _ _⟩)
    clear h hcount HC
    go_enter Try.func169, Try.ntmps169
    go_wp2
    go_end0
    exact HD.out
  · have HD := Lib.hid (show ComeDone B p (.slice A 0 c) ⟨[], lost1 + 1⟩ w (.returned (.tuple #[])) _ from ⟨rfl, _, hcount.1, hcount.2, GNext.refl _ _⟩)
    clear h hcount HC
    go_enter Try.func169, Try.ntmps169
    go_wp2
    go_end0
    exact HD.out
set_option maxRecDepth 100000 in
set_option maxHeartbeats 800000 in
theorem gcome_m (e : Bool) (m fc : Nat) (h : GRep B w p hv s) (hlost : s.lost ≤ 1000000) (hB : B ≤ w.heap.size) (hs : Src w F (bts f)) (hm : f.length = m) (hm1 : m ≤ 100000) (h0 : s.held ≠ []) (hl : s.held.length ≤ 1000) :
    Calls Try.prog 169 #[.pointer (some ⟨p, 0, none⟩), .slice F m fc, .bool false, .bool e] w (ComeDone B p hv (s.come f false e) w) := by
  have HC := Lib.hid (show s.come f false e = if s.held.length + f.length ≤ 1000 then ⟨s.held ++ f, s.lost⟩ else ⟨[], s.lost + 1⟩ by unfold GS.come; rw [if_neg (by decide), if_neg h0])
  rw [HC.out, hm]
  obtain ⟨A, c, rfl, q1, q2⟩ := h.2.form
  unfold maxLen at q2
  obtain ⟨n, hn⟩ : ∃ n, s.held.length = n := ⟨_, rfl⟩
  have hn0 : 0 < n := by rw [← hn]; exact List.length_pos_iff.2 h0
  rw [hn] at q1 h hl ⊢
  have hne : ((n : Int) == 0) = false := by simp; omega
  have c1 := h.1.read (i := 1) rfl
  have hw : IntKind.i64.wrap ((n : Int) + (m : Int)) = (n : Int) + (m : Int) := by rw [IntKind.wrap_i64]; omega
  by_cases hlong : n + m ≤ 1000
  · rw [if_pos hlong]
    have hd : decide ((1000 : Int) < (n : Int) + (m : Int)) = false := decide_eq_false (by omega)
    obtain ⟨A', c', W', hrun, hr2, h3, ho3, hg3⟩ := grep_app (n := n) (m := m) (fc := fc) h hn hB hs hm (by omega)
    have k1 := hr2.read (i := 1) rfl
    have k2 := hr2.free 1
    have HD := Lib.hid (show ComeDone B p (.slice A n c) _ w (.returned (.tuple #[])) _ from ⟨rfl, _, h3, ho3, hg3⟩)
    clear h hs hm h3 ho3 hg3 hr2 HC hn h0
    go_enter Try.func169, Try.ntmps169
    go_wp2_with (at_builtin; refine wpList_run rfl _ _ 30 rfl (.slice A n c) (.slice F m fc) (by rfl) (by rfl) hrun ?_)
    go_end0
    exact HD.out
  · rw [if_neg hlong]
    have hd : decide ((1000 : Int) < (n : Int) + (m : Int)) = true := decide_eq_true (by omega)
    obtain ⟨h3, ho3⟩ := grep_lost h
    have f1 := h.1.free 1
    have hrow := h.1.written 1 (.slice none 0 0)
    have d2 := hrow.read (i := 2) rfl
    have g2 := hrow.free 2
    have HD := Lib.hid (show ComeDone B p (.slice A n c) _ w (.returned (.tuple #[])) _ from ⟨rfl, _, h3, ho3, GNext.nil _ _⟩)
    clear h hs hm h3 ho3 hrow HC hn h0
    go_enter Try.func169, Try.ntmps169
    go_wp2
    go_end0
    exact HD.out
theorem gcome_any (b e : Bool) (m fc : Nat) (h : GRep B w p hv s) (hlost : s.lost ≤ 1000000) (hB : B ≤ w.heap.size) (hs : ∀ W, Only (fun k => k = p) w W → Src W F (bts f)) (hm : f.length = m) (hm1 : m ≤ 9223372036854775807) (hm2 : b = false → m ≤ 100000) (hl : s.held.length ≤ 1000) :
    Calls Try.prog 169 #[.pointer (some ⟨p, 0, none⟩), .slice F m fc, .bool b, .bool e] w (ComeDone B p hv (s.come f b e) w) := by
  cases b
  · by_cases h0 : s.held = []
    · exact gcome_e e m fc h hlost h0
    · exact gcome_m e m fc h hlost hB (hs w (Only.refl _ _)) hm (hm2 rfl) h0 hl
  · exact gcome_b e m fc h hlost hB hs hm hm1
end
end Go.Proofs.Ytgdpjaojlhdhdaa
namespace Go.Proofs.Ytgdpjaojlhdhdaa
open Go.RowKit

theorem clipb_any {A : Option Addr} (n c : Nat) (w : World) (hc : n ≤ c) : Calls Try.prog 170 #[.slice A n c] w fun e w' => e = .returned (.slice A n n) ∧ w = w' := by
  cases A with
  | none =>
    go_enter Try.func170, Try.ntmps170
    go_wp2
    go_ret
    exact ⟨rfl, rfl⟩
  | some a =>
    go_enter Try.func170, Try.ntmps170
    go_wp2
    go_ret
    exact ⟨rfl, rfl⟩
theorem own_rows_apart {w : World} {B B' e e' z z' n n' : Nat} {v v' : Value} {xs xs' : List Value} (h : w.ownsRow B e z v n xs) (h' : w.ownsRow B' e' z' v' n' xs') (hne : e ≠ e') : ∀ k, v.ownBlock = some k → v'.ownBlock ≠ some k := by
  intro k hk
  rcases h.2 with ⟨rfl, _⟩ | ⟨g, cap, cur, rfl, _, hh, _⟩
  · simp [Value.ownBlock] at hk
  · have e1 : g = k := by simpa [Value.ownBlock] using hk
    subst e1
    exact own_apart h' (show Row w g e cur from hh) (fun e => hne e.symm)
/-- a text that was told: its bytes lie in a block that is not the held one -/
def TOk (B : Nat) (w : World) (hv : Value) (r : RowB) : Prop := ∃ (g : Nat) (cs : Array Value), r.A = some ⟨g, 0, none⟩ ∧ B ≤ g ∧ hv.ownBlock ≠ some g ∧ r.bs.length ≤ r.cap ∧ r.cap ≤ 9223372036854775807 ∧ Row w g 5 cs ∧ ∀ (j b : Nat), r.bs[j]? = some b → cs[j]? = some (Value.int .u8 (b : Nat))
theorem add_pl (b o j : Nat) : (⟨b, o, none⟩ : Addr).add j = ⟨b, o + j, none⟩ := by
  unfold Addr.add
  split
  · rename_i h
    subst h
    rfl
  · rfl
theorem TOk.src {B : Nat} {w : World} {hv : Value} {r : RowB} (h : TOk B w hv r) : Src w r.A (bts r.bs) := by
  obtain ⟨g, cs, h1, _, _, _, _, h4, h5⟩ := h
  intro _
  refine ⟨⟨g, 0, none⟩, h1, fun j u hu => ?_⟩
  have hj : j < r.bs.length := by have := (List.getElem?_eq_some_iff.1 hu).1; rw [length_bts] at this; exact this
  have hb := bts_at (List.getElem?_eq_getElem hj)
  rw [hu] at hb
  injection hb with hb
  rw [hb, add_pl, Nat.zero_add]
  exact h4.read (h5 j _ (List.getElem?_eq_getElem hj))
theorem TOk.step {B : Nat} {w v : World} {hv hv' : Value} {r : RowB} {S : Nat → Prop} (h : TOk B w hv r) (ho : Only S w v) (hS : ∀ g cs, Row w g 5 cs → hv.ownBlock ≠ some g → ¬ S g) (hg : GNext w hv hv') : TOk B v hv' r := by
  obtain ⟨g, cs, h1, h2, h3, h4, h5, h6, h7⟩ := h
  refine ⟨g, cs, h1, h2, fun e => ?_, h4, h5, h6.only ho (hS g cs h6 h3), h7⟩
  have := h6.inside
  rcases hg g e with h9 | h9
  · exact h3 h9
  · omega
/-- what is held and what was told so far -/
def GInv (B C p gb tb : Nat) (w : World) (hv tv : Value) (s : GS) (L : List RowB) : Prop :=
  GRep B w p hv s ∧ Row w gb 50 #[.pointer (some ⟨p, 0, none⟩)] ∧ Row w tb 40 #[tv] ∧ w.ownsRow C 30 1 tv L.length (L.map RowB.v) ∧ ∀ r ∈ L, TOk B w hv r
def GS2 (p tb : Nat) (hv tv : Value) (k : Nat) : Prop := (k = p ∨ hv.ownBlock = some k) ∨ k = tb ∨ tv.ownBlock = some k
theorem GInv.come {B C p gb tb : Nat} {w w1 : World} {hv hv1 tv : Value} {s s1 : GS} {L : List RowB} (h : GInv B C p gb tb w hv tv s L) (h1 : GRep B w1 p hv1 s1) (ho : Only (GS1 p hv) w w1) (hg : GNext w hv hv1) : GInv B C p gb tb w1 hv1 tv s1 L := by
  obtain ⟨a1, a2, a3, a4, a5⟩ := h
  have k1 : ∀ {g : Nat} {t : TypeId} {cs : Array Value}, Row w g t cs → t ≠ 229 → t ≠ 5 → ¬ GS1 p hv g := by
    intro g t cs hr h2 h3 hx
    rcases hx with hx | hx
    · exact hr.apart a1.1 h2 hx
    · exact own_apart a1.2 hr (fun e => h3 e.symm) hx
  refine ⟨h1, a2.only ho (k1 a2 (by decide) (by decide)), a3.only ho (k1 a3 (by decide) (by decide)), own_only a4 ho (fun k hk hx => ?_), fun r hr => (a5 r hr).step ho (fun g cs h6 h7 hx => ?_) hg⟩
  · rcases hx with hx | hx
    · subst hx; exact own_apart a4 a1.1 (by decide) hk
    · exact own_rows_apart a4 a1.2 (by decide) k hk hx
  · rcases hx with hx | hx
    · exact h6.apart a1.1 (by decide) hx
    · exact h7 hx
def PutStep (B C p gb tb : Nat) (hv tv : Value) (s' : GS) (L : List RowB) (told : List (List Nat)) (w : World) (e : Ending) (w' : World) : Prop :=
  e = .returned (.tuple #[]) ∧ ∃ hv' tv' L', GInv B C p gb tb w' hv' tv' s' L' ∧ texts L' = texts L ++ told ∧ Only (GS2 p tb hv tv) w w' ∧ GNext w hv hv' ∧ GNext w tv tv' ∧ C ≤ w'.heap.size
end Go.Proofs.Ytgdpjaojlhdhdaa
namespace Go.Proofs.Ytgdpjaojlhdhdaa
open Go.RowKit

theorem Only.draw {w : World} {S : Nat → Prop} : Only S w w.drew := Only.drew (Only.refl _ _)
theorem told_tail {B C p gb tb n c : Nat} {A : Option Addr} {w : World} {tv : Value} {s : GS} {L : List RowB} (h : GInv B C p gb tb w (.slice A n c) tv s L) (hn : s.held.length = n) (h0 : 0 < n) (hL : L.length ≤ 1000) (hC : C ≤ w.heap.size) :
    ∃ g' c' w2, (Builtin.append_ #[40, 40] 40 #[tv, .slice (some ⟨w.heap.size, 0, none⟩) 1 1]).run Try.prog ((w.alloc (.cells #[.slice A n n] 30)).drew) = .ok (.slice (some ⟨g', 0, none⟩) (L.length + 1) c') w2 ∧
      Row w2 tb 40 #[tv] ∧ Row w2 gb 50 #[.pointer (some ⟨p, 0, none⟩)] ∧ Row w2 p 229 #[.bool true, .slice A n c, .int .i64 s.lost] ∧
      GInv B C p gb tb ((w2.setCell ⟨tb, 0, none⟩ (.slice (some ⟨g', 0, none⟩) (L.length + 1) c')).setCell ⟨p, 1, none⟩ (.slice none 0 0)) (.slice none 0 0) (.slice (some ⟨g', 0, none⟩) (L.length + 1) c') ⟨[], s.lost⟩ (L ++ [⟨A, n, s.held⟩]) ∧
      Only (GS2 p tb (.slice A n c) tv) w ((w2.setCell ⟨tb, 0, none⟩ (.slice (some ⟨g', 0, none⟩) (L.length + 1) c')).setCell ⟨p, 1, none⟩ (.slice none 0 0)) ∧ GNext w tv (.slice (some ⟨g', 0, none⟩) (L.length + 1) c') := by
  obtain ⟨a1, a2, a3, a4, a5⟩ := h
  obtain ⟨i0, hi, hi0, hi1, hi2⟩ := info_parts Try.info30
  have hbA := bl_drew (bl_alloc (Below.refl w.heap.size w) (.cells #[.slice A n n] 30))
  have ho0 : Only (GS2 p tb (.slice A n c) tv) w (w.alloc (.cells #[.slice A n n] 30)).drew := Only.of_below hbA
  have a4' := own_later2 a4 hbA
  obtain ⟨v', w2, hrun, hown, hgr, _, hat⟩ := run_append_own_at (P := Try.prog) (w := (w.alloc (.cells #[.slice A n n] 30)).drew) C 40 40 30 i0 _ 1 24 Try.underlying40 hi hi0 hi1 hi2 rfl (by omega) tv L.length (L.map RowB.v) a4' ⟨w.heap.size, 0, none⟩ 1 1 [.slice A n n] rfl
    (fun j u hu => by
      match j, hu with
      | 0, hu =>
        simp only [List.getElem?_cons_zero, Option.some.injEq] at hu
        subst hu
        rw [add_pl]
        exact (Row.made w 30 #[.slice A n n]).drawn.read rfl
      | j + 1, hu => simp at hu) (by intro u hu; simp at hu; subst hu; rfl) (by unfold maxLen; omega) (by omega) (by have := hbA.size; omega)
  have hon1 : Only (fun k => tv.ownBlock = some k) (w.alloc (.cells #[.slice A n n] 30)).drew w2 := (Only.refl _ _).grown hgr (fun k hk => .inl hk)
  have n1 : ∀ {g : Nat} {t : TypeId} {cs : Array Value}, Row w g t cs → t ≠ 30 → tv.ownBlock ≠ some g := fun hr hne => own_apart a4 hr (fun e => hne e.symm)
  have r1 : Row w2 p 229 #[.bool true, .slice A n c, .int .i64 s.lost] := (a1.1.later hbA).only hon1 (n1 a1.1 (by decide))
  have r2 : Row w2 gb 50 #[.pointer (some ⟨p, 0, none⟩)] := (a2.later hbA).only hon1 (n1 a2 (by decide))
  have r3 : Row w2 tb 40 #[tv] := (a3.later hbA).only hon1 (n1 a3 (by decide))
  have ho1 : Only (GS2 p tb (.slice A n c) tv) w w2 := ho0.andThen hon1 (fun k _ hk => .inr (.inr hk))
  obtain ⟨g', c', ev⟩ : ∃ g' c', v' = .slice (some ⟨g', 0, none⟩) (L.length + 1) c' := by
    rcases hown.2 with ⟨_, e⟩ | ⟨g, cap, cur, e, _⟩
    · omega
    · exact ⟨g, cap, e⟩
  subst ev
  have p1 : p ≠ tb := a1.1.apart a3 (by decide)
  have p2 : gb ≠ tb := a2.apart a3 (by decide)
  have p3 : gb ≠ p := a2.apart a1.1 (by decide)
  have hgn : GNext w tv (.slice (some ⟨g', 0, none⟩) (L.length + 1) c') := by
    intro k hk
    rcases hat with e | e
    · exact .inl (by rw [← e]; exact hk)
    · rw [e] at hk
      injection hk with hk
      have := hbA.size
      exact .inr (by omega)
  have ho2 : Only (GS2 p tb (.slice A n c) tv) w ((w2.setCell ⟨tb, 0, none⟩ (.slice (some ⟨g', 0, none⟩) (L.length + 1) c')).setCell ⟨p, 1, none⟩ (.slice none 0 0)) :=
    (ho1.set (p := ⟨tb, 0, none⟩) (.inl (.inr (.inl rfl))) _).set (p := ⟨p, 1, none⟩) (.inl (.inl (.inl rfl))) _
  have hset : Only (fun k => k = tb ∨ k = p) w2 ((w2.setCell ⟨tb, 0, none⟩ (.slice (some ⟨g', 0, none⟩) (L.length + 1) c')).setCell ⟨p, 1, none⟩ (.slice none 0 0)) :=
    ((Only.refl _ _).set (p := ⟨tb, 0, none⟩) (.inl (.inl rfl)) _).set (p := ⟨p, 1, none⟩) (.inl (.inr rfl)) _
  obtain ⟨A9, c9, e9, q1, q2⟩ := a1.2.form
  injection e9 with e91 e92 e93
  subst e91 e93
  unfold maxLen at q2
  obtain ⟨g, cur, rfl, hBg, hg⟩ : ∃ g cur, A = some ⟨g, 0, none⟩ ∧ B ≤ g ∧ Row w g 5 cur ∧ ∀ (j b : Nat), s.held[j]? = some b → cur[j]? = some (Value.int .u8 (b : Nat)) := by
    rcases a1.2.2 with ⟨e, _⟩ | ⟨g, cap, cur, e, k1, k2, k3, k4, k5, k6⟩
    · injection e with _ e; omega
    · injection e with e1 e2 e3
      refine ⟨g, cur, e1, k1, k2, fun j b hb => ?_⟩
      have h9 := bts_at hb
      rw [← k6, List.getElem?_take] at h9
      split at h9
      · simpa using h9
      · cases h9
  have tok : ∀ r : RowB, TOk B w (.slice (some ⟨g, 0, none⟩) n c) r → TOk B ((w2.setCell ⟨tb, 0, none⟩ (.slice (some ⟨g', 0, none⟩) (L.length + 1) c')).setCell ⟨p, 1, none⟩ (.slice none 0 0)) (.slice none 0 0) r := fun r hr => by
    have s1 := hr.step (v := w2) (S := GS2 p tb (.slice (some ⟨g, 0, none⟩) n c) tv) ho1 (fun g cs h6 h7 hx => by
      rcases hx with (hx | hx) | hx | hx
      · exact h6.apart a1.1 (by decide) hx
      · exact h7 hx
      · exact h6.apart a3 (by decide) hx
      · exact n1 h6 (by decide) hx) (GNext.refl _ _)
    exact s1.step hset (fun g cs h6 _ hx => by
      rcases hx with hx | hx
      · exact h6.apart r3 (by decide) hx
      · exact h6.apart r1 (by decide) hx) (GNext.nil _ _)
  refine ⟨g', c', w2, hrun, r3, r2, r1, ⟨⟨(r1.elsewhere p1 _).written 1 _, ownY_nil _ _⟩, (r2.elsewhere p2 _).elsewhere p3 _, (r3.written 0 _).elsewhere p1.symm _, ?_, fun r hr => ?_⟩, ho2, hgn⟩
  · rw [List.length_append, List.map_append]
    have e : ([⟨some ⟨g, 0, none⟩, n, s.held⟩] : List RowB).map RowB.v = [.slice (some ⟨g, 0, none⟩) n n] := by simp [RowB.v, hn]
    rw [e]
    exact own_only hown hset (fun k hk hx => by
      rcases hx with hx | hx
      · subst hx; exact own_apart hown r3 (by decide) hk
      · subst hx; exact own_apart hown r1 (by decide) hk)
  · rw [List.mem_append, List.mem_singleton] at hr
    rcases hr with hr | rfl
    · exact tok r (a5 r hr)
    · refine ⟨g, cur, rfl, hBg, by simp [Value.ownBlock], by show s.held.length ≤ n; omega, by show n ≤ _; omega, ?_, hg.2⟩
      refine ((hg.1.later hbA).only hon1 (n1 hg.1 (by decide))).only hset (fun hx => ?_)
      have hgr := (hg.1.later hbA).only hon1 (n1 hg.1 (by decide))
      rcases hx with hx | hx
      · exact hgr.apart r3 (by decide) hx
      · exact hgr.apart r1 (by decide) hx

theorem told_no {s : GS} (h : s.held = []) (e : Bool) : s.told e = (s, []) := by
  unfold GS.told
  rw [if_pos h]
  cases e <;> rfl
theorem told_yes {s : GS} (h : s.held ≠ []) : s.told true = (⟨[], s.lost⟩, [s.held]) := by
  unfold GS.told
  rw [if_neg h]
  rfl
theorem GInv.draw {B C p gb tb : Nat} {w : World} {hv tv : Value} {s : GS} {L : List RowB} (h : GInv B C p gb tb w hv tv s L) : GInv B C p gb tb w.drew hv tv s L := h
set_option maxRecDepth 100000 in
set_option maxHeartbeats 1600000 in
theorem put1_any {B C p gb tb : Nat} {w : World} {hv tv : Value} {s : GS} {L : List RowB} {F : Option Addr} {f : List Nat} (b e : Bool) (m fc : Nat) (h : GInv B C p gb tb w hv tv s L) (hlost : s.lost ≤ 1000000) (hB : B ≤ w.heap.size) (hC : C ≤ w.heap.size) (hL : L.length ≤ 1000) (hs : ∀ W, Only (fun k => k = p) w W → Src W F (bts f)) (hm : f.length = m) (hm1 : m ≤ 9223372036854775807) (hm2 : b = false → m ≤ 100000) (hl : s.held.length ≤ 1000) :
    Calls Try.prog 168 #[.slice F m fc, .bool b, .bool e, .pointer (some ⟨gb, 0, none⟩), .pointer (some ⟨tb, 0, none⟩)] w (PutStep B C p gb tb hv tv ((s.come f b e).told e).1 L ((s.come f b e).told e).2 w) := by
  have HC := Lib.hid (gcome_any b e m fc h.1 hlost hB hs hm hm1 hm2 hl)
  have HH := Lib.hid h
  have g0 : w.cell? ⟨gb, 0, none⟩ = some (.pointer (some ⟨p, 0, none⟩)) := h.2.1.read rfl
  generalize s.come f b e = s1 at *
  clear h hs hm hlost hm2
  go_enter Try.func168, Try.ntmps168
  go_wp2_with fail
  refine (HC.out).mono ?_
  rintro e1 w1 ⟨rfl, hv1, h1, ho1, hg1⟩
  have hi1 := HH.out.come h1 ho1 hg1
  have hC1 := Nat.le_trans hC ho1.size
  have HO1 := Lib.hid (ho1.weaker (T := GS2 p tb hv tv) (fun k _ hk => .inl hk))
  have HG1 := Lib.hid hg1
  obtain ⟨A, c, rfl, q1, q2⟩ := h1.2.form
  unfold maxLen at q2
  have k0 : w1.cell? ⟨gb, 0, none⟩ = some (.pointer (some ⟨p, 0, none⟩)) := hi1.2.1.read rfl
  have k1 := h1.1.read (i := 1) rfl
  have HI1 := Lib.hid hi1
  clear hi1 h1 ho1 hg1 HC
  cases e
  · have HE := Lib.hid (show PutStep B C p gb tb hv tv (s1.told false).1 L (s1.told false).2 w (.returned (.tuple #[])) w1 from ⟨rfl, _, tv, L, HI1.out, by simp [GS.told], HO1.out, HG1.out, GNext.refl _ _, hC1⟩)
    go_wp2
    go_end0
    exact HE.out
  · by_cases h0 : s1.held = []
    · have HE := Lib.hid (show PutStep B C p gb tb hv tv (s1.told true).1 L (s1.told true).2 w (.returned (.tuple #[])) w1 from by rw [told_no h0]; exact ⟨rfl, _, tv, L, HI1.out, by simp, HO1.out, HG1.out, GNext.refl _ _, hC1⟩)
      have hd : decide ((0 : Int) < (s1.held.length : Int)) = false := decide_eq_false (by rw [h0]; simp)
      have h0' : s1.held.length ≤ 0 := by rw [h0]; simp
      clear h0
      go_wp2
      go_end0
      exact HE.out
    · have HT := Lib.hid (told_yes h0)
      obtain ⟨n, hn⟩ : ∃ n, s1.held.length = n := ⟨_, rfl⟩
      have hn0 : 0 < n := by rw [← hn]; exact List.length_pos_iff.2 h0
      rw [hn] at q1 k1 HI1 HG1
      obtain ⟨g', c', w2, hrun, r3, r2, r1, hi3, ho3, hg3⟩ := told_tail HI1.out hn hn0 hL hC1
      have hd : (0 : Int) < (n : Int) := by omega
      have t0 : w1.cell? ⟨tb, 0, none⟩ = some tv := HI1.out.2.2.1.read rfl
      have t1 : (w1.alloc (.cells #[.slice A n n] 30)).cell? ⟨tb, 0, none⟩ = some tv := (HI1.out.2.2.1.more _).read rfl
      have x0 : w2.cell? ⟨tb, 0, none⟩ = some tv := r3.read rfl
      have x1 := r3.free 0
      have p1 : p ≠ tb := r1.apart r3 (by decide)
      have p2 : gb ≠ tb := r2.apart r3 (by decide)
      have y0 : (w2.setCell ⟨tb, 0, none⟩ (.slice (some ⟨g', 0, none⟩) (L.length + 1) c')).cell? ⟨gb, 0, none⟩ = some (.pointer (some ⟨p, 0, none⟩)) := (r2.elsewhere p2 _).read rfl
      have y1 := (r1.elsewhere (p := ⟨tb, 0, none⟩) p1 (.slice (some ⟨g', 0, none⟩) (L.length + 1) c')).read (i := 1) rfl
      have y2 := (r1.elsewhere (p := ⟨tb, 0, none⟩) p1 (.slice (some ⟨g', 0, none⟩) (L.length + 1) c')).free 1
      have HE := Lib.hid (show PutStep B C p gb tb hv tv (s1.told true).1 L (s1.told true).2 w (.returned (.tuple #[])) _ from by
        rw [HT.out]
        refine ⟨rfl, _, _, _, hi3, ?_, ?_, GNext.nil _ _, ?_, ?_⟩
        · simp [texts]
        · refine HO1.out.andThen ho3 (fun k hk hx => ?_)
          rcases hx with (hx | hx) | hx
          · exact .inl (.inl hx)
          · rcases HG1.out k hx with h9 | h9
            · exact .inl (.inr h9)
            · omega
          · exact .inr hx
        · intro k hk
          rcases hg3 k hk with h9 | h9
          · exact .inl h9
          · exact .inr (Nat.le_trans HO1.out.size h9)
        · exact Nat.le_trans hC1 ho3.size)
      clear hi3 ho3 hg3 HT h0 HI1 HO1 HG1 r1 r2 r3 HH hn
      have hcl := fun W => clipb_any (A := A) n c W q1
      go_wp2
      go_region_law (first
        | (go_simp; go_at_call 170; refine (hcl _).mono ?_; rintro e2 wx ⟨rfl, rfl⟩; go_simp)
        | (refine step_run rfl (.tmp 22) (.tmp 28) 40 rfl tv (.slice (some ⟨w1.heap.size, 0, none⟩) 1 1) (by rfl) (by rfl) hrun ?_))
      all_goals
        go_wp2
        go_end0
        exact HE.out
end Go.Proofs.Ytgdpjaojlhdhdaa
namespace Go.Proofs.Ytgdpjaojlhdhdaa
open Go.RowKit

set_option maxRecDepth 100000 in
set_option maxHeartbeats 1600000 in
theorem geach_any {caps : Array Value} {A : Option Addr} {L : List RowB} (fi n cap : Nat) (hfi : fi ≤ 3) (Inv : Nat → World → Prop) (w : World) (hL : L.length = n) (hn0 : 0 < n) (hn : n ≤ 1000) (h0 : Inv 0 w)
    (hsrc : ∀ k W, Inv k W → RSrc W A L)
    (hstep : ∀ k W r, L[k]? = some r → Inv k W → Calls Try.prog 168 (#[.slice r.A r.bs.length r.cap, .bool (beg fi k), .bool (fin fi n k)] ++ caps) W fun e W' => e = .returned (.tuple #[]) ∧ Inv (k + 1) W') :
    Calls Try.prog 167 #[.int .i64 fi, .slice A n cap, .func (.func 168) #[] caps] w fun e w' => e = .returned (.tuple #[]) ∧ Inv n w' := by
  have hcf := fun (args : Array Value) (w : World) => enters Try.func168 (by kernel_rfl) rfl args w
  have HR := Lib.hid hsrc
  have HS := Lib.hid hstep
  have H0 := Lib.hid h0
  have HL := Lib.hid hL
  clear hsrc hstep h0 hL
  go_enter Try.func167, Try.ntmps167
  go_wp2
  refine wp_scope_jumps 0 (fun a' w' => ∃ k : Nat, 0 < k ∧ k ≤ n ∧ Fr [some (.int .i64 fi), some (.slice A n cap), some (.func (.func 168) #[] caps), none, none, none, some (.int .i64 ((n : Int) - 1)), some (.int .i64 k), none, none, none, none, none, none, none, none, none, none, none, none, none, none, none, none, none, none, none, none, none, none, none, none, none, none, none, none, none] a' ∧ Inv k w') (fun a' _ => n - (intOf (a'.tmps.getD 7 undef)).toNat) rfl ?_ ?_
  · obtain ⟨ad, rfl, hcell⟩ := HR.out 0 w H0.out (by rw [HL.out]; exact hn0)
    obtain ⟨r, hy⟩ : ∃ r, L[0]? = some r := ⟨_, List.getElem?_eq_getElem (by rw [HL.out]; exact hn0)⟩
    have c0 : w.cell? ad = some (.slice r.A r.bs.length r.cap) := by have h9 := (hcell 0 r hy).1; rw [addr_zero] at h9; exact h9
    have HC := HS.out 0 w r hy H0.out
    have hk0i : (0 : Int) < (n : Int) := by omega
    have hk1i : (0 : Int) ≤ (n : Int) - 1 := by omega
    clear hcell hy
    have HB : (bits BinOp.and IntKind.i64 fi 2 == 0) = beg fi 0 := by
      have hfi4 : fi = 0 ∨ fi = 1 ∨ fi = 2 ∨ fi = 3 := by omega
      rcases hfi4 with rfl | rfl | rfl | rfl <;> rfl
    have HD : (bits BinOp.and IntKind.i64 fi 1 == 0) = (fi % 2 == 0) := by
      have hfi4 : fi = 0 ∨ fi = 1 ∨ fi = 2 ∨ fi = 3 := by omega
      rcases hfi4 with rfl | rfl | rfl | rfl <;> rfl
    rw [← HB] at HC
    rcases Nat.lt_or_ge 1 n with hn1 | hn1
    · have hd1 : (1 : Int) < (n : Int) := by omega
      have HE : fin fi n 0 = true := by unfold fin; rw [decide_eq_true (by omega)]; rfl
      rw [HE] at HC
      clear HD hn1
      have HC := Lib.hid HC
      clear HE HB hfi
      go_wp2
      go_step3
      go_wp2_with fail
      refine (HC.out).mono ?_
      rintro e w1 ⟨rfl, hi⟩
      go_wp2_with fail
      go_step3
      refine ⟨rfl, 1, by omega, by omega, ?_, hi⟩
      simp only [Fr, Holes]
      repeat apply Exists.intro
      rfl
    · obtain rfl : n = 1 := by omega
      have HE : fin fi 1 0 = (bits BinOp.and IntKind.i64 fi 1 == 0) := by rw [HD]; unfold fin; rw [decide_eq_false (by omega)]; rfl
      rw [HE] at HC
      clear HD hn1
      have HC := Lib.hid HC
      clear HE HB hfi
      go_wp2
      go_step3
      go_wp2_with fail
      refine (HC.out).mono ?_
      rintro e w1 ⟨rfl, hi⟩
      go_wp2_with fail
      go_step3
      refine ⟨rfl, 1, by omega, by omega, ?_, hi⟩
      simp only [Fr, Holes]
      repeat apply Exists.intro
      rfl
  · rintro a' w' ⟨k, hk0, hk, hfr, hinv⟩
    simp only [Fr, Holes] at hfr
    repeat (obtain ⟨_, hfr⟩ := hfr)
    have HI := Lib.hid hinv
    clear hinv
    have hk0i : (0 : Int) < (k : Int) := by omega
    rcases Nat.lt_or_ge k n with hlt | hge
    · obtain ⟨ad, rfl, hcell⟩ := HR.out k w' HI.out (by rw [HL.out]; omega)
      obtain ⟨r, hy⟩ : ∃ r, L[k]? = some r := ⟨_, List.getElem?_eq_getElem (by rw [HL.out]; exact hlt)⟩
      have c0 : w'.cell? (ad.add k) = some (.slice r.A r.bs.length r.cap) := (hcell k r hy).1
      have HC := HS.out k w' r hy HI.out
      have hb : beg fi k = true := by unfold beg; rw [decide_eq_true hk0]; rfl
      rw [hb] at HC
      have hi0 : (0 : Int) ≤ (k : Int) := by omega
      have hi1 : (k : Int) < (n : Int) := by omega
      have hi2 : (k : Int) ≤ (n : Int) - 1 := by omega
      clear hcell hy hb
      have HD : (bits BinOp.and IntKind.i64 fi 1 == 0) = (fi % 2 == 0) := by
        have hfi4 : fi = 0 ∨ fi = 1 ∨ fi = 2 ∨ fi = 3 := by omega
        rcases hfi4 with rfl | rfl | rfl | rfl <;> rfl
      rcases Nat.lt_or_ge (k + 1) n with hn1 | hn1
      · have hd1 : (k : Int) < (n : Int) - 1 := by omega
        have HE : fin fi n k = true := by unfold fin; rw [decide_eq_true (by omega)]; rfl
        rw [HE] at HC
        clear HD hn1
        have HC := Lib.hid HC
        clear HE hfi
        go_wp2_with fail
        refine (HC.out).mono ?_
        rintro e w1 ⟨rfl, hi⟩
        go_wp2_with fail
        go_step3
        refine ⟨rfl, ⟨k + 1, by omega, by omega, ?_, hi⟩, ?_⟩
        · simp only [Fr, Holes]
          repeat apply Exists.intro
          rfl
        · simp [intOf]
          omega
      · have hd1 : decide ((k : Int) < (n : Int) - 1) = false := decide_eq_false (by omega)
        have hd2 : ¬ (k : Int) < (n : Int) - 1 := by omega
        have HE : fin fi n k = (bits BinOp.and IntKind.i64 fi 1 == 0) := by rw [HD]; unfold fin; rw [decide_eq_false (by omega)]; rfl
        rw [HE] at HC
        clear HD hn1
        have HC := Lib.hid HC
        clear HE hfi
        go_wp2_with fail
        refine (HC.out).mono ?_
        rintro e w1 ⟨rfl, hi⟩
        go_wp2_with fail
        go_step3
        refine ⟨rfl, ⟨k + 1, by omega, by omega, ?_, hi⟩, ?_⟩
        · simp only [Fr, Holes]
          repeat apply Exists.intro
          rfl
        · simp [intOf]
          omega
    · obtain rfl : k = n := by omega
      have hgt : ¬ (k : Int) ≤ (k : Int) - 1 := by omega
      go_wp2
      simp only [Exit.jump]
      go_end0
      exact ⟨rfl, HI.out⟩
end Go.Proofs.Ytgdpjaojlhdhdaa
