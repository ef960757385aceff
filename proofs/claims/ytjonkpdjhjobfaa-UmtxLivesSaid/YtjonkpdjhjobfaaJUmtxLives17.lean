/-
  The document's queue: a text pushed (its last region draws its order: the tree of all 24).
-/
import Derived.Test.YtjonkpdjhjobfaaJUmtxLives15
import Derived.Test.YtjonkpdjhjobfaaJUmtxLives16
import Derived.Test.YtjonkpdjhjobfaaJUmtxLives09
namespace Go.Proofs.Ytjonkpdjhjobfaa
open Go.RowKit

section
variable {w v : World} {y B : Nat} {room : Int} {E : List Ent} {AL AT AG : Option Addr} {cL cT cG : Nat}
theorem q0cell {n : Nat} (hr : Row w y 52 #[.int .i64 room, .slice AL n cL, .slice AT n cT, .slice AG n cG]) : w.cell? ⟨y, 0, none⟩ = some (.int .i64 room) := hr.read rfl
theorem KR.two (h : KR (fun t => t = 38) B w v) {u : World} (h2 : KR (fun t => t = 3) B v u) : KR (fun t => t = 38 ∨ t = 3) B w u := (h.weaker fun _ e => .inl e).trans (h2.weaker fun _ e => .inr e)
theorem KR.three (h : KR (fun t => t = 38 ∨ t = 3) B w v) {u : World} (h2 : KR (fun t => t = 4) B v u) : KR (fun t => t = 38 ∨ t = 3 ∨ t = 4) B w u := (h.weaker fun _ e => by rcases e with e | e; exact .inl e; exact .inr (.inl e)).trans (h2.weaker fun _ e => .inr (.inr e))
theorem RQ.snoc (h : RQ w y B room E) {A1 A2 A3 : Option Addr} {c1 c2 c3 g cap : Nat} {l : List Nat} (hr : Row v y 52 #[.int .i64 room, .slice A1 (E.length + 1) c1, .slice A2 (E.length + 1) c2, .slice A3 (E.length + 1) c3])
    (h1 : v.ownsRow B 38 1 (.slice A1 (E.length + 1) c1) (E.length + 1) (eL E ++ [.slice (some ⟨g, 0, none⟩) l.length cap])) (h2 : v.ownsRow B 3 1 (.slice A2 (E.length + 1) c2) (E.length + 1) (eT E ++ [.int .i64 0])) (h3 : v.ownsRow B 4 1 (.slice A3 (E.length + 1) c3) (E.length + 1) (eG E ++ [.bool false]))
    (hk : ∀ g cs, Row w g 5 cs → Row v g 5 cs) (hl : 0 < l.length) (hl2 : l.length ≤ 1000) (hc : l.length ≤ cap) (hc2 : cap ≤ 9223372036854775807) (hg : B ≤ g) (ht : ∃ cs : Array Value, Row v g 5 cs ∧ ∀ (j b : Nat), l[j]? = some b → cs[j]? = some (Value.int .u8 (b : Nat))) (hm : E.length ≤ 190) : RQ v y B room (E ++ [⟨g, cap, l, 0, false⟩]) := by
  have e1 : (E ++ ([⟨g, cap, l, 0, false⟩] : List Ent)).length = E.length + 1 := by simp
  refine ⟨⟨A1, c1, A2, c2, A3, c3, ?_, ⟨?_, ?_, ?_⟩⟩, fun e he => ?_, by rw [e1]; omega⟩
  · rw [e1]; exact hr
  · rw [e1, show eL (E ++ ([⟨g, cap, l, 0, false⟩] : List Ent)) = eL E ++ [.slice (some ⟨g, 0, none⟩) l.length cap] by unfold eL; simp]; exact h1
  · rw [e1, show eT (E ++ ([⟨g, cap, l, 0, false⟩] : List Ent)) = eT E ++ [.int .i64 0] by unfold eT; simp]; exact h2
  · rw [e1, show eG (E ++ ([⟨g, cap, l, 0, false⟩] : List Ent)) = eG E ++ [.bool false] by unfold eG; simp]; exact h3
  · rw [List.mem_append] at he
    rcases he with he | he
    · obtain ⟨a1, a2, a3, a4, a5, a6, a7, cs, a8, a9⟩ := h.ent e he
      exact ⟨a1, a2, a3, a4, a5, a6, a7, cs, hk _ _ a8, a9⟩
    · simp at he
      subst he
      exact ⟨hl, hl2, Nat.zero_le _, fun _ => hl, hc, hc2, hg, ht⟩
def SP (y : Nat) (a b c : Value) (l : Array Bool) (W : World) : Prop := (l.getD 11 true = false → W.cell? ⟨y, 1, none⟩ = some a) ∧ (l.getD 17 true = false → W.cell? ⟨y, 2, none⟩ = some b) ∧ (l.getD 23 true = false → W.cell? ⟨y, 3, none⟩ = some c)
theorem getD_unset {l : Array Bool} {i g : Nat} (h : (l.setIfInBounds i true).getD g true = false) : l.getD g true = false := by
  by_cases e : i = g
  · subst e
    rcases Nat.lt_or_ge i l.size with h' | h'
    · simp [Array.getD, h'] at h
    · simp [Array.getD, Nat.not_lt.2 h'] at h
  · rwa [getD_set_ne true e] at h
theorem SP.set {a b c : Value} {l : Array Bool} {W : World} (h : SP y a b c l W) (i : Nat) : SP y a b c (l.setIfInBounds i true) W := ⟨fun e => h.1 (getD_unset e), fun e => h.2.1 (getD_unset e), fun e => h.2.2 (getD_unset e)⟩
theorem SP.unset {a b c : Value} {l : Array Bool} {W : World} {i : Nat} (h : SP y a b c (l.setIfInBounds i true) W) (h1 : i ≠ 11) (h2 : i ≠ 17) (h3 : i ≠ 23) : SP y a b c l W :=
  ⟨fun e => h.1 (by rw [getD_set_ne true h1]; exact e), fun e => h.2.1 (by rw [getD_set_ne true h2]; exact e), fun e => h.2.2 (by rw [getD_set_ne true h3]; exact e)⟩
def X3 (t : TypeId) : Prop := t = 38 ∨ t = 3 ∨ t = 4
theorem sp_row {a b c : Value} (h : Row w y 52 #[.int .i64 room, a, b, c]) : ∀ l, SP y a b c l w := fun _ => ⟨fun _ => h.read rfl, fun _ => h.read rfl, fun _ => h.read rfl⟩
def TextAt (w : World) (g : Nat) (l : List Nat) : Prop := ∃ cs : Array Value, Row w g 5 cs ∧ ∀ (j b : Nat), l[j]? = some b → cs[j]? = some (Value.int .u8 (b : Nat))
theorem text_later {g : Nat} {l : List Nat} (h : TextAt w g l) (hb : Below w.heap.size w v) : TextAt v g l := by
  obtain ⟨cs, h1, h2⟩ := h
  exact ⟨cs, h1.later hb, h2⟩
theorem text_kr {g : Nat} {l : List Nat} {X : TypeId → Prop} (h : TextAt w g l) (hb : KR X B w v) (hx : ¬ X 5) : TextAt v g l := by
  obtain ⟨cs, h1, h2⟩ := h
  exact ⟨cs, hb.rows _ _ _ h1 hx, h2⟩
structure PS (w v : World) (y B : Nat) (room : Int) (q1 q2 q3 vl vt vg : Value) (nl nt ng : Nat) (xl xt xg : List Value) : Prop where
  kr : KR X3 B w v
  row : Row v y 52 #[.int .i64 room, q1, q2, q3]
  l : v.ownsRow B 38 1 vl nl xl
  t : v.ownsRow B 3 1 vt nt xt
  g : v.ownsRow B 4 1 vg ng xg
theorem PS.later {u : World} {q1 q2 q3 vl vt vg : Value} {nl nt ng : Nat} {xl xt xg : List Value} (h : PS w v y B room q1 q2 q3 vl vt vg nl nt ng xl xt xg) (hb : Below v.heap.size v u) : PS w u y B room q1 q2 q3 vl vt vg nl nt ng xl xt xg :=
  ⟨h.kr.trans (KR.of_below (Nat.le_trans h.kr.base h.kr.size) hb), h.row.later hb, own_after h.l hb, own_after h.t hb, own_after h.g hb⟩
theorem PS.fresh {q1 q2 q3 vl vt vg : Value} {nl nt ng n cap g : Nat} {xl xt xg : List Value} (h : PS w v y B room q1 q2 q3 vl vt vg nl nt ng xl xt xg) (h1 : n ≤ cap) (h2 : cap ≤ 9223372036854775807) (h3 : v.heap.size ≤ g) : n ≤ cap ∧ cap ≤ 9223372036854775807 ∧ B ≤ g :=
  ⟨h1, h2, Nat.le_trans (Nat.le_trans h.kr.base h.kr.size) h3⟩
theorem x3_of {E : TypeId} (h : X3 E) : ∀ t, t = E → X3 t := fun _ e => by rw [e]; exact h
theorem PS.byL {u : World} {q1 q2 q3 vl vt vg vn : Value} {nl nt ng nn : Nat} {xl xt xg xn : List Value} (h : PS w v y B room q1 q2 q3 vl vt vg nl nt ng xl xt xg) (o : KR (fun t => t = 38) B v u) (hn : u.ownsRow B 38 1 vn nn xn) : PS w u y B room q1 q2 q3 vn vt vg nn nt ng xn xt xg :=
  ⟨h.kr.trans (o.weaker (x3_of (.inl rfl))), o.rows _ _ _ h.row (by decide), hn, o.own h.t (by decide), o.own h.g (by decide)⟩
theorem PS.byT {u : World} {q1 q2 q3 vl vt vg vn : Value} {nl nt ng nn : Nat} {xl xt xg xn : List Value} (h : PS w v y B room q1 q2 q3 vl vt vg nl nt ng xl xt xg) (o : KR (fun t => t = 3) B v u) (hn : u.ownsRow B 3 1 vn nn xn) : PS w u y B room q1 q2 q3 vl vn vg nl nn ng xl xn xg :=
  ⟨h.kr.trans (o.weaker (x3_of (.inr (.inl rfl)))), o.rows _ _ _ h.row (by decide), o.own h.l (by decide), hn, o.own h.g (by decide)⟩
theorem PS.byG {u : World} {q1 q2 q3 vl vt vg vn : Value} {nl nt ng nn : Nat} {xl xt xg xn : List Value} (h : PS w v y B room q1 q2 q3 vl vt vg nl nt ng xl xt xg) (o : KR (fun t => t = 4) B v u) (hn : u.ownsRow B 4 1 vn nn xn) : PS w u y B room q1 q2 q3 vl vt vn nl nt nn xl xt xn :=
  ⟨h.kr.trans (o.weaker (x3_of (.inr (.inr rfl)))), o.rows _ _ _ h.row (by decide), o.own h.l (by decide), o.own h.t (by decide), hn⟩
theorem step_l {ops : Array Oper} {o : Oper} {a : Act} {K : Act → World → Prop} {Q : Exit → Act → World → Prop} {F : Prop} {g n cap gx : Nat} {s z : Operand} {q1 q2 q3 vl vt vg : Value} {nl nt ng : Nat} {xl xt xg : List Value} (hgd : o.guard = none)
    (ho : o.op = .call { callee := .builtin .append, args := #[s, z], argTypes := #[48, 48] }) (hty : o.type = 48) (hs : a.eval s = vl) (hz : a.eval z = .slice (some ⟨gx, 0, none⟩) 1 1) (h : PS w v y B room q1 q2 q3 vl vt vg nl nt ng xl xt xg) (hr : Row v gx 38 #[.slice (some ⟨g, 0, none⟩) n cap]) (hn : nl ≤ 100000)
    (hK : ∀ A' c' w', PS w w' y B room q1 q2 q3 (.slice A' (nl + 1) c') vt vg (nl + 1) nt ng (xl ++ [.slice (some ⟨g, 0, none⟩) n cap]) xt xg → KR (fun t => t = 38) B v w' → K (a.put o.dst (.slice A' (nl + 1) c')) w') :
    if Region.wanted o (yielded ops a.tmps) = true then Oper.wp Try.prog o a v K Q else F :=
  step_own (n := nl) (T := 48) (E := 38) (u := .slice (some ⟨g, 0, none⟩) n cap) hgd s z ho hty (by kernel_rfl) (show (Try.prog.info? 38).map (fun i => (i.zero, i.size, i.bytes)) = some (some (.slice none 0 0), 1, 24) by kernel_rfl) rfl (by omega) rfl hs hz h.l hr (Nat.le_trans h.kr.base h.kr.size) hn
    fun A' c' w' o1 o2 => hK A' c' w' (h.byL o2 o1) o2
theorem step_t {ops : Array Oper} {o : Oper} {a : Act} {K : Act → World → Prop} {Q : Exit → Act → World → Prop} {F : Prop} {gx : Nat} {s z : Operand} {q1 q2 q3 vl vt vg : Value} {nl nt ng : Nat} {xl xt xg : List Value} (hgd : o.guard = none)
    (ho : o.op = .call { callee := .builtin .append, args := #[s, z], argTypes := #[49, 49] }) (hty : o.type = 49) (hs : a.eval s = vt) (hz : a.eval z = .slice (some ⟨gx, 0, none⟩) 1 1) (h : PS w v y B room q1 q2 q3 vl vt vg nl nt ng xl xt xg) (hr : Row v gx 3 #[.int .i64 0]) (hn : nt ≤ 100000)
    (hK : ∀ A' c' w', PS w w' y B room q1 q2 q3 vl (.slice A' (nt + 1) c') vg nl (nt + 1) ng xl (xt ++ [.int .i64 0]) xg → KR (fun t => t = 3) B v w' → K (a.put o.dst (.slice A' (nt + 1) c')) w') :
    if Region.wanted o (yielded ops a.tmps) = true then Oper.wp Try.prog o a v K Q else F :=
  step_own (n := nt) (T := 49) (E := 3) (u := .int .i64 0) hgd s z ho hty (by kernel_rfl) (show (Try.prog.info? 3).map (fun i => (i.zero, i.size, i.bytes)) = some (some (.int .i64 0), 1, 8) by kernel_rfl) rfl (by omega) rfl hs hz h.t hr (Nat.le_trans h.kr.base h.kr.size) hn
    fun A' c' w' o1 o2 => hK A' c' w' (h.byT o2 o1) o2
theorem step_g {ops : Array Oper} {o : Oper} {a : Act} {K : Act → World → Prop} {Q : Exit → Act → World → Prop} {F : Prop} {gx : Nat} {s z : Operand} {q1 q2 q3 vl vt vg : Value} {nl nt ng : Nat} {xl xt xg : List Value} (hgd : o.guard = none)
    (ho : o.op = .call { callee := .builtin .append, args := #[s, z], argTypes := #[50, 50] }) (hty : o.type = 50) (hs : a.eval s = vg) (hz : a.eval z = .slice (some ⟨gx, 0, none⟩) 1 1) (h : PS w v y B room q1 q2 q3 vl vt vg nl nt ng xl xt xg) (hr : Row v gx 4 #[.bool false]) (hn : ng ≤ 100000)
    (hK : ∀ A' c' w', PS w w' y B room q1 q2 q3 vl vt (.slice A' (ng + 1) c') nl nt (ng + 1) xl xt (xg ++ [.bool false]) → KR (fun t => t = 4) B v w' → K (a.put o.dst (.slice A' (ng + 1) c')) w') :
    if Region.wanted o (yielded ops a.tmps) = true then Oper.wp Try.prog o a v K Q else F :=
  step_own (n := ng) (T := 50) (E := 4) (u := .bool false) hgd s z ho hty (by kernel_rfl) (show (Try.prog.info? 4).map (fun i => (i.zero, i.size, i.bytes)) = some (some (.bool false), 1, 1) by kernel_rfl) rfl (by omega) rfl hs hz h.g hr (Nat.le_trans h.kr.base h.kr.size) hn
    fun A' c' w' o1 o2 => hK A' c' w' (h.byG o2 o1) o2
theorem sp_vac {a b c : Value} {l : Array Bool} (h1 : l.getD 11 true = true) (h2 : l.getD 17 true = true) (h3 : l.getD 23 true = true) : SP y a b c l w :=
  ⟨fun e => (by rw [h1] at e; cases e), fun e => (by rw [h2] at e; cases e), fun e => (by rw [h3] at e; cases e)⟩
theorem only_three (v : World) (y : Nat) (a b c : Value) : Only (fun k => k = y) v (((v.setCell ⟨y, 1, none⟩ a).setCell ⟨y, 2, none⟩ b).setCell ⟨y, 3, none⟩ c) :=
  (((Only.refl (fun k => k = y) v).set (p := ⟨y, 1, none⟩) (.inl rfl) a).set (p := ⟨y, 2, none⟩) (.inl rfl) b).set (p := ⟨y, 3, none⟩) (.inl rfl) c
theorem sp_take {P : Program} {ops : Array Oper} {Q : Exit → Act → World → Prop} {q1 q2 q3 : Value} (g i t : Nat) {oi : Oper} {u : Value} {f : Nat} {l : Array Bool} {a : Act} (hi : ops[i]? = some oi) (hd : oi.dst = some t)
    (hb : (Region.noSelect ops && Region.free .any ops l i && (Region.ready .any ops l).contains i && (((ops[g]?).map fun o => o.after.any fun e => Region.binds .any e && e.on == i) == some true) && !(l.getD g true)) = true) (hQ : ∀ c a w, Q (.panic c) (a.put oi.dst u) w → Q (.panic c) a w)
    (hne : i ≠ 11 ∧ i ≠ 17 ∧ i ≠ 23) (hy : YieldsIf P ops (fun _ => True) oi u a) (hS : SP y q1 q2 q3 l w)
    (h : AnyL P .any ops Q (SP y q1 q2 q3) f (l.setIfInBounds i true) (a.put (some t) u) w) : AnyL P .any ops Q (SP y q1 q2 q3) (f + 1) l a w := by
  simp only [Bool.and_eq_true, beq_iff_eq, Bool.not_eq_true'] at hb
  obtain ⟨⟨⟨⟨b1, b2⟩, b3⟩, b4⟩, b5⟩ := hb
  exact AnyL.take_at g i t (fun _ => True) hi hd b1 b2 b3 b4 b5 hQ (fun _ _ _ _ => trivial) (fun l w h => SP.set h i) (fun l w h => SP.unset h hne.1 hne.2.1 hne.2.2) hy hS h
theorem rq_done {u : World} {A1 A2 A3 : Option Addr} {e1 e2 e3 g cap n N : Nat} {l : List Nat} {a1 a2 a3 : Value} (h : RQ w y B room E) (hN : E.length = N) (hl : l.length = n) (hn : n ≤ 1000) (hn0 : 0 < n)
    (hr : Row u y 52 #[.int .i64 room, .slice A1 (N + 1) e1, .slice A2 (N + 1) e2, .slice A3 (N + 1) e3]) (hp : PS w v y B room a1 a2 a3 (.slice A1 (N + 1) e1) (.slice A2 (N + 1) e2) (.slice A3 (N + 1) e3) (N + 1) (N + 1) (N + 1) (eL E ++ [.slice (some ⟨g, 0, none⟩) n cap]) (eT E ++ [.int .i64 0]) (eG E ++ [.bool false]))
    (ht : TextAt v g l) (hc : n ≤ cap ∧ cap ≤ 9223372036854775807 ∧ B ≤ g) (ho : Only (fun k => k = y) v u) (hyB : B ≤ y) (hm : N ≤ 190) :
    (Ending.returned (.tuple #[.int .u64 ((N + 1 : Nat) : Int), .int .i64 0]) = Ending.returned (.tuple #[.int .u64 ((N + 1 : Nat) : Int), .int .i64 0])) ∧ (∃ g cap, RQ u y B room (E ++ [⟨g, cap, l, 0, false⟩])) ∧ KR (fun t => t = 52 ∨ t = 38 ∨ t = 3 ∨ t = 4) B w u := by
  subst hN
  subst hl
  obtain ⟨hk, hy, h1, h2, h3⟩ := hp
  have hrow : ∀ g' t cs, Row v g' t cs → t ≠ 52 → Row u g' t cs := fun g' t cs hr' hne => hr'.only ho (fun e => by
    subst e
    unfold Row at hr' hy
    rw [hy] at hr'
    have e := Option.some.inj hr'
    cases e
    exact hne rfl)
  have hKu : KR (fun t => t = 52) B v u := ⟨Nat.le_trans hk.base hk.size, ho.below (Nat.le_trans hk.base hk.size) (fun k hk2 e => by omega), ho.size, fun g' t cs hr' hne => hrow g' t cs hr' hne⟩
  have hK : KR (fun t => t = 52 ∨ t = 38 ∨ t = 3 ∨ t = 4) B w u := (hk.weaker (fun _ e => .inr e)).trans (hKu.weaker (fun _ e => .inl e))
  refine ⟨rfl, ⟨g, cap, h.snoc hr (hKu.own h1 (by decide)) (hKu.own h2 (by decide)) (hKu.own h3 (by decide)) (fun g' cs hr' => hK.rows _ _ _ hr' (by decide)) hn0 hn hc.1 hc.2.1 hc.2.2 ?_ hm⟩, hK⟩
  obtain ⟨cs, q1, q2⟩ := ht
  exact ⟨cs, hrow _ _ _ q1 (by decide), q2⟩
set_option maxRecDepth 100000 in
set_option maxHeartbeats 102400000 in
theorem rq_push (A : Option Addr) (l : List Nat) (n c : Nat) (h : RQ w y B room E) (hl : l.length = n) (hn : n ≤ 1000) (hn0 : 0 < n) (hm : (idk E E.length).length < 64) (hf : ((byk E E.length + n : Nat) : Int) ≤ room) (hE : E.length ≤ 190) (hy : B ≤ y) (hB : B ≤ w.heap.size) (hsrc : QSrcB w A (qbts l)) : Calls Try.prog 19 #[.pointer (some ⟨y, 0, none⟩), .slice A n c] w fun e w' => e = .returned (.tuple #[.int .u64 ((E.length + 1 : Nat) : Int), .int .i64 0]) ∧ (∃ g cap, RQ w' y B room (E ++ [⟨g, cap, l, 0, false⟩])) ∧ KR (fun t => t = 52 ∨ t = 38 ∨ t = 3 ∨ t = 4) B w w' := by
  have HI := Lib.hid (fun W (hb : Below w.heap.size w W) => rq_ids (h.later hb))
  have HY := Lib.hid (fun W (hb : Below w.heap.size w W) => rq_bytes (h.later hb))
  have hbl := byk_le (E := E) (fun e he => (h.ent e he).2.1) E.length
  have hmm := h.many
  have HQ := Lib.hid h
  obtain ⟨AL, cL, AT, cT, AG, cG, hr, hlr⟩ := h.row
  have HR := Lib.hid hr
  have HL := Lib.hid hlr
  have HS := Lib.hid hsrc
  have HLN := Lib.hid hl
  have HBW := Lib.hid hB
  have HYB := Lib.hid hy
  have k0 := q0cell HR.out.drawn
  have HB0 := Lib.hid (bl_drew (Below.refl w.heap.size w))
  have h0 : ((n : Int) == 0) = false := by simp; omega
  have h1 : decide ((1000 : Int) < n) = false := by simp; omega
  have h6 : decide ((64 : Int) ≤ ((idk E E.length).length : Int)) = false := by simp; omega
  have hbl2 : byk E E.length ≤ 200000 := by omega
  generalize (idk E E.length).length = q at *
  generalize byk E E.length = by' at *
  have hw : IntKind.i64.wrap ((by' : Int) + (n : Int)) = (by' : Int) + (n : Int) := IntWalk.i64_in _ (by omega)
  have h7 : ¬ room < (by' : Int) + (n : Int) := by omega
  generalize hN : E.length = N at *
  have HNN := Lib.hid hN
  have hu : IntKind.u64.wrap ((N : Int) + 1) = (N : Int) + 1 := by rw [IntKind.wrap_u64]; omega
  clear h hr hlr hsrc hl hm hf hbl hB hy hN
  go_enter Try.func19, Try.ntmps19
  go_wp2
  go_region_held3 (fun w' => w'.cell? ⟨y, 0, none⟩ = some (.int .i64 room)) (first | assumption | exact k0 | exact q0cell HR1.out | exact q0cell HR2.out | go_keep)
    (first
      | (go_at_call 92; (with_reducible refine (HI.out _ HB0.out).mono ?_); rintro e w1 ⟨A1, c1, rfl, _, hb⟩; (have HB1 := Lib.hid (bl_step HB0.out hb); have HR1 := Lib.hid (HR.out.later (bl_step HB0.out hb)); clear hb))
      | (go_at_call 25; (with_reducible refine (HY.out _ HB1.out).mono ?_); rintro e w2 ⟨rfl, hb⟩; (have HB2 := Lib.hid (bl_step HB1.out hb); have HR2 := Lib.hid (HR1.out.later hb); clear hb)))
  go_wp2
  obtain ⟨c0, c1, c2, c3⟩ := qcells (HR2.out)
  have hy2 := HR2.out.inside
  have HB3 := Lib.hid (bl_drew HB2.out)
  clear k0
  have HL11 := Lib.hid HL.out.l
  have HT11 := Lib.hid HL.out.t
  have HG11 := Lib.hid HL.out.g
  rw [HNN.out] at HL11 HT11 HG11
  refine AnyL.start (S := SP y (.slice AL N cL) (.slice AT N cT) (.slice AG N cG)) (by kernel_rfl) ?_
  have hS0 : ∀ l, SP y (.slice AL N cL) (.slice AT N cT) (.slice AG N cG) l w2.drew := fun l => ⟨fun _ => c1, fun _ => c2, fun _ => c3⟩
  refine AnyL.take_at 24 0 29 (v := ?v0) (fun _ => True) (by simp only [List.getElem?_toArray, List.getElem?_cons_zero]; rfl) rfl (by decide +kernel) (by decide +kernel) (by decide +kernel) (by decide +kernel) (by decide +kernel) (by intro _ _ _ h; exact h) (fun _ _ _ _ => trivial) (fun l w h => SP.set h 0) (fun l w h => SP.unset h (by decide) (by decide) (by decide)) (Or.inl ⟨by rfl, ?y0⟩) (hS0 _) ?_
  case y0 =>
    intro W hT
    go_simp
    first | done | with_reducible rfl
  simp only [Act.put, List.setIfInBounds_toArray, List.set_cons_zero, List.set_cons_succ]
  refine AnyL.take_at 27 1 30 (v := ?v1) (fun _ => True) (by simp only [List.getElem?_toArray, List.getElem?_cons_succ, List.getElem?_cons_zero]; rfl) rfl (by decide +kernel) (by decide +kernel) (by decide +kernel) (by decide +kernel) (by decide +kernel) (by intro _ _ _ h; exact h) (fun _ _ _ _ => trivial) (fun l w h => SP.set h 1) (fun l w h => SP.unset h (by decide) (by decide) (by decide)) (Or.inl ⟨by rfl, ?y1⟩) (hS0 _) ?_
  case y1 =>
    intro W hT
    go_simp
    first | done | with_reducible rfl
  simp only [Act.put, List.setIfInBounds_toArray, List.set_cons_zero, List.set_cons_succ]
  refine AnyL.take_at 30 2 31 (v := ?v2) (fun _ => True) (by simp only [List.getElem?_toArray, List.getElem?_cons_succ, List.getElem?_cons_zero]; rfl) rfl (by decide +kernel) (by decide +kernel) (by decide +kernel) (by decide +kernel) (by decide +kernel) (by intro _ _ _ h; exact h) (fun _ _ _ _ => trivial) (fun l w h => SP.set h 2) (fun l w h => SP.unset h (by decide) (by decide) (by decide)) (Or.inl ⟨by rfl, ?y2⟩) (hS0 _) ?_
  case y2 =>
    intro W hT
    go_simp
    first | done | with_reducible rfl
  simp only [Act.put, List.setIfInBounds_toArray, List.set_cons_zero, List.set_cons_succ]
  refine AnyL.take_at 4 3 32 (v := ?v3) (fun _ => True) (by simp only [List.getElem?_toArray, List.getElem?_cons_succ, List.getElem?_cons_zero]; rfl) rfl (by decide +kernel) (by decide +kernel) (by decide +kernel) (by decide +kernel) (by decide +kernel) (by intro _ _ _ h; exact h) (fun _ _ _ _ => trivial) (fun l w h => SP.set h 3) (fun l w h => SP.unset h (by decide) (by decide) (by decide)) (Or.inl ⟨by rfl, ?y3⟩) (hS0 _) ?_
  case y3 =>
    intro W hT
    go_simp
    first | done | with_reducible rfl
  simp only [Act.put, List.setIfInBounds_toArray, List.set_cons_zero, List.set_cons_succ]
  refine AnyL.take_at 5 4 33 (v := ?v4) (fun _ => True) (by simp only [List.getElem?_toArray, List.getElem?_cons_succ, List.getElem?_cons_zero]; rfl) rfl (by decide +kernel) (by decide +kernel) (by decide +kernel) (by decide +kernel) (by decide +kernel) (by intro _ _ _ h; exact h) (fun _ _ _ _ => trivial) (fun l w h => SP.set h 4) (fun l w h => SP.unset h (by decide) (by decide) (by decide)) (Or.inl ⟨by rfl, ?y4⟩) (hS0 _) ?_
  case y4 =>
    intro W hT
    go_simp
    first | done | with_reducible rfl
  simp only [Act.put, List.setIfInBounds_toArray, List.set_cons_zero, List.set_cons_succ]
  refine AnyL.take_at 6 5 34 (v := ?v5) (fun _ => True) (by simp only [List.getElem?_toArray, List.getElem?_cons_succ, List.getElem?_cons_zero]; rfl) rfl (by decide +kernel) (by decide +kernel) (by decide +kernel) (by decide +kernel) (by decide +kernel) (by intro _ _ _ h; exact h) (fun _ _ _ _ => trivial) (fun l w h => SP.set h 5) (fun l w h => SP.unset h (by decide) (by decide) (by decide)) (Or.inl ⟨by rfl, ?y5⟩) (hS0 _) ?_
  case y5 =>
    intro W hT
    go_simp
    first | done | with_reducible rfl
  simp only [Act.put, List.setIfInBounds_toArray, List.set_cons_zero, List.set_cons_succ]
  refine AnyL.take_at 11 6 35 (v := ?v6) (fun W => W.cell? ⟨y, 1, none⟩ = some (.slice AL N cL)) (by simp only [List.getElem?_toArray, List.getElem?_cons_succ, List.getElem?_cons_zero]; rfl) rfl (by decide +kernel) (by decide +kernel) (by decide +kernel) (by decide +kernel) (by decide +kernel) (by intro _ _ _ h; exact h) (fun _ _ e h => h.1 e) (fun l w h => SP.set h 6) (fun l w h => SP.unset h (by decide) (by decide) (by decide)) (Or.inl ⟨by rfl, ?y6⟩) (hS0 _) ?_
  case y6 =>
    intro W hT
    go_simp
    first | done | with_reducible rfl
  simp only [Act.put, List.setIfInBounds_toArray, List.set_cons_zero, List.set_cons_succ]
  refine AnyL.take_at 9 7 36 (v := ?v7) (fun _ => True) (by simp only [List.getElem?_toArray, List.getElem?_cons_succ, List.getElem?_cons_zero]; rfl) rfl (by decide +kernel) (by decide +kernel) (by decide +kernel) (by decide +kernel) (by decide +kernel) (by intro _ _ _ h; exact h) (fun _ _ _ _ => trivial) (fun l w h => SP.set h 7) (fun l w h => SP.unset h (by decide) (by decide) (by decide)) (Or.inl ⟨by rfl, ?y7⟩) (hS0 _) ?_
  case y7 =>
    intro W hT
    go_simp
    first | done | with_reducible rfl
  simp only [Act.put, List.setIfInBounds_toArray, List.set_cons_zero, List.set_cons_succ]
  refine AnyL.take_at 9 8 37 (v := ?v8) (fun _ => True) (by simp only [List.getElem?_toArray, List.getElem?_cons_succ, List.getElem?_cons_zero]; rfl) rfl (by decide +kernel) (by decide +kernel) (by decide +kernel) (by decide +kernel) (by decide +kernel) (by intro _ _ _ h; exact h) (fun _ _ _ _ => trivial) (fun l w h => SP.set h 8) (fun l w h => SP.unset h (by decide) (by decide) (by decide)) (Or.inl ⟨by rfl, ?y8⟩) (hS0 _) ?_
  case y8 =>
    intro W hT
    go_simp
    first | done | with_reducible rfl
  simp only [Act.put, List.setIfInBounds_toArray, List.set_cons_zero, List.set_cons_succ]
  refine AnyL.take_at 13 12 41 (v := ?v12) (fun _ => True) (by simp only [List.getElem?_toArray, List.getElem?_cons_succ, List.getElem?_cons_zero]; rfl) rfl (by decide +kernel) (by decide +kernel) (by decide +kernel) (by decide +kernel) (by decide +kernel) (by intro _ _ _ h; exact h) (fun _ _ _ _ => trivial) (fun l w h => SP.set h 12) (fun l w h => SP.unset h (by decide) (by decide) (by decide)) (Or.inl ⟨by rfl, ?y12⟩) (hS0 _) ?_
  case y12 =>
    intro W hT
    go_simp
    first | done | with_reducible rfl
  simp only [Act.put, List.setIfInBounds_toArray, List.set_cons_zero, List.set_cons_succ]
  refine AnyL.take_at 14 13 42 (v := ?v13) (fun _ => True) (by simp only [List.getElem?_toArray, List.getElem?_cons_succ, List.getElem?_cons_zero]; rfl) rfl (by decide +kernel) (by decide +kernel) (by decide +kernel) (by decide +kernel) (by decide +kernel) (by intro _ _ _ h; exact h) (fun _ _ _ _ => trivial) (fun l w h => SP.set h 13) (fun l w h => SP.unset h (by decide) (by decide) (by decide)) (Or.inl ⟨by rfl, ?y13⟩) (hS0 _) ?_
  case y13 =>
    intro W hT
    go_simp
    first | done | with_reducible rfl
  simp only [Act.put, List.setIfInBounds_toArray, List.set_cons_zero, List.set_cons_succ]
  refine AnyL.take_at 15 14 43 (v := ?v14) (fun _ => True) (by simp only [List.getElem?_toArray, List.getElem?_cons_succ, List.getElem?_cons_zero]; rfl) rfl (by decide +kernel) (by decide +kernel) (by decide +kernel) (by decide +kernel) (by decide +kernel) (by intro _ _ _ h; exact h) (fun _ _ _ _ => trivial) (fun l w h => SP.set h 14) (fun l w h => SP.unset h (by decide) (by decide) (by decide)) (Or.inl ⟨by rfl, ?y14⟩) (hS0 _) ?_
  case y14 =>
    intro W hT
    go_simp
    first | done | with_reducible rfl
  simp only [Act.put, List.setIfInBounds_toArray, List.set_cons_zero, List.set_cons_succ]
  refine AnyL.take_at 17 15 44 (v := ?v15) (fun W => W.cell? ⟨y, 2, none⟩ = some (.slice AT N cT)) (by simp only [List.getElem?_toArray, List.getElem?_cons_succ, List.getElem?_cons_zero]; rfl) rfl (by decide +kernel) (by decide +kernel) (by decide +kernel) (by decide +kernel) (by decide +kernel) (by intro _ _ _ h; exact h) (fun _ _ e h => h.2.1 e) (fun l w h => SP.set h 15) (fun l w h => SP.unset h (by decide) (by decide) (by decide)) (Or.inl ⟨by rfl, ?y15⟩) (hS0 _) ?_
  case y15 =>
    intro W hT
    go_simp
    first | done | with_reducible rfl
  simp only [Act.put, List.setIfInBounds_toArray, List.set_cons_zero, List.set_cons_succ]
  refine AnyL.take_at 19 18 47 (v := ?v18) (fun _ => True) (by simp only [List.getElem?_toArray, List.getElem?_cons_succ, List.getElem?_cons_zero]; rfl) rfl (by decide +kernel) (by decide +kernel) (by decide +kernel) (by decide +kernel) (by decide +kernel) (by intro _ _ _ h; exact h) (fun _ _ _ _ => trivial) (fun l w h => SP.set h 18) (fun l w h => SP.unset h (by decide) (by decide) (by decide)) (Or.inl ⟨by rfl, ?y18⟩) (hS0 _) ?_
  case y18 =>
    intro W hT
    go_simp
    first | done | with_reducible rfl
  simp only [Act.put, List.setIfInBounds_toArray, List.set_cons_zero, List.set_cons_succ]
  refine AnyL.take_at 20 19 48 (v := ?v19) (fun _ => True) (by simp only [List.getElem?_toArray, List.getElem?_cons_succ, List.getElem?_cons_zero]; rfl) rfl (by decide +kernel) (by decide +kernel) (by decide +kernel) (by decide +kernel) (by decide +kernel) (by intro _ _ _ h; exact h) (fun _ _ _ _ => trivial) (fun l w h => SP.set h 19) (fun l w h => SP.unset h (by decide) (by decide) (by decide)) (Or.inl ⟨by rfl, ?y19⟩) (hS0 _) ?_
  case y19 =>
    intro W hT
    go_simp
    first | done | with_reducible rfl
  simp only [Act.put, List.setIfInBounds_toArray, List.set_cons_zero, List.set_cons_succ]
  refine AnyL.take_at 21 20 49 (v := ?v20) (fun _ => True) (by simp only [List.getElem?_toArray, List.getElem?_cons_succ, List.getElem?_cons_zero]; rfl) rfl (by decide +kernel) (by decide +kernel) (by decide +kernel) (by decide +kernel) (by decide +kernel) (by intro _ _ _ h; exact h) (fun _ _ _ _ => trivial) (fun l w h => SP.set h 20) (fun l w h => SP.unset h (by decide) (by decide) (by decide)) (Or.inl ⟨by rfl, ?y20⟩) (hS0 _) ?_
  case y20 =>
    intro W hT
    go_simp
    first | done | with_reducible rfl
  simp only [Act.put, List.setIfInBounds_toArray, List.set_cons_zero, List.set_cons_succ]
  refine AnyL.take_at 23 21 50 (v := ?v21) (fun W => W.cell? ⟨y, 3, none⟩ = some (.slice AG N cG)) (by simp only [List.getElem?_toArray, List.getElem?_cons_succ, List.getElem?_cons_zero]; rfl) rfl (by decide +kernel) (by decide +kernel) (by decide +kernel) (by decide +kernel) (by decide +kernel) (by intro _ _ _ h; exact h) (fun _ _ e h => h.2.2 e) (fun l w h => SP.set h 21) (fun l w h => SP.unset h (by decide) (by decide) (by decide)) (Or.inl ⟨by rfl, ?y21⟩) (hS0 _) ?_
  case y21 =>
    intro W hT
    go_simp
    first | done | with_reducible rfl
  simp only [Act.put, List.setIfInBounds_toArray, List.set_cons_zero, List.set_cons_succ]
  have HP := Lib.hid (show PS w w2.drew y B room (.slice AL N cL) (.slice AT N cT) (.slice AG N cG) (.slice AL N cL) (.slice AT N cT) (.slice AG N cG) N N N (eL E) (eT E) (eG E) from ⟨KR.of_below HBW.out HB3.out, HR2.out.drawn, own_after HL11.out HB3.out, own_after HT11.out HB3.out, own_after HG11.out HB3.out⟩)
  have HSRC := Lib.hid (HS.out.later HB3.out)
  clear hS0 c0 c1 c2 c3 hy2 HB3
  generalize w2.drew = wq at *
  refine AnyL.all (rs := [9, 16, 22]) (by decide +kernel) (by simp) ?_
  intro j hj
  simp only [List.mem_cons, List.not_mem_nil, or_false] at hj
  rcases hj with rfl | rfl | rfl
  · refine wpOp_step (i := 9) (by simp only [List.getElem?_toArray, List.getElem?_cons_succ, List.getElem?_cons_zero]; rfl) (fun K hK => ?_)
    refine step_copy (A := A) (c := c) (n := n) (l := l) rfl (.tmp 36) (.tmp 37) rfl rfl (by rfl) (by rfl) HLN.out hn0 (by omega) HSRC.out ?_
    intro g9 cap9 w1 q1 q2 q3 q4 q5
    have HC9 := Lib.hid (HP.out.fresh q1 q2 q3)
    have H9 := Lib.hid q4
    replace HP := Lib.hid (HP.out.later q5)
    refine hK _ _ ⟨sp_row HP.out.row _, ?_⟩
    clear hK K q1 q2 q3 q4 q5 HSRC
    try simp only [Act.put, List.setIfInBounds_toArray, List.set_cons_zero, List.set_cons_succ]
    refine AnyL.all (rs := [10, 16, 22]) (by decide +kernel) (by simp) ?_
    intro j hj
    simp only [List.mem_cons, List.not_mem_nil, or_false] at hj
    rcases hj with rfl | rfl | rfl
    · refine wpOp_step (i := 10) (by simp only [List.getElem?_toArray, List.getElem?_cons_succ, List.getElem?_cons_zero]; rfl) (fun K hK => ?_)
      rw [if_pos (by rfl)]
      go_simp
      have hb := bl_alloc (Below.refl w1.heap.size w1) (.cells #[.slice (some ⟨g9, 0, none⟩) n cap9] 38)
      replace HP := Lib.hid (HP.out.later hb)
      replace H9 := Lib.hid (text_later H9.out hb)
      have R10 := Lib.hid (Row.made w1 38 #[.slice (some ⟨g9, 0, none⟩) n cap9])
      refine hK _ _ ⟨sp_row HP.out.row _, ?_⟩
      clear hK K hb
      try simp only [Act.put, List.setIfInBounds_toArray, List.set_cons_zero, List.set_cons_succ]
      generalize w1.alloc (.cells #[.slice (some ⟨g9, 0, none⟩) n cap9] 38) = w2 at *
      generalize w1.heap.size = g10 at *
      refine AnyL.all (rs := [11, 16, 22]) (by decide +kernel) (by simp) ?_
      intro j hj
      simp only [List.mem_cons, List.not_mem_nil, or_false] at hj
      rcases hj with rfl | rfl | rfl
      · refine wpOp_step (i := 11) (by simp only [List.getElem?_toArray, List.getElem?_cons_succ, List.getElem?_cons_zero]; rfl) (fun K hK => ?_)
        refine step_l rfl rfl rfl (by rfl) (by rfl) HP.out R10.out (by omega) ?_
        intro A1 e1 w3 hp o2
        replace HP := Lib.hid hp
        replace H9 := Lib.hid (text_kr H9.out o2 (by decide))
        refine hK _ _ ⟨sp_row HP.out.row _, ?_⟩
        clear hK K hp o2 R10
        try simp only [Act.put, List.setIfInBounds_toArray, List.set_cons_zero, List.set_cons_succ]
        refine AnyL.all (rs := [16, 22]) (by decide +kernel) (by simp) ?_
        intro j hj
        simp only [List.mem_cons, List.not_mem_nil, or_false] at hj
        rcases hj with rfl | rfl
        · refine wpOp_step (i := 16) (by simp only [List.getElem?_toArray, List.getElem?_cons_succ, List.getElem?_cons_zero]; rfl) (fun K hK => ?_)
          rw [if_pos (by rfl)]
          go_simp
          have hb := bl_alloc (Below.refl w3.heap.size w3) (.cells #[.int .i64 0] 3)
          replace HP := Lib.hid (HP.out.later hb)
          replace H9 := Lib.hid (text_later H9.out hb)
          have R16 := Lib.hid (Row.made w3 3 #[.int .i64 0])
          refine hK _ _ ⟨sp_row HP.out.row _, ?_⟩
          clear hK K hb
          try simp only [Act.put, List.setIfInBounds_toArray, List.set_cons_zero, List.set_cons_succ]
          generalize w3.alloc (.cells #[.int .i64 0] 3) = w4 at *
          generalize w3.heap.size = g16 at *
          refine AnyL.all (rs := [17, 22]) (by decide +kernel) (by simp) ?_
          intro j hj
          simp only [List.mem_cons, List.not_mem_nil, or_false] at hj
          rcases hj with rfl | rfl
          · refine wpOp_step (i := 17) (by simp only [List.getElem?_toArray, List.getElem?_cons_succ, List.getElem?_cons_zero]; rfl) (fun K hK => ?_)
            refine step_t rfl rfl rfl (by rfl) (by rfl) HP.out R16.out (by omega) ?_
            intro A2 e2 w5 hp o2
            replace HP := Lib.hid hp
            replace H9 := Lib.hid (text_kr H9.out o2 (by decide))
            refine hK _ _ ⟨sp_row HP.out.row _, ?_⟩
            clear hK K hp o2 R16
            try simp only [Act.put, List.setIfInBounds_toArray, List.set_cons_zero, List.set_cons_succ]
            refine AnyL.all (rs := [22]) (by decide +kernel) (by simp) ?_
            intro j hj
            simp only [List.mem_cons, List.not_mem_nil, or_false] at hj
            subst hj
            refine wpOp_step (i := 22) (by simp only [List.getElem?_toArray, List.getElem?_cons_succ, List.getElem?_cons_zero]; rfl) (fun K hK => ?_)
            rw [if_pos (by rfl)]
            go_simp
            have hb := bl_alloc (Below.refl w5.heap.size w5) (.cells #[.bool false] 4)
            replace HP := Lib.hid (HP.out.later hb)
            replace H9 := Lib.hid (text_later H9.out hb)
            have R22 := Lib.hid (Row.made w5 4 #[.bool false])
            refine hK _ _ ⟨sp_row HP.out.row _, ?_⟩
            clear hK K hb
            try simp only [Act.put, List.setIfInBounds_toArray, List.set_cons_zero, List.set_cons_succ]
            generalize w5.alloc (.cells #[.bool false] 4) = w6 at *
            generalize w5.heap.size = g22 at *
            refine AnyL.all (rs := [23]) (by decide +kernel) (by simp) ?_
            intro j hj
            simp only [List.mem_cons, List.not_mem_nil, or_false] at hj
            subst hj
            refine wpOp_step (i := 23) (by simp only [List.getElem?_toArray, List.getElem?_cons_succ, List.getElem?_cons_zero]; rfl) (fun K hK => ?_)
            refine step_g rfl rfl rfl (by rfl) (by rfl) HP.out R22.out (by omega) ?_
            intro A3 e3 w7 hp o2
            replace HP := Lib.hid hp
            replace H9 := Lib.hid (text_kr H9.out o2 (by decide))
            refine hK _ _ ⟨sp_row HP.out.row _, ?_⟩
            clear hK K hp o2 R22
            try simp only [Act.put, List.setIfInBounds_toArray, List.set_cons_zero, List.set_cons_succ]
            obtain ⟨c0, c1, c2, c3⟩ := qcells HP.out.row
            have f1 := HP.out.row.free 1
            have f2 := HP.out.row.free 2
            have f3 := HP.out.row.free 3
            have HRF := Lib.hid (((HP.out.row.written 1 (.slice A1 (N + 1) e1)).written 2 (.slice A2 (N + 1) e2)).written 3 (.slice A3 (N + 1) e3))
            refine sp_take 25 24 53 (u := ?v24_1) (by simp only [List.getElem?_toArray, List.getElem?_cons_succ, List.getElem?_cons_zero]; rfl) rfl (by decide +kernel) (by intro _ _ _ h; exact h) (by decide) (Or.inl ⟨by rfl, ?y24_1⟩) (sp_vac (by decide +kernel) (by decide +kernel) (by decide +kernel)) ?_
            case y24_1 =>
              intro W hT
              go_simp
              first | done | with_reducible rfl
            simp only [Act.put, List.setIfInBounds_toArray, List.set_cons_zero, List.set_cons_succ]
            refine sp_take 26 25 54 (u := ?v25_1) (by simp only [List.getElem?_toArray, List.getElem?_cons_succ, List.getElem?_cons_zero]; rfl) rfl (by decide +kernel) (by intro _ _ _ h; exact h) (by decide) (Or.inl ⟨by rfl, ?y25_1⟩) (sp_vac (by decide +kernel) (by decide +kernel) (by decide +kernel)) ?_
            case y25_1 =>
              intro W hT
              go_simp
              first | done | with_reducible rfl
            simp only [Act.put, List.setIfInBounds_toArray, List.set_cons_zero, List.set_cons_succ]
            refine AnyL.all (rs := [26]) (by decide +kernel) (by simp) ?_
            intro j hj
            simp only [List.mem_cons, List.not_mem_nil, or_false] at hj
            subst hj
            refine wpOp_step (i := 26) (by simp only [List.getElem?_toArray, List.getElem?_cons_succ, List.getElem?_cons_zero]; rfl) (fun K hK => ?_)
            rw [if_pos (by rfl)]
            go_simp
            refine hK _ _ ⟨(sp_vac (by decide +kernel) (by decide +kernel) (by decide +kernel)), ?_⟩
            clear hK K
            refine sp_take 28 27 55 (u := ?v27_1) (by simp only [List.getElem?_toArray, List.getElem?_cons_succ, List.getElem?_cons_zero]; rfl) rfl (by decide +kernel) (by intro _ _ _ h; exact h) (by decide) (Or.inl ⟨by rfl, ?y27_1⟩) (sp_vac (by decide +kernel) (by decide +kernel) (by decide +kernel)) ?_
            case y27_1 =>
              intro W hT
              go_simp
              first | done | with_reducible rfl
            simp only [Act.put, List.setIfInBounds_toArray, List.set_cons_zero, List.set_cons_succ]
            refine sp_take 29 28 56 (u := ?v28_1) (by simp only [List.getElem?_toArray, List.getElem?_cons_succ, List.getElem?_cons_zero]; rfl) rfl (by decide +kernel) (by intro _ _ _ h; exact h) (by decide) (Or.inl ⟨by rfl, ?y28_1⟩) (sp_vac (by decide +kernel) (by decide +kernel) (by decide +kernel)) ?_
            case y28_1 =>
              intro W hT
              go_simp
              first | done | with_reducible rfl
            simp only [Act.put, List.setIfInBounds_toArray, List.set_cons_zero, List.set_cons_succ]
            refine AnyL.all (rs := [29]) (by decide +kernel) (by simp) ?_
            intro j hj
            simp only [List.mem_cons, List.not_mem_nil, or_false] at hj
            subst hj
            refine wpOp_step (i := 29) (by simp only [List.getElem?_toArray, List.getElem?_cons_succ, List.getElem?_cons_zero]; rfl) (fun K hK => ?_)
            rw [if_pos (by rfl)]
            go_simp
            refine hK _ _ ⟨(sp_vac (by decide +kernel) (by decide +kernel) (by decide +kernel)), ?_⟩
            clear hK K
            refine sp_take 31 30 57 (u := ?v30_1) (by simp only [List.getElem?_toArray, List.getElem?_cons_succ, List.getElem?_cons_zero]; rfl) rfl (by decide +kernel) (by intro _ _ _ h; exact h) (by decide) (Or.inl ⟨by rfl, ?y30_1⟩) (sp_vac (by decide +kernel) (by decide +kernel) (by decide +kernel)) ?_
            case y30_1 =>
              intro W hT
              go_simp
              first | done | with_reducible rfl
            simp only [Act.put, List.setIfInBounds_toArray, List.set_cons_zero, List.set_cons_succ]
            refine sp_take 32 31 58 (u := ?v31_1) (by simp only [List.getElem?_toArray, List.getElem?_cons_succ, List.getElem?_cons_zero]; rfl) rfl (by decide +kernel) (by intro _ _ _ h; exact h) (by decide) (Or.inl ⟨by rfl, ?y31_1⟩) (sp_vac (by decide +kernel) (by decide +kernel) (by decide +kernel)) ?_
            case y31_1 =>
              intro W hT
              go_simp
              first | done | with_reducible rfl
            simp only [Act.put, List.setIfInBounds_toArray, List.set_cons_zero, List.set_cons_succ]
            refine AnyL.all (rs := [32]) (by decide +kernel) (by simp) ?_
            intro j hj
            simp only [List.mem_cons, List.not_mem_nil, or_false] at hj
            subst hj
            refine wpOp_step (i := 32) (by simp only [List.getElem?_toArray, List.getElem?_cons_succ, List.getElem?_cons_zero]; rfl) (fun K hK => ?_)
            rw [if_pos (by rfl)]
            go_simp
            refine hK _ _ ⟨(sp_vac (by decide +kernel) (by decide +kernel) (by decide +kernel)), ?_⟩
            clear hK K
            refine AnyL.done (by decide +kernel) ?_ _
            have HON := Lib.hid (only_three w7 y (.slice A1 (N + 1) e1) (.slice A2 (N + 1) e2) (.slice A3 (N + 1) e3))
            clear c0 c1 c2 c3 f1 f2 f3
            generalize ((w7.setCell ⟨y, 1, none⟩ (.slice A1 (N + 1) e1)).setCell ⟨y, 2, none⟩ (.slice A2 (N + 1) e2)).setCell ⟨y, 3, none⟩ (.slice A3 (N + 1) e3) = wf at *
            have k1 : wf.cell? ⟨y, 1, none⟩ = some (.slice A1 (N + 1) e1) := HRF.out.read rfl
            go_wp2
            go_ret2
            exact rq_done HQ.out HNN.out HLN.out hn hn0 HRF.out HP.out H9.out HC9.out HON.out HYB.out (by omega)
          · refine wpOp_step (i := 22) (by simp only [List.getElem?_toArray, List.getElem?_cons_succ, List.getElem?_cons_zero]; rfl) (fun K hK => ?_)
            rw [if_pos (by rfl)]
            go_simp
            have hb := bl_alloc (Below.refl w4.heap.size w4) (.cells #[.bool false] 4)
            replace HP := Lib.hid (HP.out.later hb)
            replace R16 := Lib.hid (R16.out.later hb)
            replace H9 := Lib.hid (text_later H9.out hb)
            have R22 := Lib.hid (Row.made w4 4 #[.bool false])
            refine hK _ _ ⟨sp_row HP.out.row _, ?_⟩
            clear hK K hb
            try simp only [Act.put, List.setIfInBounds_toArray, List.set_cons_zero, List.set_cons_succ]
            generalize w4.alloc (.cells #[.bool false] 4) = w8 at *
            generalize w4.heap.size = g22 at *
            refine AnyL.all (rs := [17]) (by decide +kernel) (by simp) ?_
            intro j hj
            simp only [List.mem_cons, List.not_mem_nil, or_false] at hj
            subst hj
            refine wpOp_step (i := 17) (by simp only [List.getElem?_toArray, List.getElem?_cons_succ, List.getElem?_cons_zero]; rfl) (fun K hK => ?_)
            refine step_t rfl rfl rfl (by rfl) (by rfl) HP.out R16.out (by omega) ?_
            intro A2 e2 w9 hp o2
            replace HP := Lib.hid hp
            replace H9 := Lib.hid (text_kr H9.out o2 (by decide))
            replace R22 := Lib.hid (o2.rows _ _ _ R22.out (by decide))
            refine hK _ _ ⟨sp_row HP.out.row _, ?_⟩
            clear hK K hp o2 R16
            try simp only [Act.put, List.setIfInBounds_toArray, List.set_cons_zero, List.set_cons_succ]
            refine AnyL.all (rs := [23]) (by decide +kernel) (by simp) ?_
            intro j hj
            simp only [List.mem_cons, List.not_mem_nil, or_false] at hj
            subst hj
            refine wpOp_step (i := 23) (by simp only [List.getElem?_toArray, List.getElem?_cons_succ, List.getElem?_cons_zero]; rfl) (fun K hK => ?_)
            refine step_g rfl rfl rfl (by rfl) (by rfl) HP.out R22.out (by omega) ?_
            intro A3 e3 w10 hp o2
            replace HP := Lib.hid hp
            replace H9 := Lib.hid (text_kr H9.out o2 (by decide))
            refine hK _ _ ⟨sp_row HP.out.row _, ?_⟩
            clear hK K hp o2 R22
            try simp only [Act.put, List.setIfInBounds_toArray, List.set_cons_zero, List.set_cons_succ]
            obtain ⟨c0, c1, c2, c3⟩ := qcells HP.out.row
            have f1 := HP.out.row.free 1
            have f2 := HP.out.row.free 2
            have f3 := HP.out.row.free 3
            have HRF := Lib.hid (((HP.out.row.written 1 (.slice A1 (N + 1) e1)).written 2 (.slice A2 (N + 1) e2)).written 3 (.slice A3 (N + 1) e3))
            refine sp_take 25 24 53 (u := ?v24_2) (by simp only [List.getElem?_toArray, List.getElem?_cons_succ, List.getElem?_cons_zero]; rfl) rfl (by decide +kernel) (by intro _ _ _ h; exact h) (by decide) (Or.inl ⟨by rfl, ?y24_2⟩) (sp_vac (by decide +kernel) (by decide +kernel) (by decide +kernel)) ?_
            case y24_2 =>
              intro W hT
              go_simp
              first | done | with_reducible rfl
            simp only [Act.put, List.setIfInBounds_toArray, List.set_cons_zero, List.set_cons_succ]
            refine sp_take 26 25 54 (u := ?v25_2) (by simp only [List.getElem?_toArray, List.getElem?_cons_succ, List.getElem?_cons_zero]; rfl) rfl (by decide +kernel) (by intro _ _ _ h; exact h) (by decide) (Or.inl ⟨by rfl, ?y25_2⟩) (sp_vac (by decide +kernel) (by decide +kernel) (by decide +kernel)) ?_
            case y25_2 =>
              intro W hT
              go_simp
              first | done | with_reducible rfl
            simp only [Act.put, List.setIfInBounds_toArray, List.set_cons_zero, List.set_cons_succ]
            refine AnyL.all (rs := [26]) (by decide +kernel) (by simp) ?_
            intro j hj
            simp only [List.mem_cons, List.not_mem_nil, or_false] at hj
            subst hj
            refine wpOp_step (i := 26) (by simp only [List.getElem?_toArray, List.getElem?_cons_succ, List.getElem?_cons_zero]; rfl) (fun K hK => ?_)
            rw [if_pos (by rfl)]
            go_simp
            refine hK _ _ ⟨(sp_vac (by decide +kernel) (by decide +kernel) (by decide +kernel)), ?_⟩
            clear hK K
            refine sp_take 28 27 55 (u := ?v27_2) (by simp only [List.getElem?_toArray, List.getElem?_cons_succ, List.getElem?_cons_zero]; rfl) rfl (by decide +kernel) (by intro _ _ _ h; exact h) (by decide) (Or.inl ⟨by rfl, ?y27_2⟩) (sp_vac (by decide +kernel) (by decide +kernel) (by decide +kernel)) ?_
            case y27_2 =>
              intro W hT
              go_simp
              first | done | with_reducible rfl
            simp only [Act.put, List.setIfInBounds_toArray, List.set_cons_zero, List.set_cons_succ]
            refine sp_take 29 28 56 (u := ?v28_2) (by simp only [List.getElem?_toArray, List.getElem?_cons_succ, List.getElem?_cons_zero]; rfl) rfl (by decide +kernel) (by intro _ _ _ h; exact h) (by decide) (Or.inl ⟨by rfl, ?y28_2⟩) (sp_vac (by decide +kernel) (by decide +kernel) (by decide +kernel)) ?_
            case y28_2 =>
              intro W hT
              go_simp
              first | done | with_reducible rfl
            simp only [Act.put, List.setIfInBounds_toArray, List.set_cons_zero, List.set_cons_succ]
            refine AnyL.all (rs := [29]) (by decide +kernel) (by simp) ?_
            intro j hj
            simp only [List.mem_cons, List.not_mem_nil, or_false] at hj
            subst hj
            refine wpOp_step (i := 29) (by simp only [List.getElem?_toArray, List.getElem?_cons_succ, List.getElem?_cons_zero]; rfl) (fun K hK => ?_)
            rw [if_pos (by rfl)]
            go_simp
            refine hK _ _ ⟨(sp_vac (by decide +kernel) (by decide +kernel) (by decide +kernel)), ?_⟩
            clear hK K
            refine sp_take 31 30 57 (u := ?v30_2) (by simp only [List.getElem?_toArray, List.getElem?_cons_succ, List.getElem?_cons_zero]; rfl) rfl (by decide +kernel) (by intro _ _ _ h; exact h) (by decide) (Or.inl ⟨by rfl, ?y30_2⟩) (sp_vac (by decide +kernel) (by decide +kernel) (by decide +kernel)) ?_
            case y30_2 =>
              intro W hT
              go_simp
              first | done | with_reducible rfl
            simp only [Act.put, List.setIfInBounds_toArray, List.set_cons_zero, List.set_cons_succ]
            refine sp_take 32 31 58 (u := ?v31_2) (by simp only [List.getElem?_toArray, List.getElem?_cons_succ, List.getElem?_cons_zero]; rfl) rfl (by decide +kernel) (by intro _ _ _ h; exact h) (by decide) (Or.inl ⟨by rfl, ?y31_2⟩) (sp_vac (by decide +kernel) (by decide +kernel) (by decide +kernel)) ?_
            case y31_2 =>
              intro W hT
              go_simp
              first | done | with_reducible rfl
            simp only [Act.put, List.setIfInBounds_toArray, List.set_cons_zero, List.set_cons_succ]
            refine AnyL.all (rs := [32]) (by decide +kernel) (by simp) ?_
            intro j hj
            simp only [List.mem_cons, List.not_mem_nil, or_false] at hj
            subst hj
            refine wpOp_step (i := 32) (by simp only [List.getElem?_toArray, List.getElem?_cons_succ, List.getElem?_cons_zero]; rfl) (fun K hK => ?_)
            rw [if_pos (by rfl)]
            go_simp
            refine hK _ _ ⟨(sp_vac (by decide +kernel) (by decide +kernel) (by decide +kernel)), ?_⟩
            clear hK K
            refine AnyL.done (by decide +kernel) ?_ _
            have HON := Lib.hid (only_three w10 y (.slice A1 (N + 1) e1) (.slice A2 (N + 1) e2) (.slice A3 (N + 1) e3))
            clear c0 c1 c2 c3 f1 f2 f3
            generalize ((w10.setCell ⟨y, 1, none⟩ (.slice A1 (N + 1) e1)).setCell ⟨y, 2, none⟩ (.slice A2 (N + 1) e2)).setCell ⟨y, 3, none⟩ (.slice A3 (N + 1) e3) = wf at *
            have k1 : wf.cell? ⟨y, 1, none⟩ = some (.slice A1 (N + 1) e1) := HRF.out.read rfl
            go_wp2
            go_ret2
            exact rq_done HQ.out HNN.out HLN.out hn hn0 HRF.out HP.out H9.out HC9.out HON.out HYB.out (by omega)
        · refine wpOp_step (i := 22) (by simp only [List.getElem?_toArray, List.getElem?_cons_succ, List.getElem?_cons_zero]; rfl) (fun K hK => ?_)
          rw [if_pos (by rfl)]
          go_simp
          have hb := bl_alloc (Below.refl w3.heap.size w3) (.cells #[.bool false] 4)
          replace HP := Lib.hid (HP.out.later hb)
          replace H9 := Lib.hid (text_later H9.out hb)
          have R22 := Lib.hid (Row.made w3 4 #[.bool false])
          refine hK _ _ ⟨sp_row HP.out.row _, ?_⟩
          clear hK K hb
          try simp only [Act.put, List.setIfInBounds_toArray, List.set_cons_zero, List.set_cons_succ]
          generalize w3.alloc (.cells #[.bool false] 4) = w11 at *
          generalize w3.heap.size = g22 at *
          refine AnyL.all (rs := [16]) (by decide +kernel) (by simp) ?_
          intro j hj
          simp only [List.mem_cons, List.not_mem_nil, or_false] at hj
          subst hj
          refine wpOp_step (i := 16) (by simp only [List.getElem?_toArray, List.getElem?_cons_succ, List.getElem?_cons_zero]; rfl) (fun K hK => ?_)
          rw [if_pos (by rfl)]
          go_simp
          have hb := bl_alloc (Below.refl w11.heap.size w11) (.cells #[.int .i64 0] 3)
          replace HP := Lib.hid (HP.out.later hb)
          replace R22 := Lib.hid (R22.out.later hb)
          replace H9 := Lib.hid (text_later H9.out hb)
          have R16 := Lib.hid (Row.made w11 3 #[.int .i64 0])
          refine hK _ _ ⟨sp_row HP.out.row _, ?_⟩
          clear hK K hb
          try simp only [Act.put, List.setIfInBounds_toArray, List.set_cons_zero, List.set_cons_succ]
          generalize w11.alloc (.cells #[.int .i64 0] 3) = w12 at *
          generalize w11.heap.size = g16 at *
          refine AnyL.all (rs := [17]) (by decide +kernel) (by simp) ?_
          intro j hj
          simp only [List.mem_cons, List.not_mem_nil, or_false] at hj
          subst hj
          refine wpOp_step (i := 17) (by simp only [List.getElem?_toArray, List.getElem?_cons_succ, List.getElem?_cons_zero]; rfl) (fun K hK => ?_)
          refine step_t rfl rfl rfl (by rfl) (by rfl) HP.out R16.out (by omega) ?_
          intro A2 e2 w13 hp o2
          replace HP := Lib.hid hp
          replace H9 := Lib.hid (text_kr H9.out o2 (by decide))
          replace R22 := Lib.hid (o2.rows _ _ _ R22.out (by decide))
          refine hK _ _ ⟨sp_row HP.out.row _, ?_⟩
          clear hK K hp o2 R16
          try simp only [Act.put, List.setIfInBounds_toArray, List.set_cons_zero, List.set_cons_succ]
          refine AnyL.all (rs := [23]) (by decide +kernel) (by simp) ?_
          intro j hj
          simp only [List.mem_cons, List.not_mem_nil, or_false] at hj
          subst hj
          refine wpOp_step (i := 23) (by simp only [List.getElem?_toArray, List.getElem?_cons_succ, List.getElem?_cons_zero]; rfl) (fun K hK => ?_)
          refine step_g rfl rfl rfl (by rfl) (by rfl) HP.out R22.out (by omega) ?_
          intro A3 e3 w14 hp o2
          replace HP := Lib.hid hp
          replace H9 := Lib.hid (text_kr H9.out o2 (by decide))
          refine hK _ _ ⟨sp_row HP.out.row _, ?_⟩
          clear hK K hp o2 R22
          try simp only [Act.put, List.setIfInBounds_toArray, List.set_cons_zero, List.set_cons_succ]
          obtain ⟨c0, c1, c2, c3⟩ := qcells HP.out.row
          have f1 := HP.out.row.free 1
          have f2 := HP.out.row.free 2
          have f3 := HP.out.row.free 3
          have HRF := Lib.hid (((HP.out.row.written 1 (.slice A1 (N + 1) e1)).written 2 (.slice A2 (N + 1) e2)).written 3 (.slice A3 (N + 1) e3))
          refine sp_take 25 24 53 (u := ?v24_3) (by simp only [List.getElem?_toArray, List.getElem?_cons_succ, List.getElem?_cons_zero]; rfl) rfl (by decide +kernel) (by intro _ _ _ h; exact h) (by decide) (Or.inl ⟨by rfl, ?y24_3⟩) (sp_vac (by decide +kernel) (by decide +kernel) (by decide +kernel)) ?_
          case y24_3 =>
            intro W hT
            go_simp
            first | done | with_reducible rfl
          simp only [Act.put, List.setIfInBounds_toArray, List.set_cons_zero, List.set_cons_succ]
          refine sp_take 26 25 54 (u := ?v25_3) (by simp only [List.getElem?_toArray, List.getElem?_cons_succ, List.getElem?_cons_zero]; rfl) rfl (by decide +kernel) (by intro _ _ _ h; exact h) (by decide) (Or.inl ⟨by rfl, ?y25_3⟩) (sp_vac (by decide +kernel) (by decide +kernel) (by decide +kernel)) ?_
          case y25_3 =>
            intro W hT
            go_simp
            first | done | with_reducible rfl
          simp only [Act.put, List.setIfInBounds_toArray, List.set_cons_zero, List.set_cons_succ]
          refine AnyL.all (rs := [26]) (by decide +kernel) (by simp) ?_
          intro j hj
          simp only [List.mem_cons, List.not_mem_nil, or_false] at hj
          subst hj
          refine wpOp_step (i := 26) (by simp only [List.getElem?_toArray, List.getElem?_cons_succ, List.getElem?_cons_zero]; rfl) (fun K hK => ?_)
          rw [if_pos (by rfl)]
          go_simp
          refine hK _ _ ⟨(sp_vac (by decide +kernel) (by decide +kernel) (by decide +kernel)), ?_⟩
          clear hK K
          refine sp_take 28 27 55 (u := ?v27_3) (by simp only [List.getElem?_toArray, List.getElem?_cons_succ, List.getElem?_cons_zero]; rfl) rfl (by decide +kernel) (by intro _ _ _ h; exact h) (by decide) (Or.inl ⟨by rfl, ?y27_3⟩) (sp_vac (by decide +kernel) (by decide +kernel) (by decide +kernel)) ?_
          case y27_3 =>
            intro W hT
            go_simp
            first | done | with_reducible rfl
          simp only [Act.put, List.setIfInBounds_toArray, List.set_cons_zero, List.set_cons_succ]
          refine sp_take 29 28 56 (u := ?v28_3) (by simp only [List.getElem?_toArray, List.getElem?_cons_succ, List.getElem?_cons_zero]; rfl) rfl (by decide +kernel) (by intro _ _ _ h; exact h) (by decide) (Or.inl ⟨by rfl, ?y28_3⟩) (sp_vac (by decide +kernel) (by decide +kernel) (by decide +kernel)) ?_
          case y28_3 =>
            intro W hT
            go_simp
            first | done | with_reducible rfl
          simp only [Act.put, List.setIfInBounds_toArray, List.set_cons_zero, List.set_cons_succ]
          refine AnyL.all (rs := [29]) (by decide +kernel) (by simp) ?_
          intro j hj
          simp only [List.mem_cons, List.not_mem_nil, or_false] at hj
          subst hj
          refine wpOp_step (i := 29) (by simp only [List.getElem?_toArray, List.getElem?_cons_succ, List.getElem?_cons_zero]; rfl) (fun K hK => ?_)
          rw [if_pos (by rfl)]
          go_simp
          refine hK _ _ ⟨(sp_vac (by decide +kernel) (by decide +kernel) (by decide +kernel)), ?_⟩
          clear hK K
          refine sp_take 31 30 57 (u := ?v30_3) (by simp only [List.getElem?_toArray, List.getElem?_cons_succ, List.getElem?_cons_zero]; rfl) rfl (by decide +kernel) (by intro _ _ _ h; exact h) (by decide) (Or.inl ⟨by rfl, ?y30_3⟩) (sp_vac (by decide +kernel) (by decide +kernel) (by decide +kernel)) ?_
          case y30_3 =>
            intro W hT
            go_simp
            first | done | with_reducible rfl
          simp only [Act.put, List.setIfInBounds_toArray, List.set_cons_zero, List.set_cons_succ]
          refine sp_take 32 31 58 (u := ?v31_3) (by simp only [List.getElem?_toArray, List.getElem?_cons_succ, List.getElem?_cons_zero]; rfl) rfl (by decide +kernel) (by intro _ _ _ h; exact h) (by decide) (Or.inl ⟨by rfl, ?y31_3⟩) (sp_vac (by decide +kernel) (by decide +kernel) (by decide +kernel)) ?_
          case y31_3 =>
            intro W hT
            go_simp
            first | done | with_reducible rfl
          simp only [Act.put, List.setIfInBounds_toArray, List.set_cons_zero, List.set_cons_succ]
          refine AnyL.all (rs := [32]) (by decide +kernel) (by simp) ?_
          intro j hj
          simp only [List.mem_cons, List.not_mem_nil, or_false] at hj
          subst hj
          refine wpOp_step (i := 32) (by simp only [List.getElem?_toArray, List.getElem?_cons_succ, List.getElem?_cons_zero]; rfl) (fun K hK => ?_)
          rw [if_pos (by rfl)]
          go_simp
          refine hK _ _ ⟨(sp_vac (by decide +kernel) (by decide +kernel) (by decide +kernel)), ?_⟩
          clear hK K
          refine AnyL.done (by decide +kernel) ?_ _
          have HON := Lib.hid (only_three w14 y (.slice A1 (N + 1) e1) (.slice A2 (N + 1) e2) (.slice A3 (N + 1) e3))
          clear c0 c1 c2 c3 f1 f2 f3
          generalize ((w14.setCell ⟨y, 1, none⟩ (.slice A1 (N + 1) e1)).setCell ⟨y, 2, none⟩ (.slice A2 (N + 1) e2)).setCell ⟨y, 3, none⟩ (.slice A3 (N + 1) e3) = wf at *
          have k1 : wf.cell? ⟨y, 1, none⟩ = some (.slice A1 (N + 1) e1) := HRF.out.read rfl
          go_wp2
          go_ret2
          exact rq_done HQ.out HNN.out HLN.out hn hn0 HRF.out HP.out H9.out HC9.out HON.out HYB.out (by omega)
      · refine wpOp_step (i := 16) (by simp only [List.getElem?_toArray, List.getElem?_cons_succ, List.getElem?_cons_zero]; rfl) (fun K hK => ?_)
        rw [if_pos (by rfl)]
        go_simp
        have hb := bl_alloc (Below.refl w2.heap.size w2) (.cells #[.int .i64 0] 3)
        replace HP := Lib.hid (HP.out.later hb)
        replace R10 := Lib.hid (R10.out.later hb)
        replace H9 := Lib.hid (text_later H9.out hb)
        have R16 := Lib.hid (Row.made w2 3 #[.int .i64 0])
        refine hK _ _ ⟨sp_row HP.out.row _, ?_⟩
        clear hK K hb
        try simp only [Act.put, List.setIfInBounds_toArray, List.set_cons_zero, List.set_cons_succ]
        generalize w2.alloc (.cells #[.int .i64 0] 3) = w15 at *
        generalize w2.heap.size = g16 at *
        refine AnyL.all (rs := [11, 22]) (by decide +kernel) (by simp) ?_
        intro j hj
        simp only [List.mem_cons, List.not_mem_nil, or_false] at hj
        rcases hj with rfl | rfl
        · refine wpOp_step (i := 11) (by simp only [List.getElem?_toArray, List.getElem?_cons_succ, List.getElem?_cons_zero]; rfl) (fun K hK => ?_)
          refine step_l rfl rfl rfl (by rfl) (by rfl) HP.out R10.out (by omega) ?_
          intro A1 e1 w16 hp o2
          replace HP := Lib.hid hp
          replace H9 := Lib.hid (text_kr H9.out o2 (by decide))
          replace R16 := Lib.hid (o2.rows _ _ _ R16.out (by decide))
          refine hK _ _ ⟨sp_row HP.out.row _, ?_⟩
          clear hK K hp o2 R10
          try simp only [Act.put, List.setIfInBounds_toArray, List.set_cons_zero, List.set_cons_succ]
          refine AnyL.all (rs := [17, 22]) (by decide +kernel) (by simp) ?_
          intro j hj
          simp only [List.mem_cons, List.not_mem_nil, or_false] at hj
          rcases hj with rfl | rfl
          · refine wpOp_step (i := 17) (by simp only [List.getElem?_toArray, List.getElem?_cons_succ, List.getElem?_cons_zero]; rfl) (fun K hK => ?_)
            refine step_t rfl rfl rfl (by rfl) (by rfl) HP.out R16.out (by omega) ?_
            intro A2 e2 w17 hp o2
            replace HP := Lib.hid hp
            replace H9 := Lib.hid (text_kr H9.out o2 (by decide))
            refine hK _ _ ⟨sp_row HP.out.row _, ?_⟩
            clear hK K hp o2 R16
            try simp only [Act.put, List.setIfInBounds_toArray, List.set_cons_zero, List.set_cons_succ]
            refine AnyL.all (rs := [22]) (by decide +kernel) (by simp) ?_
            intro j hj
            simp only [List.mem_cons, List.not_mem_nil, or_false] at hj
            subst hj
            refine wpOp_step (i := 22) (by simp only [List.getElem?_toArray, List.getElem?_cons_succ, List.getElem?_cons_zero]; rfl) (fun K hK => ?_)
            rw [if_pos (by rfl)]
            go_simp
            have hb := bl_alloc (Below.refl w17.heap.size w17) (.cells #[.bool false] 4)
            replace HP := Lib.hid (HP.out.later hb)
            replace H9 := Lib.hid (text_later H9.out hb)
            have R22 := Lib.hid (Row.made w17 4 #[.bool false])
            refine hK _ _ ⟨sp_row HP.out.row _, ?_⟩
            clear hK K hb
            try simp only [Act.put, List.setIfInBounds_toArray, List.set_cons_zero, List.set_cons_succ]
            generalize w17.alloc (.cells #[.bool false] 4) = w18 at *
            generalize w17.heap.size = g22 at *
            refine AnyL.all (rs := [23]) (by decide +kernel) (by simp) ?_
            intro j hj
            simp only [List.mem_cons, List.not_mem_nil, or_false] at hj
            subst hj
            refine wpOp_step (i := 23) (by simp only [List.getElem?_toArray, List.getElem?_cons_succ, List.getElem?_cons_zero]; rfl) (fun K hK => ?_)
            refine step_g rfl rfl rfl (by rfl) (by rfl) HP.out R22.out (by omega) ?_
            intro A3 e3 w19 hp o2
            replace HP := Lib.hid hp
            replace H9 := Lib.hid (text_kr H9.out o2 (by decide))
            refine hK _ _ ⟨sp_row HP.out.row _, ?_⟩
            clear hK K hp o2 R22
            try simp only [Act.put, List.setIfInBounds_toArray, List.set_cons_zero, List.set_cons_succ]
            obtain ⟨c0, c1, c2, c3⟩ := qcells HP.out.row
            have f1 := HP.out.row.free 1
            have f2 := HP.out.row.free 2
            have f3 := HP.out.row.free 3
            have HRF := Lib.hid (((HP.out.row.written 1 (.slice A1 (N + 1) e1)).written 2 (.slice A2 (N + 1) e2)).written 3 (.slice A3 (N + 1) e3))
            refine sp_take 25 24 53 (u := ?v24_4) (by simp only [List.getElem?_toArray, List.getElem?_cons_succ, List.getElem?_cons_zero]; rfl) rfl (by decide +kernel) (by intro _ _ _ h; exact h) (by decide) (Or.inl ⟨by rfl, ?y24_4⟩) (sp_vac (by decide +kernel) (by decide +kernel) (by decide +kernel)) ?_
            case y24_4 =>
              intro W hT
              go_simp
              first | done | with_reducible rfl
            simp only [Act.put, List.setIfInBounds_toArray, List.set_cons_zero, List.set_cons_succ]
            refine sp_take 26 25 54 (u := ?v25_4) (by simp only [List.getElem?_toArray, List.getElem?_cons_succ, List.getElem?_cons_zero]; rfl) rfl (by decide +kernel) (by intro _ _ _ h; exact h) (by decide) (Or.inl ⟨by rfl, ?y25_4⟩) (sp_vac (by decide +kernel) (by decide +kernel) (by decide +kernel)) ?_
            case y25_4 =>
              intro W hT
              go_simp
              first | done | with_reducible rfl
            simp only [Act.put, List.setIfInBounds_toArray, List.set_cons_zero, List.set_cons_succ]
            refine AnyL.all (rs := [26]) (by decide +kernel) (by simp) ?_
            intro j hj
            simp only [List.mem_cons, List.not_mem_nil, or_false] at hj
            subst hj
            refine wpOp_step (i := 26) (by simp only [List.getElem?_toArray, List.getElem?_cons_succ, List.getElem?_cons_zero]; rfl) (fun K hK => ?_)
            rw [if_pos (by rfl)]
            go_simp
            refine hK _ _ ⟨(sp_vac (by decide +kernel) (by decide +kernel) (by decide +kernel)), ?_⟩
            clear hK K
            refine sp_take 28 27 55 (u := ?v27_4) (by simp only [List.getElem?_toArray, List.getElem?_cons_succ, List.getElem?_cons_zero]; rfl) rfl (by decide +kernel) (by intro _ _ _ h; exact h) (by decide) (Or.inl ⟨by rfl, ?y27_4⟩) (sp_vac (by decide +kernel) (by decide +kernel) (by decide +kernel)) ?_
            case y27_4 =>
              intro W hT
              go_simp
              first | done | with_reducible rfl
            simp only [Act.put, List.setIfInBounds_toArray, List.set_cons_zero, List.set_cons_succ]
            refine sp_take 29 28 56 (u := ?v28_4) (by simp only [List.getElem?_toArray, List.getElem?_cons_succ, List.getElem?_cons_zero]; rfl) rfl (by decide +kernel) (by intro _ _ _ h; exact h) (by decide) (Or.inl ⟨by rfl, ?y28_4⟩) (sp_vac (by decide +kernel) (by decide +kernel) (by decide +kernel)) ?_
            case y28_4 =>
              intro W hT
              go_simp
              first | done | with_reducible rfl
            simp only [Act.put, List.setIfInBounds_toArray, List.set_cons_zero, List.set_cons_succ]
            refine AnyL.all (rs := [29]) (by decide +kernel) (by simp) ?_
            intro j hj
            simp only [List.mem_cons, List.not_mem_nil, or_false] at hj
            subst hj
            refine wpOp_step (i := 29) (by simp only [List.getElem?_toArray, List.getElem?_cons_succ, List.getElem?_cons_zero]; rfl) (fun K hK => ?_)
            rw [if_pos (by rfl)]
            go_simp
            refine hK _ _ ⟨(sp_vac (by decide +kernel) (by decide +kernel) (by decide +kernel)), ?_⟩
            clear hK K
            refine sp_take 31 30 57 (u := ?v30_4) (by simp only [List.getElem?_toArray, List.getElem?_cons_succ, List.getElem?_cons_zero]; rfl) rfl (by decide +kernel) (by intro _ _ _ h; exact h) (by decide) (Or.inl ⟨by rfl, ?y30_4⟩) (sp_vac (by decide +kernel) (by decide +kernel) (by decide +kernel)) ?_
            case y30_4 =>
              intro W hT
              go_simp
              first | done | with_reducible rfl
            simp only [Act.put, List.setIfInBounds_toArray, List.set_cons_zero, List.set_cons_succ]
            refine sp_take 32 31 58 (u := ?v31_4) (by simp only [List.getElem?_toArray, List.getElem?_cons_succ, List.getElem?_cons_zero]; rfl) rfl (by decide +kernel) (by intro _ _ _ h; exact h) (by decide) (Or.inl ⟨by rfl, ?y31_4⟩) (sp_vac (by decide +kernel) (by decide +kernel) (by decide +kernel)) ?_
            case y31_4 =>
              intro W hT
              go_simp
              first | done | with_reducible rfl
            simp only [Act.put, List.setIfInBounds_toArray, List.set_cons_zero, List.set_cons_succ]
            refine AnyL.all (rs := [32]) (by decide +kernel) (by simp) ?_
            intro j hj
            simp only [List.mem_cons, List.not_mem_nil, or_false] at hj
            subst hj
            refine wpOp_step (i := 32) (by simp only [List.getElem?_toArray, List.getElem?_cons_succ, List.getElem?_cons_zero]; rfl) (fun K hK => ?_)
            rw [if_pos (by rfl)]
            go_simp
            refine hK _ _ ⟨(sp_vac (by decide +kernel) (by decide +kernel) (by decide +kernel)), ?_⟩
            clear hK K
            refine AnyL.done (by decide +kernel) ?_ _
            have HON := Lib.hid (only_three w19 y (.slice A1 (N + 1) e1) (.slice A2 (N + 1) e2) (.slice A3 (N + 1) e3))
            clear c0 c1 c2 c3 f1 f2 f3
            generalize ((w19.setCell ⟨y, 1, none⟩ (.slice A1 (N + 1) e1)).setCell ⟨y, 2, none⟩ (.slice A2 (N + 1) e2)).setCell ⟨y, 3, none⟩ (.slice A3 (N + 1) e3) = wf at *
            have k1 : wf.cell? ⟨y, 1, none⟩ = some (.slice A1 (N + 1) e1) := HRF.out.read rfl
            go_wp2
            go_ret2
            exact rq_done HQ.out HNN.out HLN.out hn hn0 HRF.out HP.out H9.out HC9.out HON.out HYB.out (by omega)
          · refine wpOp_step (i := 22) (by simp only [List.getElem?_toArray, List.getElem?_cons_succ, List.getElem?_cons_zero]; rfl) (fun K hK => ?_)
            rw [if_pos (by rfl)]
            go_simp
            have hb := bl_alloc (Below.refl w16.heap.size w16) (.cells #[.bool false] 4)
            replace HP := Lib.hid (HP.out.later hb)
            replace R16 := Lib.hid (R16.out.later hb)
            replace H9 := Lib.hid (text_later H9.out hb)
            have R22 := Lib.hid (Row.made w16 4 #[.bool false])
            refine hK _ _ ⟨sp_row HP.out.row _, ?_⟩
            clear hK K hb
            try simp only [Act.put, List.setIfInBounds_toArray, List.set_cons_zero, List.set_cons_succ]
            generalize w16.alloc (.cells #[.bool false] 4) = w20 at *
            generalize w16.heap.size = g22 at *
            refine AnyL.all (rs := [17]) (by decide +kernel) (by simp) ?_
            intro j hj
            simp only [List.mem_cons, List.not_mem_nil, or_false] at hj
            subst hj
            refine wpOp_step (i := 17) (by simp only [List.getElem?_toArray, List.getElem?_cons_succ, List.getElem?_cons_zero]; rfl) (fun K hK => ?_)
            refine step_t rfl rfl rfl (by rfl) (by rfl) HP.out R16.out (by omega) ?_
            intro A2 e2 w21 hp o2
            replace HP := Lib.hid hp
            replace H9 := Lib.hid (text_kr H9.out o2 (by decide))
            replace R22 := Lib.hid (o2.rows _ _ _ R22.out (by decide))
            refine hK _ _ ⟨sp_row HP.out.row _, ?_⟩
            clear hK K hp o2 R16
            try simp only [Act.put, List.setIfInBounds_toArray, List.set_cons_zero, List.set_cons_succ]
            refine AnyL.all (rs := [23]) (by decide +kernel) (by simp) ?_
            intro j hj
            simp only [List.mem_cons, List.not_mem_nil, or_false] at hj
            subst hj
            refine wpOp_step (i := 23) (by simp only [List.getElem?_toArray, List.getElem?_cons_succ, List.getElem?_cons_zero]; rfl) (fun K hK => ?_)
            refine step_g rfl rfl rfl (by rfl) (by rfl) HP.out R22.out (by omega) ?_
            intro A3 e3 w22 hp o2
            replace HP := Lib.hid hp
            replace H9 := Lib.hid (text_kr H9.out o2 (by decide))
            refine hK _ _ ⟨sp_row HP.out.row _, ?_⟩
            clear hK K hp o2 R22
            try simp only [Act.put, List.setIfInBounds_toArray, List.set_cons_zero, List.set_cons_succ]
            obtain ⟨c0, c1, c2, c3⟩ := qcells HP.out.row
            have f1 := HP.out.row.free 1
            have f2 := HP.out.row.free 2
            have f3 := HP.out.row.free 3
            have HRF := Lib.hid (((HP.out.row.written 1 (.slice A1 (N + 1) e1)).written 2 (.slice A2 (N + 1) e2)).written 3 (.slice A3 (N + 1) e3))
            refine sp_take 25 24 53 (u := ?v24_5) (by simp only [List.getElem?_toArray, List.getElem?_cons_succ, List.getElem?_cons_zero]; rfl) rfl (by decide +kernel) (by intro _ _ _ h; exact h) (by decide) (Or.inl ⟨by rfl, ?y24_5⟩) (sp_vac (by decide +kernel) (by decide +kernel) (by decide +kernel)) ?_
            case y24_5 =>
              intro W hT
              go_simp
              first | done | with_reducible rfl
            simp only [Act.put, List.setIfInBounds_toArray, List.set_cons_zero, List.set_cons_succ]
            refine sp_take 26 25 54 (u := ?v25_5) (by simp only [List.getElem?_toArray, List.getElem?_cons_succ, List.getElem?_cons_zero]; rfl) rfl (by decide +kernel) (by intro _ _ _ h; exact h) (by decide) (Or.inl ⟨by rfl, ?y25_5⟩) (sp_vac (by decide +kernel) (by decide +kernel) (by decide +kernel)) ?_
            case y25_5 =>
              intro W hT
              go_simp
              first | done | with_reducible rfl
            simp only [Act.put, List.setIfInBounds_toArray, List.set_cons_zero, List.set_cons_succ]
            refine AnyL.all (rs := [26]) (by decide +kernel) (by simp) ?_
            intro j hj
            simp only [List.mem_cons, List.not_mem_nil, or_false] at hj
            subst hj
            refine wpOp_step (i := 26) (by simp only [List.getElem?_toArray, List.getElem?_cons_succ, List.getElem?_cons_zero]; rfl) (fun K hK => ?_)
            rw [if_pos (by rfl)]
            go_simp
            refine hK _ _ ⟨(sp_vac (by decide +kernel) (by decide +kernel) (by decide +kernel)), ?_⟩
            clear hK K
            refine sp_take 28 27 55 (u := ?v27_5) (by simp only [List.getElem?_toArray, List.getElem?_cons_succ, List.getElem?_cons_zero]; rfl) rfl (by decide +kernel) (by intro _ _ _ h; exact h) (by decide) (Or.inl ⟨by rfl, ?y27_5⟩) (sp_vac (by decide +kernel) (by decide +kernel) (by decide +kernel)) ?_
            case y27_5 =>
              intro W hT
              go_simp
              first | done | with_reducible rfl
            simp only [Act.put, List.setIfInBounds_toArray, List.set_cons_zero, List.set_cons_succ]
            refine sp_take 29 28 56 (u := ?v28_5) (by simp only [List.getElem?_toArray, List.getElem?_cons_succ, List.getElem?_cons_zero]; rfl) rfl (by decide +kernel) (by intro _ _ _ h; exact h) (by decide) (Or.inl ⟨by rfl, ?y28_5⟩) (sp_vac (by decide +kernel) (by decide +kernel) (by decide +kernel)) ?_
            case y28_5 =>
              intro W hT
              go_simp
              first | done | with_reducible rfl
            simp only [Act.put, List.setIfInBounds_toArray, List.set_cons_zero, List.set_cons_succ]
            refine AnyL.all (rs := [29]) (by decide +kernel) (by simp) ?_
            intro j hj
            simp only [List.mem_cons, List.not_mem_nil, or_false] at hj
            subst hj
            refine wpOp_step (i := 29) (by simp only [List.getElem?_toArray, List.getElem?_cons_succ, List.getElem?_cons_zero]; rfl) (fun K hK => ?_)
            rw [if_pos (by rfl)]
            go_simp
            refine hK _ _ ⟨(sp_vac (by decide +kernel) (by decide +kernel) (by decide +kernel)), ?_⟩
            clear hK K
            refine sp_take 31 30 57 (u := ?v30_5) (by simp only [List.getElem?_toArray, List.getElem?_cons_succ, List.getElem?_cons_zero]; rfl) rfl (by decide +kernel) (by intro _ _ _ h; exact h) (by decide) (Or.inl ⟨by rfl, ?y30_5⟩) (sp_vac (by decide +kernel) (by decide +kernel) (by decide +kernel)) ?_
            case y30_5 =>
              intro W hT
              go_simp
              first | done | with_reducible rfl
            simp only [Act.put, List.setIfInBounds_toArray, List.set_cons_zero, List.set_cons_succ]
            refine sp_take 32 31 58 (u := ?v31_5) (by simp only [List.getElem?_toArray, List.getElem?_cons_succ, List.getElem?_cons_zero]; rfl) rfl (by decide +kernel) (by intro _ _ _ h; exact h) (by decide) (Or.inl ⟨by rfl, ?y31_5⟩) (sp_vac (by decide +kernel) (by decide +kernel) (by decide +kernel)) ?_
            case y31_5 =>
              intro W hT
              go_simp
              first | done | with_reducible rfl
            simp only [Act.put, List.setIfInBounds_toArray, List.set_cons_zero, List.set_cons_succ]
            refine AnyL.all (rs := [32]) (by decide +kernel) (by simp) ?_
            intro j hj
            simp only [List.mem_cons, List.not_mem_nil, or_false] at hj
            subst hj
            refine wpOp_step (i := 32) (by simp only [List.getElem?_toArray, List.getElem?_cons_succ, List.getElem?_cons_zero]; rfl) (fun K hK => ?_)
            rw [if_pos (by rfl)]
            go_simp
            refine hK _ _ ⟨(sp_vac (by decide +kernel) (by decide +kernel) (by decide +kernel)), ?_⟩
            clear hK K
            refine AnyL.done (by decide +kernel) ?_ _
            have HON := Lib.hid (only_three w22 y (.slice A1 (N + 1) e1) (.slice A2 (N + 1) e2) (.slice A3 (N + 1) e3))
            clear c0 c1 c2 c3 f1 f2 f3
            generalize ((w22.setCell ⟨y, 1, none⟩ (.slice A1 (N + 1) e1)).setCell ⟨y, 2, none⟩ (.slice A2 (N + 1) e2)).setCell ⟨y, 3, none⟩ (.slice A3 (N + 1) e3) = wf at *
            have k1 : wf.cell? ⟨y, 1, none⟩ = some (.slice A1 (N + 1) e1) := HRF.out.read rfl
            go_wp2
            go_ret2
            exact rq_done HQ.out HNN.out HLN.out hn hn0 HRF.out HP.out H9.out HC9.out HON.out HYB.out (by omega)
        · refine wpOp_step (i := 22) (by simp only [List.getElem?_toArray, List.getElem?_cons_succ, List.getElem?_cons_zero]; rfl) (fun K hK => ?_)
          rw [if_pos (by rfl)]
          go_simp
          have hb := bl_alloc (Below.refl w15.heap.size w15) (.cells #[.bool false] 4)
          replace HP := Lib.hid (HP.out.later hb)
          replace R10 := Lib.hid (R10.out.later hb)
          replace R16 := Lib.hid (R16.out.later hb)
          replace H9 := Lib.hid (text_later H9.out hb)
          have R22 := Lib.hid (Row.made w15 4 #[.bool false])
          refine hK _ _ ⟨sp_row HP.out.row _, ?_⟩
          clear hK K hb
          try simp only [Act.put, List.setIfInBounds_toArray, List.set_cons_zero, List.set_cons_succ]
          generalize w15.alloc (.cells #[.bool false] 4) = w23 at *
          generalize w15.heap.size = g22 at *
          refine AnyL.all (rs := [11]) (by decide +kernel) (by simp) ?_
          intro j hj
          simp only [List.mem_cons, List.not_mem_nil, or_false] at hj
          subst hj
          refine wpOp_step (i := 11) (by simp only [List.getElem?_toArray, List.getElem?_cons_succ, List.getElem?_cons_zero]; rfl) (fun K hK => ?_)
          refine step_l rfl rfl rfl (by rfl) (by rfl) HP.out R10.out (by omega) ?_
          intro A1 e1 w24 hp o2
          replace HP := Lib.hid hp
          replace H9 := Lib.hid (text_kr H9.out o2 (by decide))
          replace R16 := Lib.hid (o2.rows _ _ _ R16.out (by decide))
          replace R22 := Lib.hid (o2.rows _ _ _ R22.out (by decide))
          refine hK _ _ ⟨sp_row HP.out.row _, ?_⟩
          clear hK K hp o2 R10
          try simp only [Act.put, List.setIfInBounds_toArray, List.set_cons_zero, List.set_cons_succ]
          refine AnyL.all (rs := [17]) (by decide +kernel) (by simp) ?_
          intro j hj
          simp only [List.mem_cons, List.not_mem_nil, or_false] at hj
          subst hj
          refine wpOp_step (i := 17) (by simp only [List.getElem?_toArray, List.getElem?_cons_succ, List.getElem?_cons_zero]; rfl) (fun K hK => ?_)
          refine step_t rfl rfl rfl (by rfl) (by rfl) HP.out R16.out (by omega) ?_
          intro A2 e2 w25 hp o2
          replace HP := Lib.hid hp
          replace H9 := Lib.hid (text_kr H9.out o2 (by decide))
          replace R22 := Lib.hid (o2.rows _ _ _ R22.out (by decide))
          refine hK _ _ ⟨sp_row HP.out.row _, ?_⟩
          clear hK K hp o2 R16
          try simp only [Act.put, List.setIfInBounds_toArray, List.set_cons_zero, List.set_cons_succ]
          refine AnyL.all (rs := [23]) (by decide +kernel) (by simp) ?_
          intro j hj
          simp only [List.mem_cons, List.not_mem_nil, or_false] at hj
          subst hj
          refine wpOp_step (i := 23) (by simp only [List.getElem?_toArray, List.getElem?_cons_succ, List.getElem?_cons_zero]; rfl) (fun K hK => ?_)
          refine step_g rfl rfl rfl (by rfl) (by rfl) HP.out R22.out (by omega) ?_
          intro A3 e3 w26 hp o2
          replace HP := Lib.hid hp
          replace H9 := Lib.hid (text_kr H9.out o2 (by decide))
          refine hK _ _ ⟨sp_row HP.out.row _, ?_⟩
          clear hK K hp o2 R22
          try simp only [Act.put, List.setIfInBounds_toArray, List.set_cons_zero, List.set_cons_succ]
          obtain ⟨c0, c1, c2, c3⟩ := qcells HP.out.row
          have f1 := HP.out.row.free 1
          have f2 := HP.out.row.free 2
          have f3 := HP.out.row.free 3
          have HRF := Lib.hid (((HP.out.row.written 1 (.slice A1 (N + 1) e1)).written 2 (.slice A2 (N + 1) e2)).written 3 (.slice A3 (N + 1) e3))
          refine sp_take 25 24 53 (u := ?v24_6) (by simp only [List.getElem?_toArray, List.getElem?_cons_succ, List.getElem?_cons_zero]; rfl) rfl (by decide +kernel) (by intro _ _ _ h; exact h) (by decide) (Or.inl ⟨by rfl, ?y24_6⟩) (sp_vac (by decide +kernel) (by decide +kernel) (by decide +kernel)) ?_
          case y24_6 =>
            intro W hT
            go_simp
            first | done | with_reducible rfl
          simp only [Act.put, List.setIfInBounds_toArray, List.set_cons_zero, List.set_cons_succ]
          refine sp_take 26 25 54 (u := ?v25_6) (by simp only [List.getElem?_toArray, List.getElem?_cons_succ, List.getElem?_cons_zero]; rfl) rfl (by decide +kernel) (by intro _ _ _ h; exact h) (by decide) (Or.inl ⟨by rfl, ?y25_6⟩) (sp_vac (by decide +kernel) (by decide +kernel) (by decide +kernel)) ?_
          case y25_6 =>
            intro W hT
            go_simp
            first | done | with_reducible rfl
          simp only [Act.put, List.setIfInBounds_toArray, List.set_cons_zero, List.set_cons_succ]
          refine AnyL.all (rs := [26]) (by decide +kernel) (by simp) ?_
          intro j hj
          simp only [List.mem_cons, List.not_mem_nil, or_false] at hj
          subst hj
          refine wpOp_step (i := 26) (by simp only [List.getElem?_toArray, List.getElem?_cons_succ, List.getElem?_cons_zero]; rfl) (fun K hK => ?_)
          rw [if_pos (by rfl)]
          go_simp
          refine hK _ _ ⟨(sp_vac (by decide +kernel) (by decide +kernel) (by decide +kernel)), ?_⟩
          clear hK K
          refine sp_take 28 27 55 (u := ?v27_6) (by simp only [List.getElem?_toArray, List.getElem?_cons_succ, List.getElem?_cons_zero]; rfl) rfl (by decide +kernel) (by intro _ _ _ h; exact h) (by decide) (Or.inl ⟨by rfl, ?y27_6⟩) (sp_vac (by decide +kernel) (by decide +kernel) (by decide +kernel)) ?_
          case y27_6 =>
            intro W hT
            go_simp
            first | done | with_reducible rfl
          simp only [Act.put, List.setIfInBounds_toArray, List.set_cons_zero, List.set_cons_succ]
          refine sp_take 29 28 56 (u := ?v28_6) (by simp only [List.getElem?_toArray, List.getElem?_cons_succ, List.getElem?_cons_zero]; rfl) rfl (by decide +kernel) (by intro _ _ _ h; exact h) (by decide) (Or.inl ⟨by rfl, ?y28_6⟩) (sp_vac (by decide +kernel) (by decide +kernel) (by decide +kernel)) ?_
          case y28_6 =>
            intro W hT
            go_simp
            first | done | with_reducible rfl
          simp only [Act.put, List.setIfInBounds_toArray, List.set_cons_zero, List.set_cons_succ]
          refine AnyL.all (rs := [29]) (by decide +kernel) (by simp) ?_
          intro j hj
          simp only [List.mem_cons, List.not_mem_nil, or_false] at hj
          subst hj
          refine wpOp_step (i := 29) (by simp only [List.getElem?_toArray, List.getElem?_cons_succ, List.getElem?_cons_zero]; rfl) (fun K hK => ?_)
          rw [if_pos (by rfl)]
          go_simp
          refine hK _ _ ⟨(sp_vac (by decide +kernel) (by decide +kernel) (by decide +kernel)), ?_⟩
          clear hK K
          refine sp_take 31 30 57 (u := ?v30_6) (by simp only [List.getElem?_toArray, List.getElem?_cons_succ, List.getElem?_cons_zero]; rfl) rfl (by decide +kernel) (by intro _ _ _ h; exact h) (by decide) (Or.inl ⟨by rfl, ?y30_6⟩) (sp_vac (by decide +kernel) (by decide +kernel) (by decide +kernel)) ?_
          case y30_6 =>
            intro W hT
            go_simp
            first | done | with_reducible rfl
          simp only [Act.put, List.setIfInBounds_toArray, List.set_cons_zero, List.set_cons_succ]
          refine sp_take 32 31 58 (u := ?v31_6) (by simp only [List.getElem?_toArray, List.getElem?_cons_succ, List.getElem?_cons_zero]; rfl) rfl (by decide +kernel) (by intro _ _ _ h; exact h) (by decide) (Or.inl ⟨by rfl, ?y31_6⟩) (sp_vac (by decide +kernel) (by decide +kernel) (by decide +kernel)) ?_
          case y31_6 =>
            intro W hT
            go_simp
            first | done | with_reducible rfl
          simp only [Act.put, List.setIfInBounds_toArray, List.set_cons_zero, List.set_cons_succ]
          refine AnyL.all (rs := [32]) (by decide +kernel) (by simp) ?_
          intro j hj
          simp only [List.mem_cons, List.not_mem_nil, or_false] at hj
          subst hj
          refine wpOp_step (i := 32) (by simp only [List.getElem?_toArray, List.getElem?_cons_succ, List.getElem?_cons_zero]; rfl) (fun K hK => ?_)
          rw [if_pos (by rfl)]
          go_simp
          refine hK _ _ ⟨(sp_vac (by decide +kernel) (by decide +kernel) (by decide +kernel)), ?_⟩
          clear hK K
          refine AnyL.done (by decide +kernel) ?_ _
          have HON := Lib.hid (only_three w26 y (.slice A1 (N + 1) e1) (.slice A2 (N + 1) e2) (.slice A3 (N + 1) e3))
          clear c0 c1 c2 c3 f1 f2 f3
          generalize ((w26.setCell ⟨y, 1, none⟩ (.slice A1 (N + 1) e1)).setCell ⟨y, 2, none⟩ (.slice A2 (N + 1) e2)).setCell ⟨y, 3, none⟩ (.slice A3 (N + 1) e3) = wf at *
          have k1 : wf.cell? ⟨y, 1, none⟩ = some (.slice A1 (N + 1) e1) := HRF.out.read rfl
          go_wp2
          go_ret2
          exact rq_done HQ.out HNN.out HLN.out hn hn0 HRF.out HP.out H9.out HC9.out HON.out HYB.out (by omega)
      · refine wpOp_step (i := 22) (by simp only [List.getElem?_toArray, List.getElem?_cons_succ, List.getElem?_cons_zero]; rfl) (fun K hK => ?_)
        rw [if_pos (by rfl)]
        go_simp
        have hb := bl_alloc (Below.refl w2.heap.size w2) (.cells #[.bool false] 4)
        replace HP := Lib.hid (HP.out.later hb)
        replace R10 := Lib.hid (R10.out.later hb)
        replace H9 := Lib.hid (text_later H9.out hb)
        have R22 := Lib.hid (Row.made w2 4 #[.bool false])
        refine hK _ _ ⟨sp_row HP.out.row _, ?_⟩
        clear hK K hb
        try simp only [Act.put, List.setIfInBounds_toArray, List.set_cons_zero, List.set_cons_succ]
        generalize w2.alloc (.cells #[.bool false] 4) = w27 at *
        generalize w2.heap.size = g22 at *
        refine AnyL.all (rs := [11, 16]) (by decide +kernel) (by simp) ?_
        intro j hj
        simp only [List.mem_cons, List.not_mem_nil, or_false] at hj
        rcases hj with rfl | rfl
        · refine wpOp_step (i := 11) (by simp only [List.getElem?_toArray, List.getElem?_cons_succ, List.getElem?_cons_zero]; rfl) (fun K hK => ?_)
          refine step_l rfl rfl rfl (by rfl) (by rfl) HP.out R10.out (by omega) ?_
          intro A1 e1 w28 hp o2
          replace HP := Lib.hid hp
          replace H9 := Lib.hid (text_kr H9.out o2 (by decide))
          replace R22 := Lib.hid (o2.rows _ _ _ R22.out (by decide))
          refine hK _ _ ⟨sp_row HP.out.row _, ?_⟩
          clear hK K hp o2 R10
          try simp only [Act.put, List.setIfInBounds_toArray, List.set_cons_zero, List.set_cons_succ]
          refine AnyL.all (rs := [16]) (by decide +kernel) (by simp) ?_
          intro j hj
          simp only [List.mem_cons, List.not_mem_nil, or_false] at hj
          subst hj
          refine wpOp_step (i := 16) (by simp only [List.getElem?_toArray, List.getElem?_cons_succ, List.getElem?_cons_zero]; rfl) (fun K hK => ?_)
          rw [if_pos (by rfl)]
          go_simp
          have hb := bl_alloc (Below.refl w28.heap.size w28) (.cells #[.int .i64 0] 3)
          replace HP := Lib.hid (HP.out.later hb)
          replace R22 := Lib.hid (R22.out.later hb)
          replace H9 := Lib.hid (text_later H9.out hb)
          have R16 := Lib.hid (Row.made w28 3 #[.int .i64 0])
          refine hK _ _ ⟨sp_row HP.out.row _, ?_⟩
          clear hK K hb
          try simp only [Act.put, List.setIfInBounds_toArray, List.set_cons_zero, List.set_cons_succ]
          generalize w28.alloc (.cells #[.int .i64 0] 3) = w29 at *
          generalize w28.heap.size = g16 at *
          refine AnyL.all (rs := [17]) (by decide +kernel) (by simp) ?_
          intro j hj
          simp only [List.mem_cons, List.not_mem_nil, or_false] at hj
          subst hj
          refine wpOp_step (i := 17) (by simp only [List.getElem?_toArray, List.getElem?_cons_succ, List.getElem?_cons_zero]; rfl) (fun K hK => ?_)
          refine step_t rfl rfl rfl (by rfl) (by rfl) HP.out R16.out (by omega) ?_
          intro A2 e2 w30 hp o2
          replace HP := Lib.hid hp
          replace H9 := Lib.hid (text_kr H9.out o2 (by decide))
          replace R22 := Lib.hid (o2.rows _ _ _ R22.out (by decide))
          refine hK _ _ ⟨sp_row HP.out.row _, ?_⟩
          clear hK K hp o2 R16
          try simp only [Act.put, List.setIfInBounds_toArray, List.set_cons_zero, List.set_cons_succ]
          refine AnyL.all (rs := [23]) (by decide +kernel) (by simp) ?_
          intro j hj
          simp only [List.mem_cons, List.not_mem_nil, or_false] at hj
          subst hj
          refine wpOp_step (i := 23) (by simp only [List.getElem?_toArray, List.getElem?_cons_succ, List.getElem?_cons_zero]; rfl) (fun K hK => ?_)
          refine step_g rfl rfl rfl (by rfl) (by rfl) HP.out R22.out (by omega) ?_
          intro A3 e3 w31 hp o2
          replace HP := Lib.hid hp
          replace H9 := Lib.hid (text_kr H9.out o2 (by decide))
          refine hK _ _ ⟨sp_row HP.out.row _, ?_⟩
          clear hK K hp o2 R22
          try simp only [Act.put, List.setIfInBounds_toArray, List.set_cons_zero, List.set_cons_succ]
          obtain ⟨c0, c1, c2, c3⟩ := qcells HP.out.row
          have f1 := HP.out.row.free 1
          have f2 := HP.out.row.free 2
          have f3 := HP.out.row.free 3
          have HRF := Lib.hid (((HP.out.row.written 1 (.slice A1 (N + 1) e1)).written 2 (.slice A2 (N + 1) e2)).written 3 (.slice A3 (N + 1) e3))
          refine sp_take 25 24 53 (u := ?v24_7) (by simp only [List.getElem?_toArray, List.getElem?_cons_succ, List.getElem?_cons_zero]; rfl) rfl (by decide +kernel) (by intro _ _ _ h; exact h) (by decide) (Or.inl ⟨by rfl, ?y24_7⟩) (sp_vac (by decide +kernel) (by decide +kernel) (by decide +kernel)) ?_
          case y24_7 =>
            intro W hT
            go_simp
            first | done | with_reducible rfl
          simp only [Act.put, List.setIfInBounds_toArray, List.set_cons_zero, List.set_cons_succ]
          refine sp_take 26 25 54 (u := ?v25_7) (by simp only [List.getElem?_toArray, List.getElem?_cons_succ, List.getElem?_cons_zero]; rfl) rfl (by decide +kernel) (by intro _ _ _ h; exact h) (by decide) (Or.inl ⟨by rfl, ?y25_7⟩) (sp_vac (by decide +kernel) (by decide +kernel) (by decide +kernel)) ?_
          case y25_7 =>
            intro W hT
            go_simp
            first | done | with_reducible rfl
          simp only [Act.put, List.setIfInBounds_toArray, List.set_cons_zero, List.set_cons_succ]
          refine AnyL.all (rs := [26]) (by decide +kernel) (by simp) ?_
          intro j hj
          simp only [List.mem_cons, List.not_mem_nil, or_false] at hj
          subst hj
          refine wpOp_step (i := 26) (by simp only [List.getElem?_toArray, List.getElem?_cons_succ, List.getElem?_cons_zero]; rfl) (fun K hK => ?_)
          rw [if_pos (by rfl)]
          go_simp
          refine hK _ _ ⟨(sp_vac (by decide +kernel) (by decide +kernel) (by decide +kernel)), ?_⟩
          clear hK K
          refine sp_take 28 27 55 (u := ?v27_7) (by simp only [List.getElem?_toArray, List.getElem?_cons_succ, List.getElem?_cons_zero]; rfl) rfl (by decide +kernel) (by intro _ _ _ h; exact h) (by decide) (Or.inl ⟨by rfl, ?y27_7⟩) (sp_vac (by decide +kernel) (by decide +kernel) (by decide +kernel)) ?_
          case y27_7 =>
            intro W hT
            go_simp
            first | done | with_reducible rfl
          simp only [Act.put, List.setIfInBounds_toArray, List.set_cons_zero, List.set_cons_succ]
          refine sp_take 29 28 56 (u := ?v28_7) (by simp only [List.getElem?_toArray, List.getElem?_cons_succ, List.getElem?_cons_zero]; rfl) rfl (by decide +kernel) (by intro _ _ _ h; exact h) (by decide) (Or.inl ⟨by rfl, ?y28_7⟩) (sp_vac (by decide +kernel) (by decide +kernel) (by decide +kernel)) ?_
          case y28_7 =>
            intro W hT
            go_simp
            first | done | with_reducible rfl
          simp only [Act.put, List.setIfInBounds_toArray, List.set_cons_zero, List.set_cons_succ]
          refine AnyL.all (rs := [29]) (by decide +kernel) (by simp) ?_
          intro j hj
          simp only [List.mem_cons, List.not_mem_nil, or_false] at hj
          subst hj
          refine wpOp_step (i := 29) (by simp only [List.getElem?_toArray, List.getElem?_cons_succ, List.getElem?_cons_zero]; rfl) (fun K hK => ?_)
          rw [if_pos (by rfl)]
          go_simp
          refine hK _ _ ⟨(sp_vac (by decide +kernel) (by decide +kernel) (by decide +kernel)), ?_⟩
          clear hK K
          refine sp_take 31 30 57 (u := ?v30_7) (by simp only [List.getElem?_toArray, List.getElem?_cons_succ, List.getElem?_cons_zero]; rfl) rfl (by decide +kernel) (by intro _ _ _ h; exact h) (by decide) (Or.inl ⟨by rfl, ?y30_7⟩) (sp_vac (by decide +kernel) (by decide +kernel) (by decide +kernel)) ?_
          case y30_7 =>
            intro W hT
            go_simp
            first | done | with_reducible rfl
          simp only [Act.put, List.setIfInBounds_toArray, List.set_cons_zero, List.set_cons_succ]
          refine sp_take 32 31 58 (u := ?v31_7) (by simp only [List.getElem?_toArray, List.getElem?_cons_succ, List.getElem?_cons_zero]; rfl) rfl (by decide +kernel) (by intro _ _ _ h; exact h) (by decide) (Or.inl ⟨by rfl, ?y31_7⟩) (sp_vac (by decide +kernel) (by decide +kernel) (by decide +kernel)) ?_
          case y31_7 =>
            intro W hT
            go_simp
            first | done | with_reducible rfl
          simp only [Act.put, List.setIfInBounds_toArray, List.set_cons_zero, List.set_cons_succ]
          refine AnyL.all (rs := [32]) (by decide +kernel) (by simp) ?_
          intro j hj
          simp only [List.mem_cons, List.not_mem_nil, or_false] at hj
          subst hj
          refine wpOp_step (i := 32) (by simp only [List.getElem?_toArray, List.getElem?_cons_succ, List.getElem?_cons_zero]; rfl) (fun K hK => ?_)
          rw [if_pos (by rfl)]
          go_simp
          refine hK _ _ ⟨(sp_vac (by decide +kernel) (by decide +kernel) (by decide +kernel)), ?_⟩
          clear hK K
          refine AnyL.done (by decide +kernel) ?_ _
          have HON := Lib.hid (only_three w31 y (.slice A1 (N + 1) e1) (.slice A2 (N + 1) e2) (.slice A3 (N + 1) e3))
          clear c0 c1 c2 c3 f1 f2 f3
          generalize ((w31.setCell ⟨y, 1, none⟩ (.slice A1 (N + 1) e1)).setCell ⟨y, 2, none⟩ (.slice A2 (N + 1) e2)).setCell ⟨y, 3, none⟩ (.slice A3 (N + 1) e3) = wf at *
          have k1 : wf.cell? ⟨y, 1, none⟩ = some (.slice A1 (N + 1) e1) := HRF.out.read rfl
          go_wp2
          go_ret2
          exact rq_done HQ.out HNN.out HLN.out hn hn0 HRF.out HP.out H9.out HC9.out HON.out HYB.out (by omega)
        · refine wpOp_step (i := 16) (by simp only [List.getElem?_toArray, List.getElem?_cons_succ, List.getElem?_cons_zero]; rfl) (fun K hK => ?_)
          rw [if_pos (by rfl)]
          go_simp
          have hb := bl_alloc (Below.refl w27.heap.size w27) (.cells #[.int .i64 0] 3)
          replace HP := Lib.hid (HP.out.later hb)
          replace R10 := Lib.hid (R10.out.later hb)
          replace R22 := Lib.hid (R22.out.later hb)
          replace H9 := Lib.hid (text_later H9.out hb)
          have R16 := Lib.hid (Row.made w27 3 #[.int .i64 0])
          refine hK _ _ ⟨sp_row HP.out.row _, ?_⟩
          clear hK K hb
          try simp only [Act.put, List.setIfInBounds_toArray, List.set_cons_zero, List.set_cons_succ]
          generalize w27.alloc (.cells #[.int .i64 0] 3) = w32 at *
          generalize w27.heap.size = g16 at *
          refine AnyL.all (rs := [11]) (by decide +kernel) (by simp) ?_
          intro j hj
          simp only [List.mem_cons, List.not_mem_nil, or_false] at hj
          subst hj
          refine wpOp_step (i := 11) (by simp only [List.getElem?_toArray, List.getElem?_cons_succ, List.getElem?_cons_zero]; rfl) (fun K hK => ?_)
          refine step_l rfl rfl rfl (by rfl) (by rfl) HP.out R10.out (by omega) ?_
          intro A1 e1 w33 hp o2
          replace HP := Lib.hid hp
          replace H9 := Lib.hid (text_kr H9.out o2 (by decide))
          replace R16 := Lib.hid (o2.rows _ _ _ R16.out (by decide))
          replace R22 := Lib.hid (o2.rows _ _ _ R22.out (by decide))
          refine hK _ _ ⟨sp_row HP.out.row _, ?_⟩
          clear hK K hp o2 R10
          try simp only [Act.put, List.setIfInBounds_toArray, List.set_cons_zero, List.set_cons_succ]
          refine AnyL.all (rs := [17]) (by decide +kernel) (by simp) ?_
          intro j hj
          simp only [List.mem_cons, List.not_mem_nil, or_false] at hj
          subst hj
          refine wpOp_step (i := 17) (by simp only [List.getElem?_toArray, List.getElem?_cons_succ, List.getElem?_cons_zero]; rfl) (fun K hK => ?_)
          refine step_t rfl rfl rfl (by rfl) (by rfl) HP.out R16.out (by omega) ?_
          intro A2 e2 w34 hp o2
          replace HP := Lib.hid hp
          replace H9 := Lib.hid (text_kr H9.out o2 (by decide))
          replace R22 := Lib.hid (o2.rows _ _ _ R22.out (by decide))
          refine hK _ _ ⟨sp_row HP.out.row _, ?_⟩
          clear hK K hp o2 R16
          try simp only [Act.put, List.setIfInBounds_toArray, List.set_cons_zero, List.set_cons_succ]
          refine AnyL.all (rs := [23]) (by decide +kernel) (by simp) ?_
          intro j hj
          simp only [List.mem_cons, List.not_mem_nil, or_false] at hj
          subst hj
          refine wpOp_step (i := 23) (by simp only [List.getElem?_toArray, List.getElem?_cons_succ, List.getElem?_cons_zero]; rfl) (fun K hK => ?_)
          refine step_g rfl rfl rfl (by rfl) (by rfl) HP.out R22.out (by omega) ?_
          intro A3 e3 w35 hp o2
          replace HP := Lib.hid hp
          replace H9 := Lib.hid (text_kr H9.out o2 (by decide))
          refine hK _ _ ⟨sp_row HP.out.row _, ?_⟩
          clear hK K hp o2 R22
          try simp only [Act.put, List.setIfInBounds_toArray, List.set_cons_zero, List.set_cons_succ]
          obtain ⟨c0, c1, c2, c3⟩ := qcells HP.out.row
          have f1 := HP.out.row.free 1
          have f2 := HP.out.row.free 2
          have f3 := HP.out.row.free 3
          have HRF := Lib.hid (((HP.out.row.written 1 (.slice A1 (N + 1) e1)).written 2 (.slice A2 (N + 1) e2)).written 3 (.slice A3 (N + 1) e3))
          refine sp_take 25 24 53 (u := ?v24_8) (by simp only [List.getElem?_toArray, List.getElem?_cons_succ, List.getElem?_cons_zero]; rfl) rfl (by decide +kernel) (by intro _ _ _ h; exact h) (by decide) (Or.inl ⟨by rfl, ?y24_8⟩) (sp_vac (by decide +kernel) (by decide +kernel) (by decide +kernel)) ?_
          case y24_8 =>
            intro W hT
            go_simp
            first | done | with_reducible rfl
          simp only [Act.put, List.setIfInBounds_toArray, List.set_cons_zero, List.set_cons_succ]
          refine sp_take 26 25 54 (u := ?v25_8) (by simp only [List.getElem?_toArray, List.getElem?_cons_succ, List.getElem?_cons_zero]; rfl) rfl (by decide +kernel) (by intro _ _ _ h; exact h) (by decide) (Or.inl ⟨by rfl, ?y25_8⟩) (sp_vac (by decide +kernel) (by decide +kernel) (by decide +kernel)) ?_
          case y25_8 =>
            intro W hT
            go_simp
            first | done | with_reducible rfl
          simp only [Act.put, List.setIfInBounds_toArray, List.set_cons_zero, List.set_cons_succ]
          refine AnyL.all (rs := [26]) (by decide +kernel) (by simp) ?_
          intro j hj
          simp only [List.mem_cons, List.not_mem_nil, or_false] at hj
          subst hj
          refine wpOp_step (i := 26) (by simp only [List.getElem?_toArray, List.getElem?_cons_succ, List.getElem?_cons_zero]; rfl) (fun K hK => ?_)
          rw [if_pos (by rfl)]
          go_simp
          refine hK _ _ ⟨(sp_vac (by decide +kernel) (by decide +kernel) (by decide +kernel)), ?_⟩
          clear hK K
          refine sp_take 28 27 55 (u := ?v27_8) (by simp only [List.getElem?_toArray, List.getElem?_cons_succ, List.getElem?_cons_zero]; rfl) rfl (by decide +kernel) (by intro _ _ _ h; exact h) (by decide) (Or.inl ⟨by rfl, ?y27_8⟩) (sp_vac (by decide +kernel) (by decide +kernel) (by decide +kernel)) ?_
          case y27_8 =>
            intro W hT
            go_simp
            first | done | with_reducible rfl
          simp only [Act.put, List.setIfInBounds_toArray, List.set_cons_zero, List.set_cons_succ]
          refine sp_take 29 28 56 (u := ?v28_8) (by simp only [List.getElem?_toArray, List.getElem?_cons_succ, List.getElem?_cons_zero]; rfl) rfl (by decide +kernel) (by intro _ _ _ h; exact h) (by decide) (Or.inl ⟨by rfl, ?y28_8⟩) (sp_vac (by decide +kernel) (by decide +kernel) (by decide +kernel)) ?_
          case y28_8 =>
            intro W hT
            go_simp
            first | done | with_reducible rfl
          simp only [Act.put, List.setIfInBounds_toArray, List.set_cons_zero, List.set_cons_succ]
          refine AnyL.all (rs := [29]) (by decide +kernel) (by simp) ?_
          intro j hj
          simp only [List.mem_cons, List.not_mem_nil, or_false] at hj
          subst hj
          refine wpOp_step (i := 29) (by simp only [List.getElem?_toArray, List.getElem?_cons_succ, List.getElem?_cons_zero]; rfl) (fun K hK => ?_)
          rw [if_pos (by rfl)]
          go_simp
          refine hK _ _ ⟨(sp_vac (by decide +kernel) (by decide +kernel) (by decide +kernel)), ?_⟩
          clear hK K
          refine sp_take 31 30 57 (u := ?v30_8) (by simp only [List.getElem?_toArray, List.getElem?_cons_succ, List.getElem?_cons_zero]; rfl) rfl (by decide +kernel) (by intro _ _ _ h; exact h) (by decide) (Or.inl ⟨by rfl, ?y30_8⟩) (sp_vac (by decide +kernel) (by decide +kernel) (by decide +kernel)) ?_
          case y30_8 =>
            intro W hT
            go_simp
            first | done | with_reducible rfl
          simp only [Act.put, List.setIfInBounds_toArray, List.set_cons_zero, List.set_cons_succ]
          refine sp_take 32 31 58 (u := ?v31_8) (by simp only [List.getElem?_toArray, List.getElem?_cons_succ, List.getElem?_cons_zero]; rfl) rfl (by decide +kernel) (by intro _ _ _ h; exact h) (by decide) (Or.inl ⟨by rfl, ?y31_8⟩) (sp_vac (by decide +kernel) (by decide +kernel) (by decide +kernel)) ?_
          case y31_8 =>
            intro W hT
            go_simp
            first | done | with_reducible rfl
          simp only [Act.put, List.setIfInBounds_toArray, List.set_cons_zero, List.set_cons_succ]
          refine AnyL.all (rs := [32]) (by decide +kernel) (by simp) ?_
          intro j hj
          simp only [List.mem_cons, List.not_mem_nil, or_false] at hj
          subst hj
          refine wpOp_step (i := 32) (by simp only [List.getElem?_toArray, List.getElem?_cons_succ, List.getElem?_cons_zero]; rfl) (fun K hK => ?_)
          rw [if_pos (by rfl)]
          go_simp
          refine hK _ _ ⟨(sp_vac (by decide +kernel) (by decide +kernel) (by decide +kernel)), ?_⟩
          clear hK K
          refine AnyL.done (by decide +kernel) ?_ _
          have HON := Lib.hid (only_three w35 y (.slice A1 (N + 1) e1) (.slice A2 (N + 1) e2) (.slice A3 (N + 1) e3))
          clear c0 c1 c2 c3 f1 f2 f3
          generalize ((w35.setCell ⟨y, 1, none⟩ (.slice A1 (N + 1) e1)).setCell ⟨y, 2, none⟩ (.slice A2 (N + 1) e2)).setCell ⟨y, 3, none⟩ (.slice A3 (N + 1) e3) = wf at *
          have k1 : wf.cell? ⟨y, 1, none⟩ = some (.slice A1 (N + 1) e1) := HRF.out.read rfl
          go_wp2
          go_ret2
          exact rq_done HQ.out HNN.out HLN.out hn hn0 HRF.out HP.out H9.out HC9.out HON.out HYB.out (by omega)
    · refine wpOp_step (i := 16) (by simp only [List.getElem?_toArray, List.getElem?_cons_succ, List.getElem?_cons_zero]; rfl) (fun K hK => ?_)
      rw [if_pos (by rfl)]
      go_simp
      have hb := bl_alloc (Below.refl w1.heap.size w1) (.cells #[.int .i64 0] 3)
      replace HP := Lib.hid (HP.out.later hb)
      replace H9 := Lib.hid (text_later H9.out hb)
      have R16 := Lib.hid (Row.made w1 3 #[.int .i64 0])
      refine hK _ _ ⟨sp_row HP.out.row _, ?_⟩
      clear hK K hb
      try simp only [Act.put, List.setIfInBounds_toArray, List.set_cons_zero, List.set_cons_succ]
      generalize w1.alloc (.cells #[.int .i64 0] 3) = w36 at *
      generalize w1.heap.size = g16 at *
      refine AnyL.all (rs := [10, 22]) (by decide +kernel) (by simp) ?_
      intro j hj
      simp only [List.mem_cons, List.not_mem_nil, or_false] at hj
      rcases hj with rfl | rfl
      · refine wpOp_step (i := 10) (by simp only [List.getElem?_toArray, List.getElem?_cons_succ, List.getElem?_cons_zero]; rfl) (fun K hK => ?_)
        rw [if_pos (by rfl)]
        go_simp
        have hb := bl_alloc (Below.refl w36.heap.size w36) (.cells #[.slice (some ⟨g9, 0, none⟩) n cap9] 38)
        replace HP := Lib.hid (HP.out.later hb)
        replace R16 := Lib.hid (R16.out.later hb)
        replace H9 := Lib.hid (text_later H9.out hb)
        have R10 := Lib.hid (Row.made w36 38 #[.slice (some ⟨g9, 0, none⟩) n cap9])
        refine hK _ _ ⟨sp_row HP.out.row _, ?_⟩
        clear hK K hb
        try simp only [Act.put, List.setIfInBounds_toArray, List.set_cons_zero, List.set_cons_succ]
        generalize w36.alloc (.cells #[.slice (some ⟨g9, 0, none⟩) n cap9] 38) = w37 at *
        generalize w36.heap.size = g10 at *
        refine AnyL.all (rs := [11, 22]) (by decide +kernel) (by simp) ?_
        intro j hj
        simp only [List.mem_cons, List.not_mem_nil, or_false] at hj
        rcases hj with rfl | rfl
        · refine wpOp_step (i := 11) (by simp only [List.getElem?_toArray, List.getElem?_cons_succ, List.getElem?_cons_zero]; rfl) (fun K hK => ?_)
          refine step_l rfl rfl rfl (by rfl) (by rfl) HP.out R10.out (by omega) ?_
          intro A1 e1 w38 hp o2
          replace HP := Lib.hid hp
          replace H9 := Lib.hid (text_kr H9.out o2 (by decide))
          replace R16 := Lib.hid (o2.rows _ _ _ R16.out (by decide))
          refine hK _ _ ⟨sp_row HP.out.row _, ?_⟩
          clear hK K hp o2 R10
          try simp only [Act.put, List.setIfInBounds_toArray, List.set_cons_zero, List.set_cons_succ]
          refine AnyL.all (rs := [17, 22]) (by decide +kernel) (by simp) ?_
          intro j hj
          simp only [List.mem_cons, List.not_mem_nil, or_false] at hj
          rcases hj with rfl | rfl
          · refine wpOp_step (i := 17) (by simp only [List.getElem?_toArray, List.getElem?_cons_succ, List.getElem?_cons_zero]; rfl) (fun K hK => ?_)
            refine step_t rfl rfl rfl (by rfl) (by rfl) HP.out R16.out (by omega) ?_
            intro A2 e2 w39 hp o2
            replace HP := Lib.hid hp
            replace H9 := Lib.hid (text_kr H9.out o2 (by decide))
            refine hK _ _ ⟨sp_row HP.out.row _, ?_⟩
            clear hK K hp o2 R16
            try simp only [Act.put, List.setIfInBounds_toArray, List.set_cons_zero, List.set_cons_succ]
            refine AnyL.all (rs := [22]) (by decide +kernel) (by simp) ?_
            intro j hj
            simp only [List.mem_cons, List.not_mem_nil, or_false] at hj
            subst hj
            refine wpOp_step (i := 22) (by simp only [List.getElem?_toArray, List.getElem?_cons_succ, List.getElem?_cons_zero]; rfl) (fun K hK => ?_)
            rw [if_pos (by rfl)]
            go_simp
            have hb := bl_alloc (Below.refl w39.heap.size w39) (.cells #[.bool false] 4)
            replace HP := Lib.hid (HP.out.later hb)
            replace H9 := Lib.hid (text_later H9.out hb)
            have R22 := Lib.hid (Row.made w39 4 #[.bool false])
            refine hK _ _ ⟨sp_row HP.out.row _, ?_⟩
            clear hK K hb
            try simp only [Act.put, List.setIfInBounds_toArray, List.set_cons_zero, List.set_cons_succ]
            generalize w39.alloc (.cells #[.bool false] 4) = w40 at *
            generalize w39.heap.size = g22 at *
            refine AnyL.all (rs := [23]) (by decide +kernel) (by simp) ?_
            intro j hj
            simp only [List.mem_cons, List.not_mem_nil, or_false] at hj
            subst hj
            refine wpOp_step (i := 23) (by simp only [List.getElem?_toArray, List.getElem?_cons_succ, List.getElem?_cons_zero]; rfl) (fun K hK => ?_)
            refine step_g rfl rfl rfl (by rfl) (by rfl) HP.out R22.out (by omega) ?_
            intro A3 e3 w41 hp o2
            replace HP := Lib.hid hp
            replace H9 := Lib.hid (text_kr H9.out o2 (by decide))
            refine hK _ _ ⟨sp_row HP.out.row _, ?_⟩
            clear hK K hp o2 R22
            try simp only [Act.put, List.setIfInBounds_toArray, List.set_cons_zero, List.set_cons_succ]
            obtain ⟨c0, c1, c2, c3⟩ := qcells HP.out.row
            have f1 := HP.out.row.free 1
            have f2 := HP.out.row.free 2
            have f3 := HP.out.row.free 3
            have HRF := Lib.hid (((HP.out.row.written 1 (.slice A1 (N + 1) e1)).written 2 (.slice A2 (N + 1) e2)).written 3 (.slice A3 (N + 1) e3))
            refine sp_take 25 24 53 (u := ?v24_9) (by simp only [List.getElem?_toArray, List.getElem?_cons_succ, List.getElem?_cons_zero]; rfl) rfl (by decide +kernel) (by intro _ _ _ h; exact h) (by decide) (Or.inl ⟨by rfl, ?y24_9⟩) (sp_vac (by decide +kernel) (by decide +kernel) (by decide +kernel)) ?_
            case y24_9 =>
              intro W hT
              go_simp
              first | done | with_reducible rfl
            simp only [Act.put, List.setIfInBounds_toArray, List.set_cons_zero, List.set_cons_succ]
            refine sp_take 26 25 54 (u := ?v25_9) (by simp only [List.getElem?_toArray, List.getElem?_cons_succ, List.getElem?_cons_zero]; rfl) rfl (by decide +kernel) (by intro _ _ _ h; exact h) (by decide) (Or.inl ⟨by rfl, ?y25_9⟩) (sp_vac (by decide +kernel) (by decide +kernel) (by decide +kernel)) ?_
            case y25_9 =>
              intro W hT
              go_simp
              first | done | with_reducible rfl
            simp only [Act.put, List.setIfInBounds_toArray, List.set_cons_zero, List.set_cons_succ]
            refine AnyL.all (rs := [26]) (by decide +kernel) (by simp) ?_
            intro j hj
            simp only [List.mem_cons, List.not_mem_nil, or_false] at hj
            subst hj
            refine wpOp_step (i := 26) (by simp only [List.getElem?_toArray, List.getElem?_cons_succ, List.getElem?_cons_zero]; rfl) (fun K hK => ?_)
            rw [if_pos (by rfl)]
            go_simp
            refine hK _ _ ⟨(sp_vac (by decide +kernel) (by decide +kernel) (by decide +kernel)), ?_⟩
            clear hK K
            refine sp_take 28 27 55 (u := ?v27_9) (by simp only [List.getElem?_toArray, List.getElem?_cons_succ, List.getElem?_cons_zero]; rfl) rfl (by decide +kernel) (by intro _ _ _ h; exact h) (by decide) (Or.inl ⟨by rfl, ?y27_9⟩) (sp_vac (by decide +kernel) (by decide +kernel) (by decide +kernel)) ?_
            case y27_9 =>
              intro W hT
              go_simp
              first | done | with_reducible rfl
            simp only [Act.put, List.setIfInBounds_toArray, List.set_cons_zero, List.set_cons_succ]
            refine sp_take 29 28 56 (u := ?v28_9) (by simp only [List.getElem?_toArray, List.getElem?_cons_succ, List.getElem?_cons_zero]; rfl) rfl (by decide +kernel) (by intro _ _ _ h; exact h) (by decide) (Or.inl ⟨by rfl, ?y28_9⟩) (sp_vac (by decide +kernel) (by decide +kernel) (by decide +kernel)) ?_
            case y28_9 =>
              intro W hT
              go_simp
              first | done | with_reducible rfl
            simp only [Act.put, List.setIfInBounds_toArray, List.set_cons_zero, List.set_cons_succ]
            refine AnyL.all (rs := [29]) (by decide +kernel) (by simp) ?_
            intro j hj
            simp only [List.mem_cons, List.not_mem_nil, or_false] at hj
            subst hj
            refine wpOp_step (i := 29) (by simp only [List.getElem?_toArray, List.getElem?_cons_succ, List.getElem?_cons_zero]; rfl) (fun K hK => ?_)
            rw [if_pos (by rfl)]
            go_simp
            refine hK _ _ ⟨(sp_vac (by decide +kernel) (by decide +kernel) (by decide +kernel)), ?_⟩
            clear hK K
            refine sp_take 31 30 57 (u := ?v30_9) (by simp only [List.getElem?_toArray, List.getElem?_cons_succ, List.getElem?_cons_zero]; rfl) rfl (by decide +kernel) (by intro _ _ _ h; exact h) (by decide) (Or.inl ⟨by rfl, ?y30_9⟩) (sp_vac (by decide +kernel) (by decide +kernel) (by decide +kernel)) ?_
            case y30_9 =>
              intro W hT
              go_simp
              first | done | with_reducible rfl
            simp only [Act.put, List.setIfInBounds_toArray, List.set_cons_zero, List.set_cons_succ]
            refine sp_take 32 31 58 (u := ?v31_9) (by simp only [List.getElem?_toArray, List.getElem?_cons_succ, List.getElem?_cons_zero]; rfl) rfl (by decide +kernel) (by intro _ _ _ h; exact h) (by decide) (Or.inl ⟨by rfl, ?y31_9⟩) (sp_vac (by decide +kernel) (by decide +kernel) (by decide +kernel)) ?_
            case y31_9 =>
              intro W hT
              go_simp
              first | done | with_reducible rfl
            simp only [Act.put, List.setIfInBounds_toArray, List.set_cons_zero, List.set_cons_succ]
            refine AnyL.all (rs := [32]) (by decide +kernel) (by simp) ?_
            intro j hj
            simp only [List.mem_cons, List.not_mem_nil, or_false] at hj
            subst hj
            refine wpOp_step (i := 32) (by simp only [List.getElem?_toArray, List.getElem?_cons_succ, List.getElem?_cons_zero]; rfl) (fun K hK => ?_)
            rw [if_pos (by rfl)]
            go_simp
            refine hK _ _ ⟨(sp_vac (by decide +kernel) (by decide +kernel) (by decide +kernel)), ?_⟩
            clear hK K
            refine AnyL.done (by decide +kernel) ?_ _
            have HON := Lib.hid (only_three w41 y (.slice A1 (N + 1) e1) (.slice A2 (N + 1) e2) (.slice A3 (N + 1) e3))
            clear c0 c1 c2 c3 f1 f2 f3
            generalize ((w41.setCell ⟨y, 1, none⟩ (.slice A1 (N + 1) e1)).setCell ⟨y, 2, none⟩ (.slice A2 (N + 1) e2)).setCell ⟨y, 3, none⟩ (.slice A3 (N + 1) e3) = wf at *
            have k1 : wf.cell? ⟨y, 1, none⟩ = some (.slice A1 (N + 1) e1) := HRF.out.read rfl
            go_wp2
            go_ret2
            exact rq_done HQ.out HNN.out HLN.out hn hn0 HRF.out HP.out H9.out HC9.out HON.out HYB.out (by omega)
          · refine wpOp_step (i := 22) (by simp only [List.getElem?_toArray, List.getElem?_cons_succ, List.getElem?_cons_zero]; rfl) (fun K hK => ?_)
            rw [if_pos (by rfl)]
            go_simp
            have hb := bl_alloc (Below.refl w38.heap.size w38) (.cells #[.bool false] 4)
            replace HP := Lib.hid (HP.out.later hb)
            replace R16 := Lib.hid (R16.out.later hb)
            replace H9 := Lib.hid (text_later H9.out hb)
            have R22 := Lib.hid (Row.made w38 4 #[.bool false])
            refine hK _ _ ⟨sp_row HP.out.row _, ?_⟩
            clear hK K hb
            try simp only [Act.put, List.setIfInBounds_toArray, List.set_cons_zero, List.set_cons_succ]
            generalize w38.alloc (.cells #[.bool false] 4) = w42 at *
            generalize w38.heap.size = g22 at *
            refine AnyL.all (rs := [17]) (by decide +kernel) (by simp) ?_
            intro j hj
            simp only [List.mem_cons, List.not_mem_nil, or_false] at hj
            subst hj
            refine wpOp_step (i := 17) (by simp only [List.getElem?_toArray, List.getElem?_cons_succ, List.getElem?_cons_zero]; rfl) (fun K hK => ?_)
            refine step_t rfl rfl rfl (by rfl) (by rfl) HP.out R16.out (by omega) ?_
            intro A2 e2 w43 hp o2
            replace HP := Lib.hid hp
            replace H9 := Lib.hid (text_kr H9.out o2 (by decide))
            replace R22 := Lib.hid (o2.rows _ _ _ R22.out (by decide))
            refine hK _ _ ⟨sp_row HP.out.row _, ?_⟩
            clear hK K hp o2 R16
            try simp only [Act.put, List.setIfInBounds_toArray, List.set_cons_zero, List.set_cons_succ]
            refine AnyL.all (rs := [23]) (by decide +kernel) (by simp) ?_
            intro j hj
            simp only [List.mem_cons, List.not_mem_nil, or_false] at hj
            subst hj
            refine wpOp_step (i := 23) (by simp only [List.getElem?_toArray, List.getElem?_cons_succ, List.getElem?_cons_zero]; rfl) (fun K hK => ?_)
            refine step_g rfl rfl rfl (by rfl) (by rfl) HP.out R22.out (by omega) ?_
            intro A3 e3 w44 hp o2
            replace HP := Lib.hid hp
            replace H9 := Lib.hid (text_kr H9.out o2 (by decide))
            refine hK _ _ ⟨sp_row HP.out.row _, ?_⟩
            clear hK K hp o2 R22
            try simp only [Act.put, List.setIfInBounds_toArray, List.set_cons_zero, List.set_cons_succ]
            obtain ⟨c0, c1, c2, c3⟩ := qcells HP.out.row
            have f1 := HP.out.row.free 1
            have f2 := HP.out.row.free 2
            have f3 := HP.out.row.free 3
            have HRF := Lib.hid (((HP.out.row.written 1 (.slice A1 (N + 1) e1)).written 2 (.slice A2 (N + 1) e2)).written 3 (.slice A3 (N + 1) e3))
            refine sp_take 25 24 53 (u := ?v24_10) (by simp only [List.getElem?_toArray, List.getElem?_cons_succ, List.getElem?_cons_zero]; rfl) rfl (by decide +kernel) (by intro _ _ _ h; exact h) (by decide) (Or.inl ⟨by rfl, ?y24_10⟩) (sp_vac (by decide +kernel) (by decide +kernel) (by decide +kernel)) ?_
            case y24_10 =>
              intro W hT
              go_simp
              first | done | with_reducible rfl
            simp only [Act.put, List.setIfInBounds_toArray, List.set_cons_zero, List.set_cons_succ]
            refine sp_take 26 25 54 (u := ?v25_10) (by simp only [List.getElem?_toArray, List.getElem?_cons_succ, List.getElem?_cons_zero]; rfl) rfl (by decide +kernel) (by intro _ _ _ h; exact h) (by decide) (Or.inl ⟨by rfl, ?y25_10⟩) (sp_vac (by decide +kernel) (by decide +kernel) (by decide +kernel)) ?_
            case y25_10 =>
              intro W hT
              go_simp
              first | done | with_reducible rfl
            simp only [Act.put, List.setIfInBounds_toArray, List.set_cons_zero, List.set_cons_succ]
            refine AnyL.all (rs := [26]) (by decide +kernel) (by simp) ?_
            intro j hj
            simp only [List.mem_cons, List.not_mem_nil, or_false] at hj
            subst hj
            refine wpOp_step (i := 26) (by simp only [List.getElem?_toArray, List.getElem?_cons_succ, List.getElem?_cons_zero]; rfl) (fun K hK => ?_)
            rw [if_pos (by rfl)]
            go_simp
            refine hK _ _ ⟨(sp_vac (by decide +kernel) (by decide +kernel) (by decide +kernel)), ?_⟩
            clear hK K
            refine sp_take 28 27 55 (u := ?v27_10) (by simp only [List.getElem?_toArray, List.getElem?_cons_succ, List.getElem?_cons_zero]; rfl) rfl (by decide +kernel) (by intro _ _ _ h; exact h) (by decide) (Or.inl ⟨by rfl, ?y27_10⟩) (sp_vac (by decide +kernel) (by decide +kernel) (by decide +kernel)) ?_
            case y27_10 =>
              intro W hT
              go_simp
              first | done | with_reducible rfl
            simp only [Act.put, List.setIfInBounds_toArray, List.set_cons_zero, List.set_cons_succ]
            refine sp_take 29 28 56 (u := ?v28_10) (by simp only [List.getElem?_toArray, List.getElem?_cons_succ, List.getElem?_cons_zero]; rfl) rfl (by decide +kernel) (by intro _ _ _ h; exact h) (by decide) (Or.inl ⟨by rfl, ?y28_10⟩) (sp_vac (by decide +kernel) (by decide +kernel) (by decide +kernel)) ?_
            case y28_10 =>
              intro W hT
              go_simp
              first | done | with_reducible rfl
            simp only [Act.put, List.setIfInBounds_toArray, List.set_cons_zero, List.set_cons_succ]
            refine AnyL.all (rs := [29]) (by decide +kernel) (by simp) ?_
            intro j hj
            simp only [List.mem_cons, List.not_mem_nil, or_false] at hj
            subst hj
            refine wpOp_step (i := 29) (by simp only [List.getElem?_toArray, List.getElem?_cons_succ, List.getElem?_cons_zero]; rfl) (fun K hK => ?_)
            rw [if_pos (by rfl)]
            go_simp
            refine hK _ _ ⟨(sp_vac (by decide +kernel) (by decide +kernel) (by decide +kernel)), ?_⟩
            clear hK K
            refine sp_take 31 30 57 (u := ?v30_10) (by simp only [List.getElem?_toArray, List.getElem?_cons_succ, List.getElem?_cons_zero]; rfl) rfl (by decide +kernel) (by intro _ _ _ h; exact h) (by decide) (Or.inl ⟨by rfl, ?y30_10⟩) (sp_vac (by decide +kernel) (by decide +kernel) (by decide +kernel)) ?_
            case y30_10 =>
              intro W hT
              go_simp
              first | done | with_reducible rfl
            simp only [Act.put, List.setIfInBounds_toArray, List.set_cons_zero, List.set_cons_succ]
            refine sp_take 32 31 58 (u := ?v31_10) (by simp only [List.getElem?_toArray, List.getElem?_cons_succ, List.getElem?_cons_zero]; rfl) rfl (by decide +kernel) (by intro _ _ _ h; exact h) (by decide) (Or.inl ⟨by rfl, ?y31_10⟩) (sp_vac (by decide +kernel) (by decide +kernel) (by decide +kernel)) ?_
            case y31_10 =>
              intro W hT
              go_simp
              first | done | with_reducible rfl
            simp only [Act.put, List.setIfInBounds_toArray, List.set_cons_zero, List.set_cons_succ]
            refine AnyL.all (rs := [32]) (by decide +kernel) (by simp) ?_
            intro j hj
            simp only [List.mem_cons, List.not_mem_nil, or_false] at hj
            subst hj
            refine wpOp_step (i := 32) (by simp only [List.getElem?_toArray, List.getElem?_cons_succ, List.getElem?_cons_zero]; rfl) (fun K hK => ?_)
            rw [if_pos (by rfl)]
            go_simp
            refine hK _ _ ⟨(sp_vac (by decide +kernel) (by decide +kernel) (by decide +kernel)), ?_⟩
            clear hK K
            refine AnyL.done (by decide +kernel) ?_ _
            have HON := Lib.hid (only_three w44 y (.slice A1 (N + 1) e1) (.slice A2 (N + 1) e2) (.slice A3 (N + 1) e3))
            clear c0 c1 c2 c3 f1 f2 f3
            generalize ((w44.setCell ⟨y, 1, none⟩ (.slice A1 (N + 1) e1)).setCell ⟨y, 2, none⟩ (.slice A2 (N + 1) e2)).setCell ⟨y, 3, none⟩ (.slice A3 (N + 1) e3) = wf at *
            have k1 : wf.cell? ⟨y, 1, none⟩ = some (.slice A1 (N + 1) e1) := HRF.out.read rfl
            go_wp2
            go_ret2
            exact rq_done HQ.out HNN.out HLN.out hn hn0 HRF.out HP.out H9.out HC9.out HON.out HYB.out (by omega)
        · refine wpOp_step (i := 22) (by simp only [List.getElem?_toArray, List.getElem?_cons_succ, List.getElem?_cons_zero]; rfl) (fun K hK => ?_)
          rw [if_pos (by rfl)]
          go_simp
          have hb := bl_alloc (Below.refl w37.heap.size w37) (.cells #[.bool false] 4)
          replace HP := Lib.hid (HP.out.later hb)
          replace R10 := Lib.hid (R10.out.later hb)
          replace R16 := Lib.hid (R16.out.later hb)
          replace H9 := Lib.hid (text_later H9.out hb)
          have R22 := Lib.hid (Row.made w37 4 #[.bool false])
          refine hK _ _ ⟨sp_row HP.out.row _, ?_⟩
          clear hK K hb
          try simp only [Act.put, List.setIfInBounds_toArray, List.set_cons_zero, List.set_cons_succ]
          generalize w37.alloc (.cells #[.bool false] 4) = w45 at *
          generalize w37.heap.size = g22 at *
          refine AnyL.all (rs := [11]) (by decide +kernel) (by simp) ?_
          intro j hj
          simp only [List.mem_cons, List.not_mem_nil, or_false] at hj
          subst hj
          refine wpOp_step (i := 11) (by simp only [List.getElem?_toArray, List.getElem?_cons_succ, List.getElem?_cons_zero]; rfl) (fun K hK => ?_)
          refine step_l rfl rfl rfl (by rfl) (by rfl) HP.out R10.out (by omega) ?_
          intro A1 e1 w46 hp o2
          replace HP := Lib.hid hp
          replace H9 := Lib.hid (text_kr H9.out o2 (by decide))
          replace R16 := Lib.hid (o2.rows _ _ _ R16.out (by decide))
          replace R22 := Lib.hid (o2.rows _ _ _ R22.out (by decide))
          refine hK _ _ ⟨sp_row HP.out.row _, ?_⟩
          clear hK K hp o2 R10
          try simp only [Act.put, List.setIfInBounds_toArray, List.set_cons_zero, List.set_cons_succ]
          refine AnyL.all (rs := [17]) (by decide +kernel) (by simp) ?_
          intro j hj
          simp only [List.mem_cons, List.not_mem_nil, or_false] at hj
          subst hj
          refine wpOp_step (i := 17) (by simp only [List.getElem?_toArray, List.getElem?_cons_succ, List.getElem?_cons_zero]; rfl) (fun K hK => ?_)
          refine step_t rfl rfl rfl (by rfl) (by rfl) HP.out R16.out (by omega) ?_
          intro A2 e2 w47 hp o2
          replace HP := Lib.hid hp
          replace H9 := Lib.hid (text_kr H9.out o2 (by decide))
          replace R22 := Lib.hid (o2.rows _ _ _ R22.out (by decide))
          refine hK _ _ ⟨sp_row HP.out.row _, ?_⟩
          clear hK K hp o2 R16
          try simp only [Act.put, List.setIfInBounds_toArray, List.set_cons_zero, List.set_cons_succ]
          refine AnyL.all (rs := [23]) (by decide +kernel) (by simp) ?_
          intro j hj
          simp only [List.mem_cons, List.not_mem_nil, or_false] at hj
          subst hj
          refine wpOp_step (i := 23) (by simp only [List.getElem?_toArray, List.getElem?_cons_succ, List.getElem?_cons_zero]; rfl) (fun K hK => ?_)
          refine step_g rfl rfl rfl (by rfl) (by rfl) HP.out R22.out (by omega) ?_
          intro A3 e3 w48 hp o2
          replace HP := Lib.hid hp
          replace H9 := Lib.hid (text_kr H9.out o2 (by decide))
          refine hK _ _ ⟨sp_row HP.out.row _, ?_⟩
          clear hK K hp o2 R22
          try simp only [Act.put, List.setIfInBounds_toArray, List.set_cons_zero, List.set_cons_succ]
          obtain ⟨c0, c1, c2, c3⟩ := qcells HP.out.row
          have f1 := HP.out.row.free 1
          have f2 := HP.out.row.free 2
          have f3 := HP.out.row.free 3
          have HRF := Lib.hid (((HP.out.row.written 1 (.slice A1 (N + 1) e1)).written 2 (.slice A2 (N + 1) e2)).written 3 (.slice A3 (N + 1) e3))
          refine sp_take 25 24 53 (u := ?v24_11) (by simp only [List.getElem?_toArray, List.getElem?_cons_succ, List.getElem?_cons_zero]; rfl) rfl (by decide +kernel) (by intro _ _ _ h; exact h) (by decide) (Or.inl ⟨by rfl, ?y24_11⟩) (sp_vac (by decide +kernel) (by decide +kernel) (by decide +kernel)) ?_
          case y24_11 =>
            intro W hT
            go_simp
            first | done | with_reducible rfl
          simp only [Act.put, List.setIfInBounds_toArray, List.set_cons_zero, List.set_cons_succ]
          refine sp_take 26 25 54 (u := ?v25_11) (by simp only [List.getElem?_toArray, List.getElem?_cons_succ, List.getElem?_cons_zero]; rfl) rfl (by decide +kernel) (by intro _ _ _ h; exact h) (by decide) (Or.inl ⟨by rfl, ?y25_11⟩) (sp_vac (by decide +kernel) (by decide +kernel) (by decide +kernel)) ?_
          case y25_11 =>
            intro W hT
            go_simp
            first | done | with_reducible rfl
          simp only [Act.put, List.setIfInBounds_toArray, List.set_cons_zero, List.set_cons_succ]
          refine AnyL.all (rs := [26]) (by decide +kernel) (by simp) ?_
          intro j hj
          simp only [List.mem_cons, List.not_mem_nil, or_false] at hj
          subst hj
          refine wpOp_step (i := 26) (by simp only [List.getElem?_toArray, List.getElem?_cons_succ, List.getElem?_cons_zero]; rfl) (fun K hK => ?_)
          rw [if_pos (by rfl)]
          go_simp
          refine hK _ _ ⟨(sp_vac (by decide +kernel) (by decide +kernel) (by decide +kernel)), ?_⟩
          clear hK K
          refine sp_take 28 27 55 (u := ?v27_11) (by simp only [List.getElem?_toArray, List.getElem?_cons_succ, List.getElem?_cons_zero]; rfl) rfl (by decide +kernel) (by intro _ _ _ h; exact h) (by decide) (Or.inl ⟨by rfl, ?y27_11⟩) (sp_vac (by decide +kernel) (by decide +kernel) (by decide +kernel)) ?_
          case y27_11 =>
            intro W hT
            go_simp
            first | done | with_reducible rfl
          simp only [Act.put, List.setIfInBounds_toArray, List.set_cons_zero, List.set_cons_succ]
          refine sp_take 29 28 56 (u := ?v28_11) (by simp only [List.getElem?_toArray, List.getElem?_cons_succ, List.getElem?_cons_zero]; rfl) rfl (by decide +kernel) (by intro _ _ _ h; exact h) (by decide) (Or.inl ⟨by rfl, ?y28_11⟩) (sp_vac (by decide +kernel) (by decide +kernel) (by decide +kernel)) ?_
          case y28_11 =>
            intro W hT
            go_simp
            first | done | with_reducible rfl
          simp only [Act.put, List.setIfInBounds_toArray, List.set_cons_zero, List.set_cons_succ]
          refine AnyL.all (rs := [29]) (by decide +kernel) (by simp) ?_
          intro j hj
          simp only [List.mem_cons, List.not_mem_nil, or_false] at hj
          subst hj
          refine wpOp_step (i := 29) (by simp only [List.getElem?_toArray, List.getElem?_cons_succ, List.getElem?_cons_zero]; rfl) (fun K hK => ?_)
          rw [if_pos (by rfl)]
          go_simp
          refine hK _ _ ⟨(sp_vac (by decide +kernel) (by decide +kernel) (by decide +kernel)), ?_⟩
          clear hK K
          refine sp_take 31 30 57 (u := ?v30_11) (by simp only [List.getElem?_toArray, List.getElem?_cons_succ, List.getElem?_cons_zero]; rfl) rfl (by decide +kernel) (by intro _ _ _ h; exact h) (by decide) (Or.inl ⟨by rfl, ?y30_11⟩) (sp_vac (by decide +kernel) (by decide +kernel) (by decide +kernel)) ?_
          case y30_11 =>
            intro W hT
            go_simp
            first | done | with_reducible rfl
          simp only [Act.put, List.setIfInBounds_toArray, List.set_cons_zero, List.set_cons_succ]
          refine sp_take 32 31 58 (u := ?v31_11) (by simp only [List.getElem?_toArray, List.getElem?_cons_succ, List.getElem?_cons_zero]; rfl) rfl (by decide +kernel) (by intro _ _ _ h; exact h) (by decide) (Or.inl ⟨by rfl, ?y31_11⟩) (sp_vac (by decide +kernel) (by decide +kernel) (by decide +kernel)) ?_
          case y31_11 =>
            intro W hT
            go_simp
            first | done | with_reducible rfl
          simp only [Act.put, List.setIfInBounds_toArray, List.set_cons_zero, List.set_cons_succ]
          refine AnyL.all (rs := [32]) (by decide +kernel) (by simp) ?_
          intro j hj
          simp only [List.mem_cons, List.not_mem_nil, or_false] at hj
          subst hj
          refine wpOp_step (i := 32) (by simp only [List.getElem?_toArray, List.getElem?_cons_succ, List.getElem?_cons_zero]; rfl) (fun K hK => ?_)
          rw [if_pos (by rfl)]
          go_simp
          refine hK _ _ ⟨(sp_vac (by decide +kernel) (by decide +kernel) (by decide +kernel)), ?_⟩
          clear hK K
          refine AnyL.done (by decide +kernel) ?_ _
          have HON := Lib.hid (only_three w48 y (.slice A1 (N + 1) e1) (.slice A2 (N + 1) e2) (.slice A3 (N + 1) e3))
          clear c0 c1 c2 c3 f1 f2 f3
          generalize ((w48.setCell ⟨y, 1, none⟩ (.slice A1 (N + 1) e1)).setCell ⟨y, 2, none⟩ (.slice A2 (N + 1) e2)).setCell ⟨y, 3, none⟩ (.slice A3 (N + 1) e3) = wf at *
          have k1 : wf.cell? ⟨y, 1, none⟩ = some (.slice A1 (N + 1) e1) := HRF.out.read rfl
          go_wp2
          go_ret2
          exact rq_done HQ.out HNN.out HLN.out hn hn0 HRF.out HP.out H9.out HC9.out HON.out HYB.out (by omega)
      · refine wpOp_step (i := 22) (by simp only [List.getElem?_toArray, List.getElem?_cons_succ, List.getElem?_cons_zero]; rfl) (fun K hK => ?_)
        rw [if_pos (by rfl)]
        go_simp
        have hb := bl_alloc (Below.refl w36.heap.size w36) (.cells #[.bool false] 4)
        replace HP := Lib.hid (HP.out.later hb)
        replace R16 := Lib.hid (R16.out.later hb)
        replace H9 := Lib.hid (text_later H9.out hb)
        have R22 := Lib.hid (Row.made w36 4 #[.bool false])
        refine hK _ _ ⟨sp_row HP.out.row _, ?_⟩
        clear hK K hb
        try simp only [Act.put, List.setIfInBounds_toArray, List.set_cons_zero, List.set_cons_succ]
        generalize w36.alloc (.cells #[.bool false] 4) = w49 at *
        generalize w36.heap.size = g22 at *
        refine AnyL.all (rs := [10]) (by decide +kernel) (by simp) ?_
        intro j hj
        simp only [List.mem_cons, List.not_mem_nil, or_false] at hj
        subst hj
        refine wpOp_step (i := 10) (by simp only [List.getElem?_toArray, List.getElem?_cons_succ, List.getElem?_cons_zero]; rfl) (fun K hK => ?_)
        rw [if_pos (by rfl)]
        go_simp
        have hb := bl_alloc (Below.refl w49.heap.size w49) (.cells #[.slice (some ⟨g9, 0, none⟩) n cap9] 38)
        replace HP := Lib.hid (HP.out.later hb)
        replace R16 := Lib.hid (R16.out.later hb)
        replace R22 := Lib.hid (R22.out.later hb)
        replace H9 := Lib.hid (text_later H9.out hb)
        have R10 := Lib.hid (Row.made w49 38 #[.slice (some ⟨g9, 0, none⟩) n cap9])
        refine hK _ _ ⟨sp_row HP.out.row _, ?_⟩
        clear hK K hb
        try simp only [Act.put, List.setIfInBounds_toArray, List.set_cons_zero, List.set_cons_succ]
        generalize w49.alloc (.cells #[.slice (some ⟨g9, 0, none⟩) n cap9] 38) = w50 at *
        generalize w49.heap.size = g10 at *
        refine AnyL.all (rs := [11]) (by decide +kernel) (by simp) ?_
        intro j hj
        simp only [List.mem_cons, List.not_mem_nil, or_false] at hj
        subst hj
        refine wpOp_step (i := 11) (by simp only [List.getElem?_toArray, List.getElem?_cons_succ, List.getElem?_cons_zero]; rfl) (fun K hK => ?_)
        refine step_l rfl rfl rfl (by rfl) (by rfl) HP.out R10.out (by omega) ?_
        intro A1 e1 w51 hp o2
        replace HP := Lib.hid hp
        replace H9 := Lib.hid (text_kr H9.out o2 (by decide))
        replace R16 := Lib.hid (o2.rows _ _ _ R16.out (by decide))
        replace R22 := Lib.hid (o2.rows _ _ _ R22.out (by decide))
        refine hK _ _ ⟨sp_row HP.out.row _, ?_⟩
        clear hK K hp o2 R10
        try simp only [Act.put, List.setIfInBounds_toArray, List.set_cons_zero, List.set_cons_succ]
        refine AnyL.all (rs := [17]) (by decide +kernel) (by simp) ?_
        intro j hj
        simp only [List.mem_cons, List.not_mem_nil, or_false] at hj
        subst hj
        refine wpOp_step (i := 17) (by simp only [List.getElem?_toArray, List.getElem?_cons_succ, List.getElem?_cons_zero]; rfl) (fun K hK => ?_)
        refine step_t rfl rfl rfl (by rfl) (by rfl) HP.out R16.out (by omega) ?_
        intro A2 e2 w52 hp o2
        replace HP := Lib.hid hp
        replace H9 := Lib.hid (text_kr H9.out o2 (by decide))
        replace R22 := Lib.hid (o2.rows _ _ _ R22.out (by decide))
        refine hK _ _ ⟨sp_row HP.out.row _, ?_⟩
        clear hK K hp o2 R16
        try simp only [Act.put, List.setIfInBounds_toArray, List.set_cons_zero, List.set_cons_succ]
        refine AnyL.all (rs := [23]) (by decide +kernel) (by simp) ?_
        intro j hj
        simp only [List.mem_cons, List.not_mem_nil, or_false] at hj
        subst hj
        refine wpOp_step (i := 23) (by simp only [List.getElem?_toArray, List.getElem?_cons_succ, List.getElem?_cons_zero]; rfl) (fun K hK => ?_)
        refine step_g rfl rfl rfl (by rfl) (by rfl) HP.out R22.out (by omega) ?_
        intro A3 e3 w53 hp o2
        replace HP := Lib.hid hp
        replace H9 := Lib.hid (text_kr H9.out o2 (by decide))
        refine hK _ _ ⟨sp_row HP.out.row _, ?_⟩
        clear hK K hp o2 R22
        try simp only [Act.put, List.setIfInBounds_toArray, List.set_cons_zero, List.set_cons_succ]
        obtain ⟨c0, c1, c2, c3⟩ := qcells HP.out.row
        have f1 := HP.out.row.free 1
        have f2 := HP.out.row.free 2
        have f3 := HP.out.row.free 3
        have HRF := Lib.hid (((HP.out.row.written 1 (.slice A1 (N + 1) e1)).written 2 (.slice A2 (N + 1) e2)).written 3 (.slice A3 (N + 1) e3))
        refine sp_take 25 24 53 (u := ?v24_12) (by simp only [List.getElem?_toArray, List.getElem?_cons_succ, List.getElem?_cons_zero]; rfl) rfl (by decide +kernel) (by intro _ _ _ h; exact h) (by decide) (Or.inl ⟨by rfl, ?y24_12⟩) (sp_vac (by decide +kernel) (by decide +kernel) (by decide +kernel)) ?_
        case y24_12 =>
          intro W hT
          go_simp
          first | done | with_reducible rfl
        simp only [Act.put, List.setIfInBounds_toArray, List.set_cons_zero, List.set_cons_succ]
        refine sp_take 26 25 54 (u := ?v25_12) (by simp only [List.getElem?_toArray, List.getElem?_cons_succ, List.getElem?_cons_zero]; rfl) rfl (by decide +kernel) (by intro _ _ _ h; exact h) (by decide) (Or.inl ⟨by rfl, ?y25_12⟩) (sp_vac (by decide +kernel) (by decide +kernel) (by decide +kernel)) ?_
        case y25_12 =>
          intro W hT
          go_simp
          first | done | with_reducible rfl
        simp only [Act.put, List.setIfInBounds_toArray, List.set_cons_zero, List.set_cons_succ]
        refine AnyL.all (rs := [26]) (by decide +kernel) (by simp) ?_
        intro j hj
        simp only [List.mem_cons, List.not_mem_nil, or_false] at hj
        subst hj
        refine wpOp_step (i := 26) (by simp only [List.getElem?_toArray, List.getElem?_cons_succ, List.getElem?_cons_zero]; rfl) (fun K hK => ?_)
        rw [if_pos (by rfl)]
        go_simp
        refine hK _ _ ⟨(sp_vac (by decide +kernel) (by decide +kernel) (by decide +kernel)), ?_⟩
        clear hK K
        refine sp_take 28 27 55 (u := ?v27_12) (by simp only [List.getElem?_toArray, List.getElem?_cons_succ, List.getElem?_cons_zero]; rfl) rfl (by decide +kernel) (by intro _ _ _ h; exact h) (by decide) (Or.inl ⟨by rfl, ?y27_12⟩) (sp_vac (by decide +kernel) (by decide +kernel) (by decide +kernel)) ?_
        case y27_12 =>
          intro W hT
          go_simp
          first | done | with_reducible rfl
        simp only [Act.put, List.setIfInBounds_toArray, List.set_cons_zero, List.set_cons_succ]
        refine sp_take 29 28 56 (u := ?v28_12) (by simp only [List.getElem?_toArray, List.getElem?_cons_succ, List.getElem?_cons_zero]; rfl) rfl (by decide +kernel) (by intro _ _ _ h; exact h) (by decide) (Or.inl ⟨by rfl, ?y28_12⟩) (sp_vac (by decide +kernel) (by decide +kernel) (by decide +kernel)) ?_
        case y28_12 =>
          intro W hT
          go_simp
          first | done | with_reducible rfl
        simp only [Act.put, List.setIfInBounds_toArray, List.set_cons_zero, List.set_cons_succ]
        refine AnyL.all (rs := [29]) (by decide +kernel) (by simp) ?_
        intro j hj
        simp only [List.mem_cons, List.not_mem_nil, or_false] at hj
        subst hj
        refine wpOp_step (i := 29) (by simp only [List.getElem?_toArray, List.getElem?_cons_succ, List.getElem?_cons_zero]; rfl) (fun K hK => ?_)
        rw [if_pos (by rfl)]
        go_simp
        refine hK _ _ ⟨(sp_vac (by decide +kernel) (by decide +kernel) (by decide +kernel)), ?_⟩
        clear hK K
        refine sp_take 31 30 57 (u := ?v30_12) (by simp only [List.getElem?_toArray, List.getElem?_cons_succ, List.getElem?_cons_zero]; rfl) rfl (by decide +kernel) (by intro _ _ _ h; exact h) (by decide) (Or.inl ⟨by rfl, ?y30_12⟩) (sp_vac (by decide +kernel) (by decide +kernel) (by decide +kernel)) ?_
        case y30_12 =>
          intro W hT
          go_simp
          first | done | with_reducible rfl
        simp only [Act.put, List.setIfInBounds_toArray, List.set_cons_zero, List.set_cons_succ]
        refine sp_take 32 31 58 (u := ?v31_12) (by simp only [List.getElem?_toArray, List.getElem?_cons_succ, List.getElem?_cons_zero]; rfl) rfl (by decide +kernel) (by intro _ _ _ h; exact h) (by decide) (Or.inl ⟨by rfl, ?y31_12⟩) (sp_vac (by decide +kernel) (by decide +kernel) (by decide +kernel)) ?_
        case y31_12 =>
          intro W hT
          go_simp
          first | done | with_reducible rfl
        simp only [Act.put, List.setIfInBounds_toArray, List.set_cons_zero, List.set_cons_succ]
        refine AnyL.all (rs := [32]) (by decide +kernel) (by simp) ?_
        intro j hj
        simp only [List.mem_cons, List.not_mem_nil, or_false] at hj
        subst hj
        refine wpOp_step (i := 32) (by simp only [List.getElem?_toArray, List.getElem?_cons_succ, List.getElem?_cons_zero]; rfl) (fun K hK => ?_)
        rw [if_pos (by rfl)]
        go_simp
        refine hK _ _ ⟨(sp_vac (by decide +kernel) (by decide +kernel) (by decide +kernel)), ?_⟩
        clear hK K
        refine AnyL.done (by decide +kernel) ?_ _
        have HON := Lib.hid (only_three w53 y (.slice A1 (N + 1) e1) (.slice A2 (N + 1) e2) (.slice A3 (N + 1) e3))
        clear c0 c1 c2 c3 f1 f2 f3
        generalize ((w53.setCell ⟨y, 1, none⟩ (.slice A1 (N + 1) e1)).setCell ⟨y, 2, none⟩ (.slice A2 (N + 1) e2)).setCell ⟨y, 3, none⟩ (.slice A3 (N + 1) e3) = wf at *
        have k1 : wf.cell? ⟨y, 1, none⟩ = some (.slice A1 (N + 1) e1) := HRF.out.read rfl
        go_wp2
        go_ret2
        exact rq_done HQ.out HNN.out HLN.out hn hn0 HRF.out HP.out H9.out HC9.out HON.out HYB.out (by omega)
    · refine wpOp_step (i := 22) (by simp only [List.getElem?_toArray, List.getElem?_cons_succ, List.getElem?_cons_zero]; rfl) (fun K hK => ?_)
      rw [if_pos (by rfl)]
      go_simp
      have hb := bl_alloc (Below.refl w1.heap.size w1) (.cells #[.bool false] 4)
      replace HP := Lib.hid (HP.out.later hb)
      replace H9 := Lib.hid (text_later H9.out hb)
      have R22 := Lib.hid (Row.made w1 4 #[.bool false])
      refine hK _ _ ⟨sp_row HP.out.row _, ?_⟩
      clear hK K hb
      try simp only [Act.put, List.setIfInBounds_toArray, List.set_cons_zero, List.set_cons_succ]
      generalize w1.alloc (.cells #[.bool false] 4) = w54 at *
      generalize w1.heap.size = g22 at *
      refine AnyL.all (rs := [10, 16]) (by decide +kernel) (by simp) ?_
      intro j hj
      simp only [List.mem_cons, List.not_mem_nil, or_false] at hj
      rcases hj with rfl | rfl
      · refine wpOp_step (i := 10) (by simp only [List.getElem?_toArray, List.getElem?_cons_succ, List.getElem?_cons_zero]; rfl) (fun K hK => ?_)
        rw [if_pos (by rfl)]
        go_simp
        have hb := bl_alloc (Below.refl w54.heap.size w54) (.cells #[.slice (some ⟨g9, 0, none⟩) n cap9] 38)
        replace HP := Lib.hid (HP.out.later hb)
        replace R22 := Lib.hid (R22.out.later hb)
        replace H9 := Lib.hid (text_later H9.out hb)
        have R10 := Lib.hid (Row.made w54 38 #[.slice (some ⟨g9, 0, none⟩) n cap9])
        refine hK _ _ ⟨sp_row HP.out.row _, ?_⟩
        clear hK K hb
        try simp only [Act.put, List.setIfInBounds_toArray, List.set_cons_zero, List.set_cons_succ]
        generalize w54.alloc (.cells #[.slice (some ⟨g9, 0, none⟩) n cap9] 38) = w55 at *
        generalize w54.heap.size = g10 at *
        refine AnyL.all (rs := [11, 16]) (by decide +kernel) (by simp) ?_
        intro j hj
        simp only [List.mem_cons, List.not_mem_nil, or_false] at hj
        rcases hj with rfl | rfl
        · refine wpOp_step (i := 11) (by simp only [List.getElem?_toArray, List.getElem?_cons_succ, List.getElem?_cons_zero]; rfl) (fun K hK => ?_)
          refine step_l rfl rfl rfl (by rfl) (by rfl) HP.out R10.out (by omega) ?_
          intro A1 e1 w56 hp o2
          replace HP := Lib.hid hp
          replace H9 := Lib.hid (text_kr H9.out o2 (by decide))
          replace R22 := Lib.hid (o2.rows _ _ _ R22.out (by decide))
          refine hK _ _ ⟨sp_row HP.out.row _, ?_⟩
          clear hK K hp o2 R10
          try simp only [Act.put, List.setIfInBounds_toArray, List.set_cons_zero, List.set_cons_succ]
          refine AnyL.all (rs := [16]) (by decide +kernel) (by simp) ?_
          intro j hj
          simp only [List.mem_cons, List.not_mem_nil, or_false] at hj
          subst hj
          refine wpOp_step (i := 16) (by simp only [List.getElem?_toArray, List.getElem?_cons_succ, List.getElem?_cons_zero]; rfl) (fun K hK => ?_)
          rw [if_pos (by rfl)]
          go_simp
          have hb := bl_alloc (Below.refl w56.heap.size w56) (.cells #[.int .i64 0] 3)
          replace HP := Lib.hid (HP.out.later hb)
          replace R22 := Lib.hid (R22.out.later hb)
          replace H9 := Lib.hid (text_later H9.out hb)
          have R16 := Lib.hid (Row.made w56 3 #[.int .i64 0])
          refine hK _ _ ⟨sp_row HP.out.row _, ?_⟩
          clear hK K hb
          try simp only [Act.put, List.setIfInBounds_toArray, List.set_cons_zero, List.set_cons_succ]
          generalize w56.alloc (.cells #[.int .i64 0] 3) = w57 at *
          generalize w56.heap.size = g16 at *
          refine AnyL.all (rs := [17]) (by decide +kernel) (by simp) ?_
          intro j hj
          simp only [List.mem_cons, List.not_mem_nil, or_false] at hj
          subst hj
          refine wpOp_step (i := 17) (by simp only [List.getElem?_toArray, List.getElem?_cons_succ, List.getElem?_cons_zero]; rfl) (fun K hK => ?_)
          refine step_t rfl rfl rfl (by rfl) (by rfl) HP.out R16.out (by omega) ?_
          intro A2 e2 w58 hp o2
          replace HP := Lib.hid hp
          replace H9 := Lib.hid (text_kr H9.out o2 (by decide))
          replace R22 := Lib.hid (o2.rows _ _ _ R22.out (by decide))
          refine hK _ _ ⟨sp_row HP.out.row _, ?_⟩
          clear hK K hp o2 R16
          try simp only [Act.put, List.setIfInBounds_toArray, List.set_cons_zero, List.set_cons_succ]
          refine AnyL.all (rs := [23]) (by decide +kernel) (by simp) ?_
          intro j hj
          simp only [List.mem_cons, List.not_mem_nil, or_false] at hj
          subst hj
          refine wpOp_step (i := 23) (by simp only [List.getElem?_toArray, List.getElem?_cons_succ, List.getElem?_cons_zero]; rfl) (fun K hK => ?_)
          refine step_g rfl rfl rfl (by rfl) (by rfl) HP.out R22.out (by omega) ?_
          intro A3 e3 w59 hp o2
          replace HP := Lib.hid hp
          replace H9 := Lib.hid (text_kr H9.out o2 (by decide))
          refine hK _ _ ⟨sp_row HP.out.row _, ?_⟩
          clear hK K hp o2 R22
          try simp only [Act.put, List.setIfInBounds_toArray, List.set_cons_zero, List.set_cons_succ]
          obtain ⟨c0, c1, c2, c3⟩ := qcells HP.out.row
          have f1 := HP.out.row.free 1
          have f2 := HP.out.row.free 2
          have f3 := HP.out.row.free 3
          have HRF := Lib.hid (((HP.out.row.written 1 (.slice A1 (N + 1) e1)).written 2 (.slice A2 (N + 1) e2)).written 3 (.slice A3 (N + 1) e3))
          refine sp_take 25 24 53 (u := ?v24_13) (by simp only [List.getElem?_toArray, List.getElem?_cons_succ, List.getElem?_cons_zero]; rfl) rfl (by decide +kernel) (by intro _ _ _ h; exact h) (by decide) (Or.inl ⟨by rfl, ?y24_13⟩) (sp_vac (by decide +kernel) (by decide +kernel) (by decide +kernel)) ?_
          case y24_13 =>
            intro W hT
            go_simp
            first | done | with_reducible rfl
          simp only [Act.put, List.setIfInBounds_toArray, List.set_cons_zero, List.set_cons_succ]
          refine sp_take 26 25 54 (u := ?v25_13) (by simp only [List.getElem?_toArray, List.getElem?_cons_succ, List.getElem?_cons_zero]; rfl) rfl (by decide +kernel) (by intro _ _ _ h; exact h) (by decide) (Or.inl ⟨by rfl, ?y25_13⟩) (sp_vac (by decide +kernel) (by decide +kernel) (by decide +kernel)) ?_
          case y25_13 =>
            intro W hT
            go_simp
            first | done | with_reducible rfl
          simp only [Act.put, List.setIfInBounds_toArray, List.set_cons_zero, List.set_cons_succ]
          refine AnyL.all (rs := [26]) (by decide +kernel) (by simp) ?_
          intro j hj
          simp only [List.mem_cons, List.not_mem_nil, or_false] at hj
          subst hj
          refine wpOp_step (i := 26) (by simp only [List.getElem?_toArray, List.getElem?_cons_succ, List.getElem?_cons_zero]; rfl) (fun K hK => ?_)
          rw [if_pos (by rfl)]
          go_simp
          refine hK _ _ ⟨(sp_vac (by decide +kernel) (by decide +kernel) (by decide +kernel)), ?_⟩
          clear hK K
          refine sp_take 28 27 55 (u := ?v27_13) (by simp only [List.getElem?_toArray, List.getElem?_cons_succ, List.getElem?_cons_zero]; rfl) rfl (by decide +kernel) (by intro _ _ _ h; exact h) (by decide) (Or.inl ⟨by rfl, ?y27_13⟩) (sp_vac (by decide +kernel) (by decide +kernel) (by decide +kernel)) ?_
          case y27_13 =>
            intro W hT
            go_simp
            first | done | with_reducible rfl
          simp only [Act.put, List.setIfInBounds_toArray, List.set_cons_zero, List.set_cons_succ]
          refine sp_take 29 28 56 (u := ?v28_13) (by simp only [List.getElem?_toArray, List.getElem?_cons_succ, List.getElem?_cons_zero]; rfl) rfl (by decide +kernel) (by intro _ _ _ h; exact h) (by decide) (Or.inl ⟨by rfl, ?y28_13⟩) (sp_vac (by decide +kernel) (by decide +kernel) (by decide +kernel)) ?_
          case y28_13 =>
            intro W hT
            go_simp
            first | done | with_reducible rfl
          simp only [Act.put, List.setIfInBounds_toArray, List.set_cons_zero, List.set_cons_succ]
          refine AnyL.all (rs := [29]) (by decide +kernel) (by simp) ?_
          intro j hj
          simp only [List.mem_cons, List.not_mem_nil, or_false] at hj
          subst hj
          refine wpOp_step (i := 29) (by simp only [List.getElem?_toArray, List.getElem?_cons_succ, List.getElem?_cons_zero]; rfl) (fun K hK => ?_)
          rw [if_pos (by rfl)]
          go_simp
          refine hK _ _ ⟨(sp_vac (by decide +kernel) (by decide +kernel) (by decide +kernel)), ?_⟩
          clear hK K
          refine sp_take 31 30 57 (u := ?v30_13) (by simp only [List.getElem?_toArray, List.getElem?_cons_succ, List.getElem?_cons_zero]; rfl) rfl (by decide +kernel) (by intro _ _ _ h; exact h) (by decide) (Or.inl ⟨by rfl, ?y30_13⟩) (sp_vac (by decide +kernel) (by decide +kernel) (by decide +kernel)) ?_
          case y30_13 =>
            intro W hT
            go_simp
            first | done | with_reducible rfl
          simp only [Act.put, List.setIfInBounds_toArray, List.set_cons_zero, List.set_cons_succ]
          refine sp_take 32 31 58 (u := ?v31_13) (by simp only [List.getElem?_toArray, List.getElem?_cons_succ, List.getElem?_cons_zero]; rfl) rfl (by decide +kernel) (by intro _ _ _ h; exact h) (by decide) (Or.inl ⟨by rfl, ?y31_13⟩) (sp_vac (by decide +kernel) (by decide +kernel) (by decide +kernel)) ?_
          case y31_13 =>
            intro W hT
            go_simp
            first | done | with_reducible rfl
          simp only [Act.put, List.setIfInBounds_toArray, List.set_cons_zero, List.set_cons_succ]
          refine AnyL.all (rs := [32]) (by decide +kernel) (by simp) ?_
          intro j hj
          simp only [List.mem_cons, List.not_mem_nil, or_false] at hj
          subst hj
          refine wpOp_step (i := 32) (by simp only [List.getElem?_toArray, List.getElem?_cons_succ, List.getElem?_cons_zero]; rfl) (fun K hK => ?_)
          rw [if_pos (by rfl)]
          go_simp
          refine hK _ _ ⟨(sp_vac (by decide +kernel) (by decide +kernel) (by decide +kernel)), ?_⟩
          clear hK K
          refine AnyL.done (by decide +kernel) ?_ _
          have HON := Lib.hid (only_three w59 y (.slice A1 (N + 1) e1) (.slice A2 (N + 1) e2) (.slice A3 (N + 1) e3))
          clear c0 c1 c2 c3 f1 f2 f3
          generalize ((w59.setCell ⟨y, 1, none⟩ (.slice A1 (N + 1) e1)).setCell ⟨y, 2, none⟩ (.slice A2 (N + 1) e2)).setCell ⟨y, 3, none⟩ (.slice A3 (N + 1) e3) = wf at *
          have k1 : wf.cell? ⟨y, 1, none⟩ = some (.slice A1 (N + 1) e1) := HRF.out.read rfl
          go_wp2
          go_ret2
          exact rq_done HQ.out HNN.out HLN.out hn hn0 HRF.out HP.out H9.out HC9.out HON.out HYB.out (by omega)
        · refine wpOp_step (i := 16) (by simp only [List.getElem?_toArray, List.getElem?_cons_succ, List.getElem?_cons_zero]; rfl) (fun K hK => ?_)
          rw [if_pos (by rfl)]
          go_simp
          have hb := bl_alloc (Below.refl w55.heap.size w55) (.cells #[.int .i64 0] 3)
          replace HP := Lib.hid (HP.out.later hb)
          replace R10 := Lib.hid (R10.out.later hb)
          replace R22 := Lib.hid (R22.out.later hb)
          replace H9 := Lib.hid (text_later H9.out hb)
          have R16 := Lib.hid (Row.made w55 3 #[.int .i64 0])
          refine hK _ _ ⟨sp_row HP.out.row _, ?_⟩
          clear hK K hb
          try simp only [Act.put, List.setIfInBounds_toArray, List.set_cons_zero, List.set_cons_succ]
          generalize w55.alloc (.cells #[.int .i64 0] 3) = w60 at *
          generalize w55.heap.size = g16 at *
          refine AnyL.all (rs := [11]) (by decide +kernel) (by simp) ?_
          intro j hj
          simp only [List.mem_cons, List.not_mem_nil, or_false] at hj
          subst hj
          refine wpOp_step (i := 11) (by simp only [List.getElem?_toArray, List.getElem?_cons_succ, List.getElem?_cons_zero]; rfl) (fun K hK => ?_)
          refine step_l rfl rfl rfl (by rfl) (by rfl) HP.out R10.out (by omega) ?_
          intro A1 e1 w61 hp o2
          replace HP := Lib.hid hp
          replace H9 := Lib.hid (text_kr H9.out o2 (by decide))
          replace R16 := Lib.hid (o2.rows _ _ _ R16.out (by decide))
          replace R22 := Lib.hid (o2.rows _ _ _ R22.out (by decide))
          refine hK _ _ ⟨sp_row HP.out.row _, ?_⟩
          clear hK K hp o2 R10
          try simp only [Act.put, List.setIfInBounds_toArray, List.set_cons_zero, List.set_cons_succ]
          refine AnyL.all (rs := [17]) (by decide +kernel) (by simp) ?_
          intro j hj
          simp only [List.mem_cons, List.not_mem_nil, or_false] at hj
          subst hj
          refine wpOp_step (i := 17) (by simp only [List.getElem?_toArray, List.getElem?_cons_succ, List.getElem?_cons_zero]; rfl) (fun K hK => ?_)
          refine step_t rfl rfl rfl (by rfl) (by rfl) HP.out R16.out (by omega) ?_
          intro A2 e2 w62 hp o2
          replace HP := Lib.hid hp
          replace H9 := Lib.hid (text_kr H9.out o2 (by decide))
          replace R22 := Lib.hid (o2.rows _ _ _ R22.out (by decide))
          refine hK _ _ ⟨sp_row HP.out.row _, ?_⟩
          clear hK K hp o2 R16
          try simp only [Act.put, List.setIfInBounds_toArray, List.set_cons_zero, List.set_cons_succ]
          refine AnyL.all (rs := [23]) (by decide +kernel) (by simp) ?_
          intro j hj
          simp only [List.mem_cons, List.not_mem_nil, or_false] at hj
          subst hj
          refine wpOp_step (i := 23) (by simp only [List.getElem?_toArray, List.getElem?_cons_succ, List.getElem?_cons_zero]; rfl) (fun K hK => ?_)
          refine step_g rfl rfl rfl (by rfl) (by rfl) HP.out R22.out (by omega) ?_
          intro A3 e3 w63 hp o2
          replace HP := Lib.hid hp
          replace H9 := Lib.hid (text_kr H9.out o2 (by decide))
          refine hK _ _ ⟨sp_row HP.out.row _, ?_⟩
          clear hK K hp o2 R22
          try simp only [Act.put, List.setIfInBounds_toArray, List.set_cons_zero, List.set_cons_succ]
          obtain ⟨c0, c1, c2, c3⟩ := qcells HP.out.row
          have f1 := HP.out.row.free 1
          have f2 := HP.out.row.free 2
          have f3 := HP.out.row.free 3
          have HRF := Lib.hid (((HP.out.row.written 1 (.slice A1 (N + 1) e1)).written 2 (.slice A2 (N + 1) e2)).written 3 (.slice A3 (N + 1) e3))
          refine sp_take 25 24 53 (u := ?v24_14) (by simp only [List.getElem?_toArray, List.getElem?_cons_succ, List.getElem?_cons_zero]; rfl) rfl (by decide +kernel) (by intro _ _ _ h; exact h) (by decide) (Or.inl ⟨by rfl, ?y24_14⟩) (sp_vac (by decide +kernel) (by decide +kernel) (by decide +kernel)) ?_
          case y24_14 =>
            intro W hT
            go_simp
            first | done | with_reducible rfl
          simp only [Act.put, List.setIfInBounds_toArray, List.set_cons_zero, List.set_cons_succ]
          refine sp_take 26 25 54 (u := ?v25_14) (by simp only [List.getElem?_toArray, List.getElem?_cons_succ, List.getElem?_cons_zero]; rfl) rfl (by decide +kernel) (by intro _ _ _ h; exact h) (by decide) (Or.inl ⟨by rfl, ?y25_14⟩) (sp_vac (by decide +kernel) (by decide +kernel) (by decide +kernel)) ?_
          case y25_14 =>
            intro W hT
            go_simp
            first | done | with_reducible rfl
          simp only [Act.put, List.setIfInBounds_toArray, List.set_cons_zero, List.set_cons_succ]
          refine AnyL.all (rs := [26]) (by decide +kernel) (by simp) ?_
          intro j hj
          simp only [List.mem_cons, List.not_mem_nil, or_false] at hj
          subst hj
          refine wpOp_step (i := 26) (by simp only [List.getElem?_toArray, List.getElem?_cons_succ, List.getElem?_cons_zero]; rfl) (fun K hK => ?_)
          rw [if_pos (by rfl)]
          go_simp
          refine hK _ _ ⟨(sp_vac (by decide +kernel) (by decide +kernel) (by decide +kernel)), ?_⟩
          clear hK K
          refine sp_take 28 27 55 (u := ?v27_14) (by simp only [List.getElem?_toArray, List.getElem?_cons_succ, List.getElem?_cons_zero]; rfl) rfl (by decide +kernel) (by intro _ _ _ h; exact h) (by decide) (Or.inl ⟨by rfl, ?y27_14⟩) (sp_vac (by decide +kernel) (by decide +kernel) (by decide +kernel)) ?_
          case y27_14 =>
            intro W hT
            go_simp
            first | done | with_reducible rfl
          simp only [Act.put, List.setIfInBounds_toArray, List.set_cons_zero, List.set_cons_succ]
          refine sp_take 29 28 56 (u := ?v28_14) (by simp only [List.getElem?_toArray, List.getElem?_cons_succ, List.getElem?_cons_zero]; rfl) rfl (by decide +kernel) (by intro _ _ _ h; exact h) (by decide) (Or.inl ⟨by rfl, ?y28_14⟩) (sp_vac (by decide +kernel) (by decide +kernel) (by decide +kernel)) ?_
          case y28_14 =>
            intro W hT
            go_simp
            first | done | with_reducible rfl
          simp only [Act.put, List.setIfInBounds_toArray, List.set_cons_zero, List.set_cons_succ]
          refine AnyL.all (rs := [29]) (by decide +kernel) (by simp) ?_
          intro j hj
          simp only [List.mem_cons, List.not_mem_nil, or_false] at hj
          subst hj
          refine wpOp_step (i := 29) (by simp only [List.getElem?_toArray, List.getElem?_cons_succ, List.getElem?_cons_zero]; rfl) (fun K hK => ?_)
          rw [if_pos (by rfl)]
          go_simp
          refine hK _ _ ⟨(sp_vac (by decide +kernel) (by decide +kernel) (by decide +kernel)), ?_⟩
          clear hK K
          refine sp_take 31 30 57 (u := ?v30_14) (by simp only [List.getElem?_toArray, List.getElem?_cons_succ, List.getElem?_cons_zero]; rfl) rfl (by decide +kernel) (by intro _ _ _ h; exact h) (by decide) (Or.inl ⟨by rfl, ?y30_14⟩) (sp_vac (by decide +kernel) (by decide +kernel) (by decide +kernel)) ?_
          case y30_14 =>
            intro W hT
            go_simp
            first | done | with_reducible rfl
          simp only [Act.put, List.setIfInBounds_toArray, List.set_cons_zero, List.set_cons_succ]
          refine sp_take 32 31 58 (u := ?v31_14) (by simp only [List.getElem?_toArray, List.getElem?_cons_succ, List.getElem?_cons_zero]; rfl) rfl (by decide +kernel) (by intro _ _ _ h; exact h) (by decide) (Or.inl ⟨by rfl, ?y31_14⟩) (sp_vac (by decide +kernel) (by decide +kernel) (by decide +kernel)) ?_
          case y31_14 =>
            intro W hT
            go_simp
            first | done | with_reducible rfl
          simp only [Act.put, List.setIfInBounds_toArray, List.set_cons_zero, List.set_cons_succ]
          refine AnyL.all (rs := [32]) (by decide +kernel) (by simp) ?_
          intro j hj
          simp only [List.mem_cons, List.not_mem_nil, or_false] at hj
          subst hj
          refine wpOp_step (i := 32) (by simp only [List.getElem?_toArray, List.getElem?_cons_succ, List.getElem?_cons_zero]; rfl) (fun K hK => ?_)
          rw [if_pos (by rfl)]
          go_simp
          refine hK _ _ ⟨(sp_vac (by decide +kernel) (by decide +kernel) (by decide +kernel)), ?_⟩
          clear hK K
          refine AnyL.done (by decide +kernel) ?_ _
          have HON := Lib.hid (only_three w63 y (.slice A1 (N + 1) e1) (.slice A2 (N + 1) e2) (.slice A3 (N + 1) e3))
          clear c0 c1 c2 c3 f1 f2 f3
          generalize ((w63.setCell ⟨y, 1, none⟩ (.slice A1 (N + 1) e1)).setCell ⟨y, 2, none⟩ (.slice A2 (N + 1) e2)).setCell ⟨y, 3, none⟩ (.slice A3 (N + 1) e3) = wf at *
          have k1 : wf.cell? ⟨y, 1, none⟩ = some (.slice A1 (N + 1) e1) := HRF.out.read rfl
          go_wp2
          go_ret2
          exact rq_done HQ.out HNN.out HLN.out hn hn0 HRF.out HP.out H9.out HC9.out HON.out HYB.out (by omega)
      · refine wpOp_step (i := 16) (by simp only [List.getElem?_toArray, List.getElem?_cons_succ, List.getElem?_cons_zero]; rfl) (fun K hK => ?_)
        rw [if_pos (by rfl)]
        go_simp
        have hb := bl_alloc (Below.refl w54.heap.size w54) (.cells #[.int .i64 0] 3)
        replace HP := Lib.hid (HP.out.later hb)
        replace R22 := Lib.hid (R22.out.later hb)
        replace H9 := Lib.hid (text_later H9.out hb)
        have R16 := Lib.hid (Row.made w54 3 #[.int .i64 0])
        refine hK _ _ ⟨sp_row HP.out.row _, ?_⟩
        clear hK K hb
        try simp only [Act.put, List.setIfInBounds_toArray, List.set_cons_zero, List.set_cons_succ]
        generalize w54.alloc (.cells #[.int .i64 0] 3) = w64 at *
        generalize w54.heap.size = g16 at *
        refine AnyL.all (rs := [10]) (by decide +kernel) (by simp) ?_
        intro j hj
        simp only [List.mem_cons, List.not_mem_nil, or_false] at hj
        subst hj
        refine wpOp_step (i := 10) (by simp only [List.getElem?_toArray, List.getElem?_cons_succ, List.getElem?_cons_zero]; rfl) (fun K hK => ?_)
        rw [if_pos (by rfl)]
        go_simp
        have hb := bl_alloc (Below.refl w64.heap.size w64) (.cells #[.slice (some ⟨g9, 0, none⟩) n cap9] 38)
        replace HP := Lib.hid (HP.out.later hb)
        replace R16 := Lib.hid (R16.out.later hb)
        replace R22 := Lib.hid (R22.out.later hb)
        replace H9 := Lib.hid (text_later H9.out hb)
        have R10 := Lib.hid (Row.made w64 38 #[.slice (some ⟨g9, 0, none⟩) n cap9])
        refine hK _ _ ⟨sp_row HP.out.row _, ?_⟩
        clear hK K hb
        try simp only [Act.put, List.setIfInBounds_toArray, List.set_cons_zero, List.set_cons_succ]
        generalize w64.alloc (.cells #[.slice (some ⟨g9, 0, none⟩) n cap9] 38) = w65 at *
        generalize w64.heap.size = g10 at *
        refine AnyL.all (rs := [11]) (by decide +kernel) (by simp) ?_
        intro j hj
        simp only [List.mem_cons, List.not_mem_nil, or_false] at hj
        subst hj
        refine wpOp_step (i := 11) (by simp only [List.getElem?_toArray, List.getElem?_cons_succ, List.getElem?_cons_zero]; rfl) (fun K hK => ?_)
        refine step_l rfl rfl rfl (by rfl) (by rfl) HP.out R10.out (by omega) ?_
        intro A1 e1 w66 hp o2
        replace HP := Lib.hid hp
        replace H9 := Lib.hid (text_kr H9.out o2 (by decide))
        replace R16 := Lib.hid (o2.rows _ _ _ R16.out (by decide))
        replace R22 := Lib.hid (o2.rows _ _ _ R22.out (by decide))
        refine hK _ _ ⟨sp_row HP.out.row _, ?_⟩
        clear hK K hp o2 R10
        try simp only [Act.put, List.setIfInBounds_toArray, List.set_cons_zero, List.set_cons_succ]
        refine AnyL.all (rs := [17]) (by decide +kernel) (by simp) ?_
        intro j hj
        simp only [List.mem_cons, List.not_mem_nil, or_false] at hj
        subst hj
        refine wpOp_step (i := 17) (by simp only [List.getElem?_toArray, List.getElem?_cons_succ, List.getElem?_cons_zero]; rfl) (fun K hK => ?_)
        refine step_t rfl rfl rfl (by rfl) (by rfl) HP.out R16.out (by omega) ?_
        intro A2 e2 w67 hp o2
        replace HP := Lib.hid hp
        replace H9 := Lib.hid (text_kr H9.out o2 (by decide))
        replace R22 := Lib.hid (o2.rows _ _ _ R22.out (by decide))
        refine hK _ _ ⟨sp_row HP.out.row _, ?_⟩
        clear hK K hp o2 R16
        try simp only [Act.put, List.setIfInBounds_toArray, List.set_cons_zero, List.set_cons_succ]
        refine AnyL.all (rs := [23]) (by decide +kernel) (by simp) ?_
        intro j hj
        simp only [List.mem_cons, List.not_mem_nil, or_false] at hj
        subst hj
        refine wpOp_step (i := 23) (by simp only [List.getElem?_toArray, List.getElem?_cons_succ, List.getElem?_cons_zero]; rfl) (fun K hK => ?_)
        refine step_g rfl rfl rfl (by rfl) (by rfl) HP.out R22.out (by omega) ?_
        intro A3 e3 w68 hp o2
        replace HP := Lib.hid hp
        replace H9 := Lib.hid (text_kr H9.out o2 (by decide))
        refine hK _ _ ⟨sp_row HP.out.row _, ?_⟩
        clear hK K hp o2 R22
        try simp only [Act.put, List.setIfInBounds_toArray, List.set_cons_zero, List.set_cons_succ]
        obtain ⟨c0, c1, c2, c3⟩ := qcells HP.out.row
        have f1 := HP.out.row.free 1
        have f2 := HP.out.row.free 2
        have f3 := HP.out.row.free 3
        have HRF := Lib.hid (((HP.out.row.written 1 (.slice A1 (N + 1) e1)).written 2 (.slice A2 (N + 1) e2)).written 3 (.slice A3 (N + 1) e3))
        refine sp_take 25 24 53 (u := ?v24_15) (by simp only [List.getElem?_toArray, List.getElem?_cons_succ, List.getElem?_cons_zero]; rfl) rfl (by decide +kernel) (by intro _ _ _ h; exact h) (by decide) (Or.inl ⟨by rfl, ?y24_15⟩) (sp_vac (by decide +kernel) (by decide +kernel) (by decide +kernel)) ?_
        case y24_15 =>
          intro W hT
          go_simp
          first | done | with_reducible rfl
        simp only [Act.put, List.setIfInBounds_toArray, List.set_cons_zero, List.set_cons_succ]
        refine sp_take 26 25 54 (u := ?v25_15) (by simp only [List.getElem?_toArray, List.getElem?_cons_succ, List.getElem?_cons_zero]; rfl) rfl (by decide +kernel) (by intro _ _ _ h; exact h) (by decide) (Or.inl ⟨by rfl, ?y25_15⟩) (sp_vac (by decide +kernel) (by decide +kernel) (by decide +kernel)) ?_
        case y25_15 =>
          intro W hT
          go_simp
          first | done | with_reducible rfl
        simp only [Act.put, List.setIfInBounds_toArray, List.set_cons_zero, List.set_cons_succ]
        refine AnyL.all (rs := [26]) (by decide +kernel) (by simp) ?_
        intro j hj
        simp only [List.mem_cons, List.not_mem_nil, or_false] at hj
        subst hj
        refine wpOp_step (i := 26) (by simp only [List.getElem?_toArray, List.getElem?_cons_succ, List.getElem?_cons_zero]; rfl) (fun K hK => ?_)
        rw [if_pos (by rfl)]
        go_simp
        refine hK _ _ ⟨(sp_vac (by decide +kernel) (by decide +kernel) (by decide +kernel)), ?_⟩
        clear hK K
        refine sp_take 28 27 55 (u := ?v27_15) (by simp only [List.getElem?_toArray, List.getElem?_cons_succ, List.getElem?_cons_zero]; rfl) rfl (by decide +kernel) (by intro _ _ _ h; exact h) (by decide) (Or.inl ⟨by rfl, ?y27_15⟩) (sp_vac (by decide +kernel) (by decide +kernel) (by decide +kernel)) ?_
        case y27_15 =>
          intro W hT
          go_simp
          first | done | with_reducible rfl
        simp only [Act.put, List.setIfInBounds_toArray, List.set_cons_zero, List.set_cons_succ]
        refine sp_take 29 28 56 (u := ?v28_15) (by simp only [List.getElem?_toArray, List.getElem?_cons_succ, List.getElem?_cons_zero]; rfl) rfl (by decide +kernel) (by intro _ _ _ h; exact h) (by decide) (Or.inl ⟨by rfl, ?y28_15⟩) (sp_vac (by decide +kernel) (by decide +kernel) (by decide +kernel)) ?_
        case y28_15 =>
          intro W hT
          go_simp
          first | done | with_reducible rfl
        simp only [Act.put, List.setIfInBounds_toArray, List.set_cons_zero, List.set_cons_succ]
        refine AnyL.all (rs := [29]) (by decide +kernel) (by simp) ?_
        intro j hj
        simp only [List.mem_cons, List.not_mem_nil, or_false] at hj
        subst hj
        refine wpOp_step (i := 29) (by simp only [List.getElem?_toArray, List.getElem?_cons_succ, List.getElem?_cons_zero]; rfl) (fun K hK => ?_)
        rw [if_pos (by rfl)]
        go_simp
        refine hK _ _ ⟨(sp_vac (by decide +kernel) (by decide +kernel) (by decide +kernel)), ?_⟩
        clear hK K
        refine sp_take 31 30 57 (u := ?v30_15) (by simp only [List.getElem?_toArray, List.getElem?_cons_succ, List.getElem?_cons_zero]; rfl) rfl (by decide +kernel) (by intro _ _ _ h; exact h) (by decide) (Or.inl ⟨by rfl, ?y30_15⟩) (sp_vac (by decide +kernel) (by decide +kernel) (by decide +kernel)) ?_
        case y30_15 =>
          intro W hT
          go_simp
          first | done | with_reducible rfl
        simp only [Act.put, List.setIfInBounds_toArray, List.set_cons_zero, List.set_cons_succ]
        refine sp_take 32 31 58 (u := ?v31_15) (by simp only [List.getElem?_toArray, List.getElem?_cons_succ, List.getElem?_cons_zero]; rfl) rfl (by decide +kernel) (by intro _ _ _ h; exact h) (by decide) (Or.inl ⟨by rfl, ?y31_15⟩) (sp_vac (by decide +kernel) (by decide +kernel) (by decide +kernel)) ?_
        case y31_15 =>
          intro W hT
          go_simp
          first | done | with_reducible rfl
        simp only [Act.put, List.setIfInBounds_toArray, List.set_cons_zero, List.set_cons_succ]
        refine AnyL.all (rs := [32]) (by decide +kernel) (by simp) ?_
        intro j hj
        simp only [List.mem_cons, List.not_mem_nil, or_false] at hj
        subst hj
        refine wpOp_step (i := 32) (by simp only [List.getElem?_toArray, List.getElem?_cons_succ, List.getElem?_cons_zero]; rfl) (fun K hK => ?_)
        rw [if_pos (by rfl)]
        go_simp
        refine hK _ _ ⟨(sp_vac (by decide +kernel) (by decide +kernel) (by decide +kernel)), ?_⟩
        clear hK K
        refine AnyL.done (by decide +kernel) ?_ _
        have HON := Lib.hid (only_three w68 y (.slice A1 (N + 1) e1) (.slice A2 (N + 1) e2) (.slice A3 (N + 1) e3))
        clear c0 c1 c2 c3 f1 f2 f3
        generalize ((w68.setCell ⟨y, 1, none⟩ (.slice A1 (N + 1) e1)).setCell ⟨y, 2, none⟩ (.slice A2 (N + 1) e2)).setCell ⟨y, 3, none⟩ (.slice A3 (N + 1) e3) = wf at *
        have k1 : wf.cell? ⟨y, 1, none⟩ = some (.slice A1 (N + 1) e1) := HRF.out.read rfl
        go_wp2
        go_ret2
        exact rq_done HQ.out HNN.out HLN.out hn hn0 HRF.out HP.out H9.out HC9.out HON.out HYB.out (by omega)
  · refine wpOp_step (i := 16) (by simp only [List.getElem?_toArray, List.getElem?_cons_succ, List.getElem?_cons_zero]; rfl) (fun K hK => ?_)
    rw [if_pos (by rfl)]
    go_simp
    have hb := bl_alloc (Below.refl wq.heap.size wq) (.cells #[.int .i64 0] 3)
    replace HP := Lib.hid (HP.out.later hb)
    replace HSRC := Lib.hid (HSRC.out.later hb)
    have R16 := Lib.hid (Row.made wq 3 #[.int .i64 0])
    refine hK _ _ ⟨sp_row HP.out.row _, ?_⟩
    clear hK K hb
    try simp only [Act.put, List.setIfInBounds_toArray, List.set_cons_zero, List.set_cons_succ]
    generalize wq.alloc (.cells #[.int .i64 0] 3) = w69 at *
    generalize wq.heap.size = g16 at *
    refine AnyL.all (rs := [9, 22]) (by decide +kernel) (by simp) ?_
    intro j hj
    simp only [List.mem_cons, List.not_mem_nil, or_false] at hj
    rcases hj with rfl | rfl
    · refine wpOp_step (i := 9) (by simp only [List.getElem?_toArray, List.getElem?_cons_succ, List.getElem?_cons_zero]; rfl) (fun K hK => ?_)
      refine step_copy (A := A) (c := c) (n := n) (l := l) rfl (.tmp 36) (.tmp 37) rfl rfl (by rfl) (by rfl) HLN.out hn0 (by omega) HSRC.out ?_
      intro g9 cap9 w70 q1 q2 q3 q4 q5
      have HC9 := Lib.hid (HP.out.fresh q1 q2 q3)
      have H9 := Lib.hid q4
      replace HP := Lib.hid (HP.out.later q5)
      replace R16 := Lib.hid (R16.out.later q5)
      refine hK _ _ ⟨sp_row HP.out.row _, ?_⟩
      clear hK K q1 q2 q3 q4 q5 HSRC
      try simp only [Act.put, List.setIfInBounds_toArray, List.set_cons_zero, List.set_cons_succ]
      refine AnyL.all (rs := [10, 22]) (by decide +kernel) (by simp) ?_
      intro j hj
      simp only [List.mem_cons, List.not_mem_nil, or_false] at hj
      rcases hj with rfl | rfl
      · refine wpOp_step (i := 10) (by simp only [List.getElem?_toArray, List.getElem?_cons_succ, List.getElem?_cons_zero]; rfl) (fun K hK => ?_)
        rw [if_pos (by rfl)]
        go_simp
        have hb := bl_alloc (Below.refl w70.heap.size w70) (.cells #[.slice (some ⟨g9, 0, none⟩) n cap9] 38)
        replace HP := Lib.hid (HP.out.later hb)
        replace R16 := Lib.hid (R16.out.later hb)
        replace H9 := Lib.hid (text_later H9.out hb)
        have R10 := Lib.hid (Row.made w70 38 #[.slice (some ⟨g9, 0, none⟩) n cap9])
        refine hK _ _ ⟨sp_row HP.out.row _, ?_⟩
        clear hK K hb
        try simp only [Act.put, List.setIfInBounds_toArray, List.set_cons_zero, List.set_cons_succ]
        generalize w70.alloc (.cells #[.slice (some ⟨g9, 0, none⟩) n cap9] 38) = w71 at *
        generalize w70.heap.size = g10 at *
        refine AnyL.all (rs := [11, 22]) (by decide +kernel) (by simp) ?_
        intro j hj
        simp only [List.mem_cons, List.not_mem_nil, or_false] at hj
        rcases hj with rfl | rfl
        · refine wpOp_step (i := 11) (by simp only [List.getElem?_toArray, List.getElem?_cons_succ, List.getElem?_cons_zero]; rfl) (fun K hK => ?_)
          refine step_l rfl rfl rfl (by rfl) (by rfl) HP.out R10.out (by omega) ?_
          intro A1 e1 w72 hp o2
          replace HP := Lib.hid hp
          replace H9 := Lib.hid (text_kr H9.out o2 (by decide))
          replace R16 := Lib.hid (o2.rows _ _ _ R16.out (by decide))
          refine hK _ _ ⟨sp_row HP.out.row _, ?_⟩
          clear hK K hp o2 R10
          try simp only [Act.put, List.setIfInBounds_toArray, List.set_cons_zero, List.set_cons_succ]
          refine AnyL.all (rs := [17, 22]) (by decide +kernel) (by simp) ?_
          intro j hj
          simp only [List.mem_cons, List.not_mem_nil, or_false] at hj
          rcases hj with rfl | rfl
          · refine wpOp_step (i := 17) (by simp only [List.getElem?_toArray, List.getElem?_cons_succ, List.getElem?_cons_zero]; rfl) (fun K hK => ?_)
            refine step_t rfl rfl rfl (by rfl) (by rfl) HP.out R16.out (by omega) ?_
            intro A2 e2 w73 hp o2
            replace HP := Lib.hid hp
            replace H9 := Lib.hid (text_kr H9.out o2 (by decide))
            refine hK _ _ ⟨sp_row HP.out.row _, ?_⟩
            clear hK K hp o2 R16
            try simp only [Act.put, List.setIfInBounds_toArray, List.set_cons_zero, List.set_cons_succ]
            refine AnyL.all (rs := [22]) (by decide +kernel) (by simp) ?_
            intro j hj
            simp only [List.mem_cons, List.not_mem_nil, or_false] at hj
            subst hj
            refine wpOp_step (i := 22) (by simp only [List.getElem?_toArray, List.getElem?_cons_succ, List.getElem?_cons_zero]; rfl) (fun K hK => ?_)
            rw [if_pos (by rfl)]
            go_simp
            have hb := bl_alloc (Below.refl w73.heap.size w73) (.cells #[.bool false] 4)
            replace HP := Lib.hid (HP.out.later hb)
            replace H9 := Lib.hid (text_later H9.out hb)
            have R22 := Lib.hid (Row.made w73 4 #[.bool false])
            refine hK _ _ ⟨sp_row HP.out.row _, ?_⟩
            clear hK K hb
            try simp only [Act.put, List.setIfInBounds_toArray, List.set_cons_zero, List.set_cons_succ]
            generalize w73.alloc (.cells #[.bool false] 4) = w74 at *
            generalize w73.heap.size = g22 at *
            refine AnyL.all (rs := [23]) (by decide +kernel) (by simp) ?_
            intro j hj
            simp only [List.mem_cons, List.not_mem_nil, or_false] at hj
            subst hj
            refine wpOp_step (i := 23) (by simp only [List.getElem?_toArray, List.getElem?_cons_succ, List.getElem?_cons_zero]; rfl) (fun K hK => ?_)
            refine step_g rfl rfl rfl (by rfl) (by rfl) HP.out R22.out (by omega) ?_
            intro A3 e3 w75 hp o2
            replace HP := Lib.hid hp
            replace H9 := Lib.hid (text_kr H9.out o2 (by decide))
            refine hK _ _ ⟨sp_row HP.out.row _, ?_⟩
            clear hK K hp o2 R22
            try simp only [Act.put, List.setIfInBounds_toArray, List.set_cons_zero, List.set_cons_succ]
            obtain ⟨c0, c1, c2, c3⟩ := qcells HP.out.row
            have f1 := HP.out.row.free 1
            have f2 := HP.out.row.free 2
            have f3 := HP.out.row.free 3
            have HRF := Lib.hid (((HP.out.row.written 1 (.slice A1 (N + 1) e1)).written 2 (.slice A2 (N + 1) e2)).written 3 (.slice A3 (N + 1) e3))
            refine sp_take 25 24 53 (u := ?v24_16) (by simp only [List.getElem?_toArray, List.getElem?_cons_succ, List.getElem?_cons_zero]; rfl) rfl (by decide +kernel) (by intro _ _ _ h; exact h) (by decide) (Or.inl ⟨by rfl, ?y24_16⟩) (sp_vac (by decide +kernel) (by decide +kernel) (by decide +kernel)) ?_
            case y24_16 =>
              intro W hT
              go_simp
              first | done | with_reducible rfl
            simp only [Act.put, List.setIfInBounds_toArray, List.set_cons_zero, List.set_cons_succ]
            refine sp_take 26 25 54 (u := ?v25_16) (by simp only [List.getElem?_toArray, List.getElem?_cons_succ, List.getElem?_cons_zero]; rfl) rfl (by decide +kernel) (by intro _ _ _ h; exact h) (by decide) (Or.inl ⟨by rfl, ?y25_16⟩) (sp_vac (by decide +kernel) (by decide +kernel) (by decide +kernel)) ?_
            case y25_16 =>
              intro W hT
              go_simp
              first | done | with_reducible rfl
            simp only [Act.put, List.setIfInBounds_toArray, List.set_cons_zero, List.set_cons_succ]
            refine AnyL.all (rs := [26]) (by decide +kernel) (by simp) ?_
            intro j hj
            simp only [List.mem_cons, List.not_mem_nil, or_false] at hj
            subst hj
            refine wpOp_step (i := 26) (by simp only [List.getElem?_toArray, List.getElem?_cons_succ, List.getElem?_cons_zero]; rfl) (fun K hK => ?_)
            rw [if_pos (by rfl)]
            go_simp
            refine hK _ _ ⟨(sp_vac (by decide +kernel) (by decide +kernel) (by decide +kernel)), ?_⟩
            clear hK K
            refine sp_take 28 27 55 (u := ?v27_16) (by simp only [List.getElem?_toArray, List.getElem?_cons_succ, List.getElem?_cons_zero]; rfl) rfl (by decide +kernel) (by intro _ _ _ h; exact h) (by decide) (Or.inl ⟨by rfl, ?y27_16⟩) (sp_vac (by decide +kernel) (by decide +kernel) (by decide +kernel)) ?_
            case y27_16 =>
              intro W hT
              go_simp
              first | done | with_reducible rfl
            simp only [Act.put, List.setIfInBounds_toArray, List.set_cons_zero, List.set_cons_succ]
            refine sp_take 29 28 56 (u := ?v28_16) (by simp only [List.getElem?_toArray, List.getElem?_cons_succ, List.getElem?_cons_zero]; rfl) rfl (by decide +kernel) (by intro _ _ _ h; exact h) (by decide) (Or.inl ⟨by rfl, ?y28_16⟩) (sp_vac (by decide +kernel) (by decide +kernel) (by decide +kernel)) ?_
            case y28_16 =>
              intro W hT
              go_simp
              first | done | with_reducible rfl
            simp only [Act.put, List.setIfInBounds_toArray, List.set_cons_zero, List.set_cons_succ]
            refine AnyL.all (rs := [29]) (by decide +kernel) (by simp) ?_
            intro j hj
            simp only [List.mem_cons, List.not_mem_nil, or_false] at hj
            subst hj
            refine wpOp_step (i := 29) (by simp only [List.getElem?_toArray, List.getElem?_cons_succ, List.getElem?_cons_zero]; rfl) (fun K hK => ?_)
            rw [if_pos (by rfl)]
            go_simp
            refine hK _ _ ⟨(sp_vac (by decide +kernel) (by decide +kernel) (by decide +kernel)), ?_⟩
            clear hK K
            refine sp_take 31 30 57 (u := ?v30_16) (by simp only [List.getElem?_toArray, List.getElem?_cons_succ, List.getElem?_cons_zero]; rfl) rfl (by decide +kernel) (by intro _ _ _ h; exact h) (by decide) (Or.inl ⟨by rfl, ?y30_16⟩) (sp_vac (by decide +kernel) (by decide +kernel) (by decide +kernel)) ?_
            case y30_16 =>
              intro W hT
              go_simp
              first | done | with_reducible rfl
            simp only [Act.put, List.setIfInBounds_toArray, List.set_cons_zero, List.set_cons_succ]
            refine sp_take 32 31 58 (u := ?v31_16) (by simp only [List.getElem?_toArray, List.getElem?_cons_succ, List.getElem?_cons_zero]; rfl) rfl (by decide +kernel) (by intro _ _ _ h; exact h) (by decide) (Or.inl ⟨by rfl, ?y31_16⟩) (sp_vac (by decide +kernel) (by decide +kernel) (by decide +kernel)) ?_
            case y31_16 =>
              intro W hT
              go_simp
              first | done | with_reducible rfl
            simp only [Act.put, List.setIfInBounds_toArray, List.set_cons_zero, List.set_cons_succ]
            refine AnyL.all (rs := [32]) (by decide +kernel) (by simp) ?_
            intro j hj
            simp only [List.mem_cons, List.not_mem_nil, or_false] at hj
            subst hj
            refine wpOp_step (i := 32) (by simp only [List.getElem?_toArray, List.getElem?_cons_succ, List.getElem?_cons_zero]; rfl) (fun K hK => ?_)
            rw [if_pos (by rfl)]
            go_simp
            refine hK _ _ ⟨(sp_vac (by decide +kernel) (by decide +kernel) (by decide +kernel)), ?_⟩
            clear hK K
            refine AnyL.done (by decide +kernel) ?_ _
            have HON := Lib.hid (only_three w75 y (.slice A1 (N + 1) e1) (.slice A2 (N + 1) e2) (.slice A3 (N + 1) e3))
            clear c0 c1 c2 c3 f1 f2 f3
            generalize ((w75.setCell ⟨y, 1, none⟩ (.slice A1 (N + 1) e1)).setCell ⟨y, 2, none⟩ (.slice A2 (N + 1) e2)).setCell ⟨y, 3, none⟩ (.slice A3 (N + 1) e3) = wf at *
            have k1 : wf.cell? ⟨y, 1, none⟩ = some (.slice A1 (N + 1) e1) := HRF.out.read rfl
            go_wp2
            go_ret2
            exact rq_done HQ.out HNN.out HLN.out hn hn0 HRF.out HP.out H9.out HC9.out HON.out HYB.out (by omega)
          · refine wpOp_step (i := 22) (by simp only [List.getElem?_toArray, List.getElem?_cons_succ, List.getElem?_cons_zero]; rfl) (fun K hK => ?_)
            rw [if_pos (by rfl)]
            go_simp
            have hb := bl_alloc (Below.refl w72.heap.size w72) (.cells #[.bool false] 4)
            replace HP := Lib.hid (HP.out.later hb)
            replace R16 := Lib.hid (R16.out.later hb)
            replace H9 := Lib.hid (text_later H9.out hb)
            have R22 := Lib.hid (Row.made w72 4 #[.bool false])
            refine hK _ _ ⟨sp_row HP.out.row _, ?_⟩
            clear hK K hb
            try simp only [Act.put, List.setIfInBounds_toArray, List.set_cons_zero, List.set_cons_succ]
            generalize w72.alloc (.cells #[.bool false] 4) = w76 at *
            generalize w72.heap.size = g22 at *
            refine AnyL.all (rs := [17]) (by decide +kernel) (by simp) ?_
            intro j hj
            simp only [List.mem_cons, List.not_mem_nil, or_false] at hj
            subst hj
            refine wpOp_step (i := 17) (by simp only [List.getElem?_toArray, List.getElem?_cons_succ, List.getElem?_cons_zero]; rfl) (fun K hK => ?_)
            refine step_t rfl rfl rfl (by rfl) (by rfl) HP.out R16.out (by omega) ?_
            intro A2 e2 w77 hp o2
            replace HP := Lib.hid hp
            replace H9 := Lib.hid (text_kr H9.out o2 (by decide))
            replace R22 := Lib.hid (o2.rows _ _ _ R22.out (by decide))
            refine hK _ _ ⟨sp_row HP.out.row _, ?_⟩
            clear hK K hp o2 R16
            try simp only [Act.put, List.setIfInBounds_toArray, List.set_cons_zero, List.set_cons_succ]
            refine AnyL.all (rs := [23]) (by decide +kernel) (by simp) ?_
            intro j hj
            simp only [List.mem_cons, List.not_mem_nil, or_false] at hj
            subst hj
            refine wpOp_step (i := 23) (by simp only [List.getElem?_toArray, List.getElem?_cons_succ, List.getElem?_cons_zero]; rfl) (fun K hK => ?_)
            refine step_g rfl rfl rfl (by rfl) (by rfl) HP.out R22.out (by omega) ?_
            intro A3 e3 w78 hp o2
            replace HP := Lib.hid hp
            replace H9 := Lib.hid (text_kr H9.out o2 (by decide))
            refine hK _ _ ⟨sp_row HP.out.row _, ?_⟩
            clear hK K hp o2 R22
            try simp only [Act.put, List.setIfInBounds_toArray, List.set_cons_zero, List.set_cons_succ]
            obtain ⟨c0, c1, c2, c3⟩ := qcells HP.out.row
            have f1 := HP.out.row.free 1
            have f2 := HP.out.row.free 2
            have f3 := HP.out.row.free 3
            have HRF := Lib.hid (((HP.out.row.written 1 (.slice A1 (N + 1) e1)).written 2 (.slice A2 (N + 1) e2)).written 3 (.slice A3 (N + 1) e3))
            refine sp_take 25 24 53 (u := ?v24_17) (by simp only [List.getElem?_toArray, List.getElem?_cons_succ, List.getElem?_cons_zero]; rfl) rfl (by decide +kernel) (by intro _ _ _ h; exact h) (by decide) (Or.inl ⟨by rfl, ?y24_17⟩) (sp_vac (by decide +kernel) (by decide +kernel) (by decide +kernel)) ?_
            case y24_17 =>
              intro W hT
              go_simp
              first | done | with_reducible rfl
            simp only [Act.put, List.setIfInBounds_toArray, List.set_cons_zero, List.set_cons_succ]
            refine sp_take 26 25 54 (u := ?v25_17) (by simp only [List.getElem?_toArray, List.getElem?_cons_succ, List.getElem?_cons_zero]; rfl) rfl (by decide +kernel) (by intro _ _ _ h; exact h) (by decide) (Or.inl ⟨by rfl, ?y25_17⟩) (sp_vac (by decide +kernel) (by decide +kernel) (by decide +kernel)) ?_
            case y25_17 =>
              intro W hT
              go_simp
              first | done | with_reducible rfl
            simp only [Act.put, List.setIfInBounds_toArray, List.set_cons_zero, List.set_cons_succ]
            refine AnyL.all (rs := [26]) (by decide +kernel) (by simp) ?_
            intro j hj
            simp only [List.mem_cons, List.not_mem_nil, or_false] at hj
            subst hj
            refine wpOp_step (i := 26) (by simp only [List.getElem?_toArray, List.getElem?_cons_succ, List.getElem?_cons_zero]; rfl) (fun K hK => ?_)
            rw [if_pos (by rfl)]
            go_simp
            refine hK _ _ ⟨(sp_vac (by decide +kernel) (by decide +kernel) (by decide +kernel)), ?_⟩
            clear hK K
            refine sp_take 28 27 55 (u := ?v27_17) (by simp only [List.getElem?_toArray, List.getElem?_cons_succ, List.getElem?_cons_zero]; rfl) rfl (by decide +kernel) (by intro _ _ _ h; exact h) (by decide) (Or.inl ⟨by rfl, ?y27_17⟩) (sp_vac (by decide +kernel) (by decide +kernel) (by decide +kernel)) ?_
            case y27_17 =>
              intro W hT
              go_simp
              first | done | with_reducible rfl
            simp only [Act.put, List.setIfInBounds_toArray, List.set_cons_zero, List.set_cons_succ]
            refine sp_take 29 28 56 (u := ?v28_17) (by simp only [List.getElem?_toArray, List.getElem?_cons_succ, List.getElem?_cons_zero]; rfl) rfl (by decide +kernel) (by intro _ _ _ h; exact h) (by decide) (Or.inl ⟨by rfl, ?y28_17⟩) (sp_vac (by decide +kernel) (by decide +kernel) (by decide +kernel)) ?_
            case y28_17 =>
              intro W hT
              go_simp
              first | done | with_reducible rfl
            simp only [Act.put, List.setIfInBounds_toArray, List.set_cons_zero, List.set_cons_succ]
            refine AnyL.all (rs := [29]) (by decide +kernel) (by simp) ?_
            intro j hj
            simp only [List.mem_cons, List.not_mem_nil, or_false] at hj
            subst hj
            refine wpOp_step (i := 29) (by simp only [List.getElem?_toArray, List.getElem?_cons_succ, List.getElem?_cons_zero]; rfl) (fun K hK => ?_)
            rw [if_pos (by rfl)]
            go_simp
            refine hK _ _ ⟨(sp_vac (by decide +kernel) (by decide +kernel) (by decide +kernel)), ?_⟩
            clear hK K
            refine sp_take 31 30 57 (u := ?v30_17) (by simp only [List.getElem?_toArray, List.getElem?_cons_succ, List.getElem?_cons_zero]; rfl) rfl (by decide +kernel) (by intro _ _ _ h; exact h) (by decide) (Or.inl ⟨by rfl, ?y30_17⟩) (sp_vac (by decide +kernel) (by decide +kernel) (by decide +kernel)) ?_
            case y30_17 =>
              intro W hT
              go_simp
              first | done | with_reducible rfl
            simp only [Act.put, List.setIfInBounds_toArray, List.set_cons_zero, List.set_cons_succ]
            refine sp_take 32 31 58 (u := ?v31_17) (by simp only [List.getElem?_toArray, List.getElem?_cons_succ, List.getElem?_cons_zero]; rfl) rfl (by decide +kernel) (by intro _ _ _ h; exact h) (by decide) (Or.inl ⟨by rfl, ?y31_17⟩) (sp_vac (by decide +kernel) (by decide +kernel) (by decide +kernel)) ?_
            case y31_17 =>
              intro W hT
              go_simp
              first | done | with_reducible rfl
            simp only [Act.put, List.setIfInBounds_toArray, List.set_cons_zero, List.set_cons_succ]
            refine AnyL.all (rs := [32]) (by decide +kernel) (by simp) ?_
            intro j hj
            simp only [List.mem_cons, List.not_mem_nil, or_false] at hj
            subst hj
            refine wpOp_step (i := 32) (by simp only [List.getElem?_toArray, List.getElem?_cons_succ, List.getElem?_cons_zero]; rfl) (fun K hK => ?_)
            rw [if_pos (by rfl)]
            go_simp
            refine hK _ _ ⟨(sp_vac (by decide +kernel) (by decide +kernel) (by decide +kernel)), ?_⟩
            clear hK K
            refine AnyL.done (by decide +kernel) ?_ _
            have HON := Lib.hid (only_three w78 y (.slice A1 (N + 1) e1) (.slice A2 (N + 1) e2) (.slice A3 (N + 1) e3))
            clear c0 c1 c2 c3 f1 f2 f3
            generalize ((w78.setCell ⟨y, 1, none⟩ (.slice A1 (N + 1) e1)).setCell ⟨y, 2, none⟩ (.slice A2 (N + 1) e2)).setCell ⟨y, 3, none⟩ (.slice A3 (N + 1) e3) = wf at *
            have k1 : wf.cell? ⟨y, 1, none⟩ = some (.slice A1 (N + 1) e1) := HRF.out.read rfl
            go_wp2
            go_ret2
            exact rq_done HQ.out HNN.out HLN.out hn hn0 HRF.out HP.out H9.out HC9.out HON.out HYB.out (by omega)
        · refine wpOp_step (i := 22) (by simp only [List.getElem?_toArray, List.getElem?_cons_succ, List.getElem?_cons_zero]; rfl) (fun K hK => ?_)
          rw [if_pos (by rfl)]
          go_simp
          have hb := bl_alloc (Below.refl w71.heap.size w71) (.cells #[.bool false] 4)
          replace HP := Lib.hid (HP.out.later hb)
          replace R10 := Lib.hid (R10.out.later hb)
          replace R16 := Lib.hid (R16.out.later hb)
          replace H9 := Lib.hid (text_later H9.out hb)
          have R22 := Lib.hid (Row.made w71 4 #[.bool false])
          refine hK _ _ ⟨sp_row HP.out.row _, ?_⟩
          clear hK K hb
          try simp only [Act.put, List.setIfInBounds_toArray, List.set_cons_zero, List.set_cons_succ]
          generalize w71.alloc (.cells #[.bool false] 4) = w79 at *
          generalize w71.heap.size = g22 at *
          refine AnyL.all (rs := [11]) (by decide +kernel) (by simp) ?_
          intro j hj
          simp only [List.mem_cons, List.not_mem_nil, or_false] at hj
          subst hj
          refine wpOp_step (i := 11) (by simp only [List.getElem?_toArray, List.getElem?_cons_succ, List.getElem?_cons_zero]; rfl) (fun K hK => ?_)
          refine step_l rfl rfl rfl (by rfl) (by rfl) HP.out R10.out (by omega) ?_
          intro A1 e1 w80 hp o2
          replace HP := Lib.hid hp
          replace H9 := Lib.hid (text_kr H9.out o2 (by decide))
          replace R16 := Lib.hid (o2.rows _ _ _ R16.out (by decide))
          replace R22 := Lib.hid (o2.rows _ _ _ R22.out (by decide))
          refine hK _ _ ⟨sp_row HP.out.row _, ?_⟩
          clear hK K hp o2 R10
          try simp only [Act.put, List.setIfInBounds_toArray, List.set_cons_zero, List.set_cons_succ]
          refine AnyL.all (rs := [17]) (by decide +kernel) (by simp) ?_
          intro j hj
          simp only [List.mem_cons, List.not_mem_nil, or_false] at hj
          subst hj
          refine wpOp_step (i := 17) (by simp only [List.getElem?_toArray, List.getElem?_cons_succ, List.getElem?_cons_zero]; rfl) (fun K hK => ?_)
          refine step_t rfl rfl rfl (by rfl) (by rfl) HP.out R16.out (by omega) ?_
          intro A2 e2 w81 hp o2
          replace HP := Lib.hid hp
          replace H9 := Lib.hid (text_kr H9.out o2 (by decide))
          replace R22 := Lib.hid (o2.rows _ _ _ R22.out (by decide))
          refine hK _ _ ⟨sp_row HP.out.row _, ?_⟩
          clear hK K hp o2 R16
          try simp only [Act.put, List.setIfInBounds_toArray, List.set_cons_zero, List.set_cons_succ]
          refine AnyL.all (rs := [23]) (by decide +kernel) (by simp) ?_
          intro j hj
          simp only [List.mem_cons, List.not_mem_nil, or_false] at hj
          subst hj
          refine wpOp_step (i := 23) (by simp only [List.getElem?_toArray, List.getElem?_cons_succ, List.getElem?_cons_zero]; rfl) (fun K hK => ?_)
          refine step_g rfl rfl rfl (by rfl) (by rfl) HP.out R22.out (by omega) ?_
          intro A3 e3 w82 hp o2
          replace HP := Lib.hid hp
          replace H9 := Lib.hid (text_kr H9.out o2 (by decide))
          refine hK _ _ ⟨sp_row HP.out.row _, ?_⟩
          clear hK K hp o2 R22
          try simp only [Act.put, List.setIfInBounds_toArray, List.set_cons_zero, List.set_cons_succ]
          obtain ⟨c0, c1, c2, c3⟩ := qcells HP.out.row
          have f1 := HP.out.row.free 1
          have f2 := HP.out.row.free 2
          have f3 := HP.out.row.free 3
          have HRF := Lib.hid (((HP.out.row.written 1 (.slice A1 (N + 1) e1)).written 2 (.slice A2 (N + 1) e2)).written 3 (.slice A3 (N + 1) e3))
          refine sp_take 25 24 53 (u := ?v24_18) (by simp only [List.getElem?_toArray, List.getElem?_cons_succ, List.getElem?_cons_zero]; rfl) rfl (by decide +kernel) (by intro _ _ _ h; exact h) (by decide) (Or.inl ⟨by rfl, ?y24_18⟩) (sp_vac (by decide +kernel) (by decide +kernel) (by decide +kernel)) ?_
          case y24_18 =>
            intro W hT
            go_simp
            first | done | with_reducible rfl
          simp only [Act.put, List.setIfInBounds_toArray, List.set_cons_zero, List.set_cons_succ]
          refine sp_take 26 25 54 (u := ?v25_18) (by simp only [List.getElem?_toArray, List.getElem?_cons_succ, List.getElem?_cons_zero]; rfl) rfl (by decide +kernel) (by intro _ _ _ h; exact h) (by decide) (Or.inl ⟨by rfl, ?y25_18⟩) (sp_vac (by decide +kernel) (by decide +kernel) (by decide +kernel)) ?_
          case y25_18 =>
            intro W hT
            go_simp
            first | done | with_reducible rfl
          simp only [Act.put, List.setIfInBounds_toArray, List.set_cons_zero, List.set_cons_succ]
          refine AnyL.all (rs := [26]) (by decide +kernel) (by simp) ?_
          intro j hj
          simp only [List.mem_cons, List.not_mem_nil, or_false] at hj
          subst hj
          refine wpOp_step (i := 26) (by simp only [List.getElem?_toArray, List.getElem?_cons_succ, List.getElem?_cons_zero]; rfl) (fun K hK => ?_)
          rw [if_pos (by rfl)]
          go_simp
          refine hK _ _ ⟨(sp_vac (by decide +kernel) (by decide +kernel) (by decide +kernel)), ?_⟩
          clear hK K
          refine sp_take 28 27 55 (u := ?v27_18) (by simp only [List.getElem?_toArray, List.getElem?_cons_succ, List.getElem?_cons_zero]; rfl) rfl (by decide +kernel) (by intro _ _ _ h; exact h) (by decide) (Or.inl ⟨by rfl, ?y27_18⟩) (sp_vac (by decide +kernel) (by decide +kernel) (by decide +kernel)) ?_
          case y27_18 =>
            intro W hT
            go_simp
            first | done | with_reducible rfl
          simp only [Act.put, List.setIfInBounds_toArray, List.set_cons_zero, List.set_cons_succ]
          refine sp_take 29 28 56 (u := ?v28_18) (by simp only [List.getElem?_toArray, List.getElem?_cons_succ, List.getElem?_cons_zero]; rfl) rfl (by decide +kernel) (by intro _ _ _ h; exact h) (by decide) (Or.inl ⟨by rfl, ?y28_18⟩) (sp_vac (by decide +kernel) (by decide +kernel) (by decide +kernel)) ?_
          case y28_18 =>
            intro W hT
            go_simp
            first | done | with_reducible rfl
          simp only [Act.put, List.setIfInBounds_toArray, List.set_cons_zero, List.set_cons_succ]
          refine AnyL.all (rs := [29]) (by decide +kernel) (by simp) ?_
          intro j hj
          simp only [List.mem_cons, List.not_mem_nil, or_false] at hj
          subst hj
          refine wpOp_step (i := 29) (by simp only [List.getElem?_toArray, List.getElem?_cons_succ, List.getElem?_cons_zero]; rfl) (fun K hK => ?_)
          rw [if_pos (by rfl)]
          go_simp
          refine hK _ _ ⟨(sp_vac (by decide +kernel) (by decide +kernel) (by decide +kernel)), ?_⟩
          clear hK K
          refine sp_take 31 30 57 (u := ?v30_18) (by simp only [List.getElem?_toArray, List.getElem?_cons_succ, List.getElem?_cons_zero]; rfl) rfl (by decide +kernel) (by intro _ _ _ h; exact h) (by decide) (Or.inl ⟨by rfl, ?y30_18⟩) (sp_vac (by decide +kernel) (by decide +kernel) (by decide +kernel)) ?_
          case y30_18 =>
            intro W hT
            go_simp
            first | done | with_reducible rfl
          simp only [Act.put, List.setIfInBounds_toArray, List.set_cons_zero, List.set_cons_succ]
          refine sp_take 32 31 58 (u := ?v31_18) (by simp only [List.getElem?_toArray, List.getElem?_cons_succ, List.getElem?_cons_zero]; rfl) rfl (by decide +kernel) (by intro _ _ _ h; exact h) (by decide) (Or.inl ⟨by rfl, ?y31_18⟩) (sp_vac (by decide +kernel) (by decide +kernel) (by decide +kernel)) ?_
          case y31_18 =>
            intro W hT
            go_simp
            first | done | with_reducible rfl
          simp only [Act.put, List.setIfInBounds_toArray, List.set_cons_zero, List.set_cons_succ]
          refine AnyL.all (rs := [32]) (by decide +kernel) (by simp) ?_
          intro j hj
          simp only [List.mem_cons, List.not_mem_nil, or_false] at hj
          subst hj
          refine wpOp_step (i := 32) (by simp only [List.getElem?_toArray, List.getElem?_cons_succ, List.getElem?_cons_zero]; rfl) (fun K hK => ?_)
          rw [if_pos (by rfl)]
          go_simp
          refine hK _ _ ⟨(sp_vac (by decide +kernel) (by decide +kernel) (by decide +kernel)), ?_⟩
          clear hK K
          refine AnyL.done (by decide +kernel) ?_ _
          have HON := Lib.hid (only_three w82 y (.slice A1 (N + 1) e1) (.slice A2 (N + 1) e2) (.slice A3 (N + 1) e3))
          clear c0 c1 c2 c3 f1 f2 f3
          generalize ((w82.setCell ⟨y, 1, none⟩ (.slice A1 (N + 1) e1)).setCell ⟨y, 2, none⟩ (.slice A2 (N + 1) e2)).setCell ⟨y, 3, none⟩ (.slice A3 (N + 1) e3) = wf at *
          have k1 : wf.cell? ⟨y, 1, none⟩ = some (.slice A1 (N + 1) e1) := HRF.out.read rfl
          go_wp2
          go_ret2
          exact rq_done HQ.out HNN.out HLN.out hn hn0 HRF.out HP.out H9.out HC9.out HON.out HYB.out (by omega)
      · refine wpOp_step (i := 22) (by simp only [List.getElem?_toArray, List.getElem?_cons_succ, List.getElem?_cons_zero]; rfl) (fun K hK => ?_)
        rw [if_pos (by rfl)]
        go_simp
        have hb := bl_alloc (Below.refl w70.heap.size w70) (.cells #[.bool false] 4)
        replace HP := Lib.hid (HP.out.later hb)
        replace R16 := Lib.hid (R16.out.later hb)
        replace H9 := Lib.hid (text_later H9.out hb)
        have R22 := Lib.hid (Row.made w70 4 #[.bool false])
        refine hK _ _ ⟨sp_row HP.out.row _, ?_⟩
        clear hK K hb
        try simp only [Act.put, List.setIfInBounds_toArray, List.set_cons_zero, List.set_cons_succ]
        generalize w70.alloc (.cells #[.bool false] 4) = w83 at *
        generalize w70.heap.size = g22 at *
        refine AnyL.all (rs := [10]) (by decide +kernel) (by simp) ?_
        intro j hj
        simp only [List.mem_cons, List.not_mem_nil, or_false] at hj
        subst hj
        refine wpOp_step (i := 10) (by simp only [List.getElem?_toArray, List.getElem?_cons_succ, List.getElem?_cons_zero]; rfl) (fun K hK => ?_)
        rw [if_pos (by rfl)]
        go_simp
        have hb := bl_alloc (Below.refl w83.heap.size w83) (.cells #[.slice (some ⟨g9, 0, none⟩) n cap9] 38)
        replace HP := Lib.hid (HP.out.later hb)
        replace R16 := Lib.hid (R16.out.later hb)
        replace R22 := Lib.hid (R22.out.later hb)
        replace H9 := Lib.hid (text_later H9.out hb)
        have R10 := Lib.hid (Row.made w83 38 #[.slice (some ⟨g9, 0, none⟩) n cap9])
        refine hK _ _ ⟨sp_row HP.out.row _, ?_⟩
        clear hK K hb
        try simp only [Act.put, List.setIfInBounds_toArray, List.set_cons_zero, List.set_cons_succ]
        generalize w83.alloc (.cells #[.slice (some ⟨g9, 0, none⟩) n cap9] 38) = w84 at *
        generalize w83.heap.size = g10 at *
        refine AnyL.all (rs := [11]) (by decide +kernel) (by simp) ?_
        intro j hj
        simp only [List.mem_cons, List.not_mem_nil, or_false] at hj
        subst hj
        refine wpOp_step (i := 11) (by simp only [List.getElem?_toArray, List.getElem?_cons_succ, List.getElem?_cons_zero]; rfl) (fun K hK => ?_)
        refine step_l rfl rfl rfl (by rfl) (by rfl) HP.out R10.out (by omega) ?_
        intro A1 e1 w85 hp o2
        replace HP := Lib.hid hp
        replace H9 := Lib.hid (text_kr H9.out o2 (by decide))
        replace R16 := Lib.hid (o2.rows _ _ _ R16.out (by decide))
        replace R22 := Lib.hid (o2.rows _ _ _ R22.out (by decide))
        refine hK _ _ ⟨sp_row HP.out.row _, ?_⟩
        clear hK K hp o2 R10
        try simp only [Act.put, List.setIfInBounds_toArray, List.set_cons_zero, List.set_cons_succ]
        refine AnyL.all (rs := [17]) (by decide +kernel) (by simp) ?_
        intro j hj
        simp only [List.mem_cons, List.not_mem_nil, or_false] at hj
        subst hj
        refine wpOp_step (i := 17) (by simp only [List.getElem?_toArray, List.getElem?_cons_succ, List.getElem?_cons_zero]; rfl) (fun K hK => ?_)
        refine step_t rfl rfl rfl (by rfl) (by rfl) HP.out R16.out (by omega) ?_
        intro A2 e2 w86 hp o2
        replace HP := Lib.hid hp
        replace H9 := Lib.hid (text_kr H9.out o2 (by decide))
        replace R22 := Lib.hid (o2.rows _ _ _ R22.out (by decide))
        refine hK _ _ ⟨sp_row HP.out.row _, ?_⟩
        clear hK K hp o2 R16
        try simp only [Act.put, List.setIfInBounds_toArray, List.set_cons_zero, List.set_cons_succ]
        refine AnyL.all (rs := [23]) (by decide +kernel) (by simp) ?_
        intro j hj
        simp only [List.mem_cons, List.not_mem_nil, or_false] at hj
        subst hj
        refine wpOp_step (i := 23) (by simp only [List.getElem?_toArray, List.getElem?_cons_succ, List.getElem?_cons_zero]; rfl) (fun K hK => ?_)
        refine step_g rfl rfl rfl (by rfl) (by rfl) HP.out R22.out (by omega) ?_
        intro A3 e3 w87 hp o2
        replace HP := Lib.hid hp
        replace H9 := Lib.hid (text_kr H9.out o2 (by decide))
        refine hK _ _ ⟨sp_row HP.out.row _, ?_⟩
        clear hK K hp o2 R22
        try simp only [Act.put, List.setIfInBounds_toArray, List.set_cons_zero, List.set_cons_succ]
        obtain ⟨c0, c1, c2, c3⟩ := qcells HP.out.row
        have f1 := HP.out.row.free 1
        have f2 := HP.out.row.free 2
        have f3 := HP.out.row.free 3
        have HRF := Lib.hid (((HP.out.row.written 1 (.slice A1 (N + 1) e1)).written 2 (.slice A2 (N + 1) e2)).written 3 (.slice A3 (N + 1) e3))
        refine sp_take 25 24 53 (u := ?v24_19) (by simp only [List.getElem?_toArray, List.getElem?_cons_succ, List.getElem?_cons_zero]; rfl) rfl (by decide +kernel) (by intro _ _ _ h; exact h) (by decide) (Or.inl ⟨by rfl, ?y24_19⟩) (sp_vac (by decide +kernel) (by decide +kernel) (by decide +kernel)) ?_
        case y24_19 =>
          intro W hT
          go_simp
          first | done | with_reducible rfl
        simp only [Act.put, List.setIfInBounds_toArray, List.set_cons_zero, List.set_cons_succ]
        refine sp_take 26 25 54 (u := ?v25_19) (by simp only [List.getElem?_toArray, List.getElem?_cons_succ, List.getElem?_cons_zero]; rfl) rfl (by decide +kernel) (by intro _ _ _ h; exact h) (by decide) (Or.inl ⟨by rfl, ?y25_19⟩) (sp_vac (by decide +kernel) (by decide +kernel) (by decide +kernel)) ?_
        case y25_19 =>
          intro W hT
          go_simp
          first | done | with_reducible rfl
        simp only [Act.put, List.setIfInBounds_toArray, List.set_cons_zero, List.set_cons_succ]
        refine AnyL.all (rs := [26]) (by decide +kernel) (by simp) ?_
        intro j hj
        simp only [List.mem_cons, List.not_mem_nil, or_false] at hj
        subst hj
        refine wpOp_step (i := 26) (by simp only [List.getElem?_toArray, List.getElem?_cons_succ, List.getElem?_cons_zero]; rfl) (fun K hK => ?_)
        rw [if_pos (by rfl)]
        go_simp
        refine hK _ _ ⟨(sp_vac (by decide +kernel) (by decide +kernel) (by decide +kernel)), ?_⟩
        clear hK K
        refine sp_take 28 27 55 (u := ?v27_19) (by simp only [List.getElem?_toArray, List.getElem?_cons_succ, List.getElem?_cons_zero]; rfl) rfl (by decide +kernel) (by intro _ _ _ h; exact h) (by decide) (Or.inl ⟨by rfl, ?y27_19⟩) (sp_vac (by decide +kernel) (by decide +kernel) (by decide +kernel)) ?_
        case y27_19 =>
          intro W hT
          go_simp
          first | done | with_reducible rfl
        simp only [Act.put, List.setIfInBounds_toArray, List.set_cons_zero, List.set_cons_succ]
        refine sp_take 29 28 56 (u := ?v28_19) (by simp only [List.getElem?_toArray, List.getElem?_cons_succ, List.getElem?_cons_zero]; rfl) rfl (by decide +kernel) (by intro _ _ _ h; exact h) (by decide) (Or.inl ⟨by rfl, ?y28_19⟩) (sp_vac (by decide +kernel) (by decide +kernel) (by decide +kernel)) ?_
        case y28_19 =>
          intro W hT
          go_simp
          first | done | with_reducible rfl
        simp only [Act.put, List.setIfInBounds_toArray, List.set_cons_zero, List.set_cons_succ]
        refine AnyL.all (rs := [29]) (by decide +kernel) (by simp) ?_
        intro j hj
        simp only [List.mem_cons, List.not_mem_nil, or_false] at hj
        subst hj
        refine wpOp_step (i := 29) (by simp only [List.getElem?_toArray, List.getElem?_cons_succ, List.getElem?_cons_zero]; rfl) (fun K hK => ?_)
        rw [if_pos (by rfl)]
        go_simp
        refine hK _ _ ⟨(sp_vac (by decide +kernel) (by decide +kernel) (by decide +kernel)), ?_⟩
        clear hK K
        refine sp_take 31 30 57 (u := ?v30_19) (by simp only [List.getElem?_toArray, List.getElem?_cons_succ, List.getElem?_cons_zero]; rfl) rfl (by decide +kernel) (by intro _ _ _ h; exact h) (by decide) (Or.inl ⟨by rfl, ?y30_19⟩) (sp_vac (by decide +kernel) (by decide +kernel) (by decide +kernel)) ?_
        case y30_19 =>
          intro W hT
          go_simp
          first | done | with_reducible rfl
        simp only [Act.put, List.setIfInBounds_toArray, List.set_cons_zero, List.set_cons_succ]
        refine sp_take 32 31 58 (u := ?v31_19) (by simp only [List.getElem?_toArray, List.getElem?_cons_succ, List.getElem?_cons_zero]; rfl) rfl (by decide +kernel) (by intro _ _ _ h; exact h) (by decide) (Or.inl ⟨by rfl, ?y31_19⟩) (sp_vac (by decide +kernel) (by decide +kernel) (by decide +kernel)) ?_
        case y31_19 =>
          intro W hT
          go_simp
          first | done | with_reducible rfl
        simp only [Act.put, List.setIfInBounds_toArray, List.set_cons_zero, List.set_cons_succ]
        refine AnyL.all (rs := [32]) (by decide +kernel) (by simp) ?_
        intro j hj
        simp only [List.mem_cons, List.not_mem_nil, or_false] at hj
        subst hj
        refine wpOp_step (i := 32) (by simp only [List.getElem?_toArray, List.getElem?_cons_succ, List.getElem?_cons_zero]; rfl) (fun K hK => ?_)
        rw [if_pos (by rfl)]
        go_simp
        refine hK _ _ ⟨(sp_vac (by decide +kernel) (by decide +kernel) (by decide +kernel)), ?_⟩
        clear hK K
        refine AnyL.done (by decide +kernel) ?_ _
        have HON := Lib.hid (only_three w87 y (.slice A1 (N + 1) e1) (.slice A2 (N + 1) e2) (.slice A3 (N + 1) e3))
        clear c0 c1 c2 c3 f1 f2 f3
        generalize ((w87.setCell ⟨y, 1, none⟩ (.slice A1 (N + 1) e1)).setCell ⟨y, 2, none⟩ (.slice A2 (N + 1) e2)).setCell ⟨y, 3, none⟩ (.slice A3 (N + 1) e3) = wf at *
        have k1 : wf.cell? ⟨y, 1, none⟩ = some (.slice A1 (N + 1) e1) := HRF.out.read rfl
        go_wp2
        go_ret2
        exact rq_done HQ.out HNN.out HLN.out hn hn0 HRF.out HP.out H9.out HC9.out HON.out HYB.out (by omega)
    · refine wpOp_step (i := 22) (by simp only [List.getElem?_toArray, List.getElem?_cons_succ, List.getElem?_cons_zero]; rfl) (fun K hK => ?_)
      rw [if_pos (by rfl)]
      go_simp
      have hb := bl_alloc (Below.refl w69.heap.size w69) (.cells #[.bool false] 4)
      replace HP := Lib.hid (HP.out.later hb)
      replace R16 := Lib.hid (R16.out.later hb)
      replace HSRC := Lib.hid (HSRC.out.later hb)
      have R22 := Lib.hid (Row.made w69 4 #[.bool false])
      refine hK _ _ ⟨sp_row HP.out.row _, ?_⟩
      clear hK K hb
      try simp only [Act.put, List.setIfInBounds_toArray, List.set_cons_zero, List.set_cons_succ]
      generalize w69.alloc (.cells #[.bool false] 4) = w88 at *
      generalize w69.heap.size = g22 at *
      refine AnyL.all (rs := [9]) (by decide +kernel) (by simp) ?_
      intro j hj
      simp only [List.mem_cons, List.not_mem_nil, or_false] at hj
      subst hj
      refine wpOp_step (i := 9) (by simp only [List.getElem?_toArray, List.getElem?_cons_succ, List.getElem?_cons_zero]; rfl) (fun K hK => ?_)
      refine step_copy (A := A) (c := c) (n := n) (l := l) rfl (.tmp 36) (.tmp 37) rfl rfl (by rfl) (by rfl) HLN.out hn0 (by omega) HSRC.out ?_
      intro g9 cap9 w89 q1 q2 q3 q4 q5
      have HC9 := Lib.hid (HP.out.fresh q1 q2 q3)
      have H9 := Lib.hid q4
      replace HP := Lib.hid (HP.out.later q5)
      replace R16 := Lib.hid (R16.out.later q5)
      replace R22 := Lib.hid (R22.out.later q5)
      refine hK _ _ ⟨sp_row HP.out.row _, ?_⟩
      clear hK K q1 q2 q3 q4 q5 HSRC
      try simp only [Act.put, List.setIfInBounds_toArray, List.set_cons_zero, List.set_cons_succ]
      refine AnyL.all (rs := [10]) (by decide +kernel) (by simp) ?_
      intro j hj
      simp only [List.mem_cons, List.not_mem_nil, or_false] at hj
      subst hj
      refine wpOp_step (i := 10) (by simp only [List.getElem?_toArray, List.getElem?_cons_succ, List.getElem?_cons_zero]; rfl) (fun K hK => ?_)
      rw [if_pos (by rfl)]
      go_simp
      have hb := bl_alloc (Below.refl w89.heap.size w89) (.cells #[.slice (some ⟨g9, 0, none⟩) n cap9] 38)
      replace HP := Lib.hid (HP.out.later hb)
      replace R16 := Lib.hid (R16.out.later hb)
      replace R22 := Lib.hid (R22.out.later hb)
      replace H9 := Lib.hid (text_later H9.out hb)
      have R10 := Lib.hid (Row.made w89 38 #[.slice (some ⟨g9, 0, none⟩) n cap9])
      refine hK _ _ ⟨sp_row HP.out.row _, ?_⟩
      clear hK K hb
      try simp only [Act.put, List.setIfInBounds_toArray, List.set_cons_zero, List.set_cons_succ]
      generalize w89.alloc (.cells #[.slice (some ⟨g9, 0, none⟩) n cap9] 38) = w90 at *
      generalize w89.heap.size = g10 at *
      refine AnyL.all (rs := [11]) (by decide +kernel) (by simp) ?_
      intro j hj
      simp only [List.mem_cons, List.not_mem_nil, or_false] at hj
      subst hj
      refine wpOp_step (i := 11) (by simp only [List.getElem?_toArray, List.getElem?_cons_succ, List.getElem?_cons_zero]; rfl) (fun K hK => ?_)
      refine step_l rfl rfl rfl (by rfl) (by rfl) HP.out R10.out (by omega) ?_
      intro A1 e1 w91 hp o2
      replace HP := Lib.hid hp
      replace H9 := Lib.hid (text_kr H9.out o2 (by decide))
      replace R16 := Lib.hid (o2.rows _ _ _ R16.out (by decide))
      replace R22 := Lib.hid (o2.rows _ _ _ R22.out (by decide))
      refine hK _ _ ⟨sp_row HP.out.row _, ?_⟩
      clear hK K hp o2 R10
      try simp only [Act.put, List.setIfInBounds_toArray, List.set_cons_zero, List.set_cons_succ]
      refine AnyL.all (rs := [17]) (by decide +kernel) (by simp) ?_
      intro j hj
      simp only [List.mem_cons, List.not_mem_nil, or_false] at hj
      subst hj
      refine wpOp_step (i := 17) (by simp only [List.getElem?_toArray, List.getElem?_cons_succ, List.getElem?_cons_zero]; rfl) (fun K hK => ?_)
      refine step_t rfl rfl rfl (by rfl) (by rfl) HP.out R16.out (by omega) ?_
      intro A2 e2 w92 hp o2
      replace HP := Lib.hid hp
      replace H9 := Lib.hid (text_kr H9.out o2 (by decide))
      replace R22 := Lib.hid (o2.rows _ _ _ R22.out (by decide))
      refine hK _ _ ⟨sp_row HP.out.row _, ?_⟩
      clear hK K hp o2 R16
      try simp only [Act.put, List.setIfInBounds_toArray, List.set_cons_zero, List.set_cons_succ]
      refine AnyL.all (rs := [23]) (by decide +kernel) (by simp) ?_
      intro j hj
      simp only [List.mem_cons, List.not_mem_nil, or_false] at hj
      subst hj
      refine wpOp_step (i := 23) (by simp only [List.getElem?_toArray, List.getElem?_cons_succ, List.getElem?_cons_zero]; rfl) (fun K hK => ?_)
      refine step_g rfl rfl rfl (by rfl) (by rfl) HP.out R22.out (by omega) ?_
      intro A3 e3 w93 hp o2
      replace HP := Lib.hid hp
      replace H9 := Lib.hid (text_kr H9.out o2 (by decide))
      refine hK _ _ ⟨sp_row HP.out.row _, ?_⟩
      clear hK K hp o2 R22
      try simp only [Act.put, List.setIfInBounds_toArray, List.set_cons_zero, List.set_cons_succ]
      obtain ⟨c0, c1, c2, c3⟩ := qcells HP.out.row
      have f1 := HP.out.row.free 1
      have f2 := HP.out.row.free 2
      have f3 := HP.out.row.free 3
      have HRF := Lib.hid (((HP.out.row.written 1 (.slice A1 (N + 1) e1)).written 2 (.slice A2 (N + 1) e2)).written 3 (.slice A3 (N + 1) e3))
      refine sp_take 25 24 53 (u := ?v24_20) (by simp only [List.getElem?_toArray, List.getElem?_cons_succ, List.getElem?_cons_zero]; rfl) rfl (by decide +kernel) (by intro _ _ _ h; exact h) (by decide) (Or.inl ⟨by rfl, ?y24_20⟩) (sp_vac (by decide +kernel) (by decide +kernel) (by decide +kernel)) ?_
      case y24_20 =>
        intro W hT
        go_simp
        first | done | with_reducible rfl
      simp only [Act.put, List.setIfInBounds_toArray, List.set_cons_zero, List.set_cons_succ]
      refine sp_take 26 25 54 (u := ?v25_20) (by simp only [List.getElem?_toArray, List.getElem?_cons_succ, List.getElem?_cons_zero]; rfl) rfl (by decide +kernel) (by intro _ _ _ h; exact h) (by decide) (Or.inl ⟨by rfl, ?y25_20⟩) (sp_vac (by decide +kernel) (by decide +kernel) (by decide +kernel)) ?_
      case y25_20 =>
        intro W hT
        go_simp
        first | done | with_reducible rfl
      simp only [Act.put, List.setIfInBounds_toArray, List.set_cons_zero, List.set_cons_succ]
      refine AnyL.all (rs := [26]) (by decide +kernel) (by simp) ?_
      intro j hj
      simp only [List.mem_cons, List.not_mem_nil, or_false] at hj
      subst hj
      refine wpOp_step (i := 26) (by simp only [List.getElem?_toArray, List.getElem?_cons_succ, List.getElem?_cons_zero]; rfl) (fun K hK => ?_)
      rw [if_pos (by rfl)]
      go_simp
      refine hK _ _ ⟨(sp_vac (by decide +kernel) (by decide +kernel) (by decide +kernel)), ?_⟩
      clear hK K
      refine sp_take 28 27 55 (u := ?v27_20) (by simp only [List.getElem?_toArray, List.getElem?_cons_succ, List.getElem?_cons_zero]; rfl) rfl (by decide +kernel) (by intro _ _ _ h; exact h) (by decide) (Or.inl ⟨by rfl, ?y27_20⟩) (sp_vac (by decide +kernel) (by decide +kernel) (by decide +kernel)) ?_
      case y27_20 =>
        intro W hT
        go_simp
        first | done | with_reducible rfl
      simp only [Act.put, List.setIfInBounds_toArray, List.set_cons_zero, List.set_cons_succ]
      refine sp_take 29 28 56 (u := ?v28_20) (by simp only [List.getElem?_toArray, List.getElem?_cons_succ, List.getElem?_cons_zero]; rfl) rfl (by decide +kernel) (by intro _ _ _ h; exact h) (by decide) (Or.inl ⟨by rfl, ?y28_20⟩) (sp_vac (by decide +kernel) (by decide +kernel) (by decide +kernel)) ?_
      case y28_20 =>
        intro W hT
        go_simp
        first | done | with_reducible rfl
      simp only [Act.put, List.setIfInBounds_toArray, List.set_cons_zero, List.set_cons_succ]
      refine AnyL.all (rs := [29]) (by decide +kernel) (by simp) ?_
      intro j hj
      simp only [List.mem_cons, List.not_mem_nil, or_false] at hj
      subst hj
      refine wpOp_step (i := 29) (by simp only [List.getElem?_toArray, List.getElem?_cons_succ, List.getElem?_cons_zero]; rfl) (fun K hK => ?_)
      rw [if_pos (by rfl)]
      go_simp
      refine hK _ _ ⟨(sp_vac (by decide +kernel) (by decide +kernel) (by decide +kernel)), ?_⟩
      clear hK K
      refine sp_take 31 30 57 (u := ?v30_20) (by simp only [List.getElem?_toArray, List.getElem?_cons_succ, List.getElem?_cons_zero]; rfl) rfl (by decide +kernel) (by intro _ _ _ h; exact h) (by decide) (Or.inl ⟨by rfl, ?y30_20⟩) (sp_vac (by decide +kernel) (by decide +kernel) (by decide +kernel)) ?_
      case y30_20 =>
        intro W hT
        go_simp
        first | done | with_reducible rfl
      simp only [Act.put, List.setIfInBounds_toArray, List.set_cons_zero, List.set_cons_succ]
      refine sp_take 32 31 58 (u := ?v31_20) (by simp only [List.getElem?_toArray, List.getElem?_cons_succ, List.getElem?_cons_zero]; rfl) rfl (by decide +kernel) (by intro _ _ _ h; exact h) (by decide) (Or.inl ⟨by rfl, ?y31_20⟩) (sp_vac (by decide +kernel) (by decide +kernel) (by decide +kernel)) ?_
      case y31_20 =>
        intro W hT
        go_simp
        first | done | with_reducible rfl
      simp only [Act.put, List.setIfInBounds_toArray, List.set_cons_zero, List.set_cons_succ]
      refine AnyL.all (rs := [32]) (by decide +kernel) (by simp) ?_
      intro j hj
      simp only [List.mem_cons, List.not_mem_nil, or_false] at hj
      subst hj
      refine wpOp_step (i := 32) (by simp only [List.getElem?_toArray, List.getElem?_cons_succ, List.getElem?_cons_zero]; rfl) (fun K hK => ?_)
      rw [if_pos (by rfl)]
      go_simp
      refine hK _ _ ⟨(sp_vac (by decide +kernel) (by decide +kernel) (by decide +kernel)), ?_⟩
      clear hK K
      refine AnyL.done (by decide +kernel) ?_ _
      have HON := Lib.hid (only_three w93 y (.slice A1 (N + 1) e1) (.slice A2 (N + 1) e2) (.slice A3 (N + 1) e3))
      clear c0 c1 c2 c3 f1 f2 f3
      generalize ((w93.setCell ⟨y, 1, none⟩ (.slice A1 (N + 1) e1)).setCell ⟨y, 2, none⟩ (.slice A2 (N + 1) e2)).setCell ⟨y, 3, none⟩ (.slice A3 (N + 1) e3) = wf at *
      have k1 : wf.cell? ⟨y, 1, none⟩ = some (.slice A1 (N + 1) e1) := HRF.out.read rfl
      go_wp2
      go_ret2
      exact rq_done HQ.out HNN.out HLN.out hn hn0 HRF.out HP.out H9.out HC9.out HON.out HYB.out (by omega)
  · refine wpOp_step (i := 22) (by simp only [List.getElem?_toArray, List.getElem?_cons_succ, List.getElem?_cons_zero]; rfl) (fun K hK => ?_)
    rw [if_pos (by rfl)]
    go_simp
    have hb := bl_alloc (Below.refl wq.heap.size wq) (.cells #[.bool false] 4)
    replace HP := Lib.hid (HP.out.later hb)
    replace HSRC := Lib.hid (HSRC.out.later hb)
    have R22 := Lib.hid (Row.made wq 4 #[.bool false])
    refine hK _ _ ⟨sp_row HP.out.row _, ?_⟩
    clear hK K hb
    try simp only [Act.put, List.setIfInBounds_toArray, List.set_cons_zero, List.set_cons_succ]
    generalize wq.alloc (.cells #[.bool false] 4) = w94 at *
    generalize wq.heap.size = g22 at *
    refine AnyL.all (rs := [9, 16]) (by decide +kernel) (by simp) ?_
    intro j hj
    simp only [List.mem_cons, List.not_mem_nil, or_false] at hj
    rcases hj with rfl | rfl
    · refine wpOp_step (i := 9) (by simp only [List.getElem?_toArray, List.getElem?_cons_succ, List.getElem?_cons_zero]; rfl) (fun K hK => ?_)
      refine step_copy (A := A) (c := c) (n := n) (l := l) rfl (.tmp 36) (.tmp 37) rfl rfl (by rfl) (by rfl) HLN.out hn0 (by omega) HSRC.out ?_
      intro g9 cap9 w95 q1 q2 q3 q4 q5
      have HC9 := Lib.hid (HP.out.fresh q1 q2 q3)
      have H9 := Lib.hid q4
      replace HP := Lib.hid (HP.out.later q5)
      replace R22 := Lib.hid (R22.out.later q5)
      refine hK _ _ ⟨sp_row HP.out.row _, ?_⟩
      clear hK K q1 q2 q3 q4 q5 HSRC
      try simp only [Act.put, List.setIfInBounds_toArray, List.set_cons_zero, List.set_cons_succ]
      refine AnyL.all (rs := [10, 16]) (by decide +kernel) (by simp) ?_
      intro j hj
      simp only [List.mem_cons, List.not_mem_nil, or_false] at hj
      rcases hj with rfl | rfl
      · refine wpOp_step (i := 10) (by simp only [List.getElem?_toArray, List.getElem?_cons_succ, List.getElem?_cons_zero]; rfl) (fun K hK => ?_)
        rw [if_pos (by rfl)]
        go_simp
        have hb := bl_alloc (Below.refl w95.heap.size w95) (.cells #[.slice (some ⟨g9, 0, none⟩) n cap9] 38)
        replace HP := Lib.hid (HP.out.later hb)
        replace R22 := Lib.hid (R22.out.later hb)
        replace H9 := Lib.hid (text_later H9.out hb)
        have R10 := Lib.hid (Row.made w95 38 #[.slice (some ⟨g9, 0, none⟩) n cap9])
        refine hK _ _ ⟨sp_row HP.out.row _, ?_⟩
        clear hK K hb
        try simp only [Act.put, List.setIfInBounds_toArray, List.set_cons_zero, List.set_cons_succ]
        generalize w95.alloc (.cells #[.slice (some ⟨g9, 0, none⟩) n cap9] 38) = w96 at *
        generalize w95.heap.size = g10 at *
        refine AnyL.all (rs := [11, 16]) (by decide +kernel) (by simp) ?_
        intro j hj
        simp only [List.mem_cons, List.not_mem_nil, or_false] at hj
        rcases hj with rfl | rfl
        · refine wpOp_step (i := 11) (by simp only [List.getElem?_toArray, List.getElem?_cons_succ, List.getElem?_cons_zero]; rfl) (fun K hK => ?_)
          refine step_l rfl rfl rfl (by rfl) (by rfl) HP.out R10.out (by omega) ?_
          intro A1 e1 w97 hp o2
          replace HP := Lib.hid hp
          replace H9 := Lib.hid (text_kr H9.out o2 (by decide))
          replace R22 := Lib.hid (o2.rows _ _ _ R22.out (by decide))
          refine hK _ _ ⟨sp_row HP.out.row _, ?_⟩
          clear hK K hp o2 R10
          try simp only [Act.put, List.setIfInBounds_toArray, List.set_cons_zero, List.set_cons_succ]
          refine AnyL.all (rs := [16]) (by decide +kernel) (by simp) ?_
          intro j hj
          simp only [List.mem_cons, List.not_mem_nil, or_false] at hj
          subst hj
          refine wpOp_step (i := 16) (by simp only [List.getElem?_toArray, List.getElem?_cons_succ, List.getElem?_cons_zero]; rfl) (fun K hK => ?_)
          rw [if_pos (by rfl)]
          go_simp
          have hb := bl_alloc (Below.refl w97.heap.size w97) (.cells #[.int .i64 0] 3)
          replace HP := Lib.hid (HP.out.later hb)
          replace R22 := Lib.hid (R22.out.later hb)
          replace H9 := Lib.hid (text_later H9.out hb)
          have R16 := Lib.hid (Row.made w97 3 #[.int .i64 0])
          refine hK _ _ ⟨sp_row HP.out.row _, ?_⟩
          clear hK K hb
          try simp only [Act.put, List.setIfInBounds_toArray, List.set_cons_zero, List.set_cons_succ]
          generalize w97.alloc (.cells #[.int .i64 0] 3) = w98 at *
          generalize w97.heap.size = g16 at *
          refine AnyL.all (rs := [17]) (by decide +kernel) (by simp) ?_
          intro j hj
          simp only [List.mem_cons, List.not_mem_nil, or_false] at hj
          subst hj
          refine wpOp_step (i := 17) (by simp only [List.getElem?_toArray, List.getElem?_cons_succ, List.getElem?_cons_zero]; rfl) (fun K hK => ?_)
          refine step_t rfl rfl rfl (by rfl) (by rfl) HP.out R16.out (by omega) ?_
          intro A2 e2 w99 hp o2
          replace HP := Lib.hid hp
          replace H9 := Lib.hid (text_kr H9.out o2 (by decide))
          replace R22 := Lib.hid (o2.rows _ _ _ R22.out (by decide))
          refine hK _ _ ⟨sp_row HP.out.row _, ?_⟩
          clear hK K hp o2 R16
          try simp only [Act.put, List.setIfInBounds_toArray, List.set_cons_zero, List.set_cons_succ]
          refine AnyL.all (rs := [23]) (by decide +kernel) (by simp) ?_
          intro j hj
          simp only [List.mem_cons, List.not_mem_nil, or_false] at hj
          subst hj
          refine wpOp_step (i := 23) (by simp only [List.getElem?_toArray, List.getElem?_cons_succ, List.getElem?_cons_zero]; rfl) (fun K hK => ?_)
          refine step_g rfl rfl rfl (by rfl) (by rfl) HP.out R22.out (by omega) ?_
          intro A3 e3 w100 hp o2
          replace HP := Lib.hid hp
          replace H9 := Lib.hid (text_kr H9.out o2 (by decide))
          refine hK _ _ ⟨sp_row HP.out.row _, ?_⟩
          clear hK K hp o2 R22
          try simp only [Act.put, List.setIfInBounds_toArray, List.set_cons_zero, List.set_cons_succ]
          obtain ⟨c0, c1, c2, c3⟩ := qcells HP.out.row
          have f1 := HP.out.row.free 1
          have f2 := HP.out.row.free 2
          have f3 := HP.out.row.free 3
          have HRF := Lib.hid (((HP.out.row.written 1 (.slice A1 (N + 1) e1)).written 2 (.slice A2 (N + 1) e2)).written 3 (.slice A3 (N + 1) e3))
          refine sp_take 25 24 53 (u := ?v24_21) (by simp only [List.getElem?_toArray, List.getElem?_cons_succ, List.getElem?_cons_zero]; rfl) rfl (by decide +kernel) (by intro _ _ _ h; exact h) (by decide) (Or.inl ⟨by rfl, ?y24_21⟩) (sp_vac (by decide +kernel) (by decide +kernel) (by decide +kernel)) ?_
          case y24_21 =>
            intro W hT
            go_simp
            first | done | with_reducible rfl
          simp only [Act.put, List.setIfInBounds_toArray, List.set_cons_zero, List.set_cons_succ]
          refine sp_take 26 25 54 (u := ?v25_21) (by simp only [List.getElem?_toArray, List.getElem?_cons_succ, List.getElem?_cons_zero]; rfl) rfl (by decide +kernel) (by intro _ _ _ h; exact h) (by decide) (Or.inl ⟨by rfl, ?y25_21⟩) (sp_vac (by decide +kernel) (by decide +kernel) (by decide +kernel)) ?_
          case y25_21 =>
            intro W hT
            go_simp
            first | done | with_reducible rfl
          simp only [Act.put, List.setIfInBounds_toArray, List.set_cons_zero, List.set_cons_succ]
          refine AnyL.all (rs := [26]) (by decide +kernel) (by simp) ?_
          intro j hj
          simp only [List.mem_cons, List.not_mem_nil, or_false] at hj
          subst hj
          refine wpOp_step (i := 26) (by simp only [List.getElem?_toArray, List.getElem?_cons_succ, List.getElem?_cons_zero]; rfl) (fun K hK => ?_)
          rw [if_pos (by rfl)]
          go_simp
          refine hK _ _ ⟨(sp_vac (by decide +kernel) (by decide +kernel) (by decide +kernel)), ?_⟩
          clear hK K
          refine sp_take 28 27 55 (u := ?v27_21) (by simp only [List.getElem?_toArray, List.getElem?_cons_succ, List.getElem?_cons_zero]; rfl) rfl (by decide +kernel) (by intro _ _ _ h; exact h) (by decide) (Or.inl ⟨by rfl, ?y27_21⟩) (sp_vac (by decide +kernel) (by decide +kernel) (by decide +kernel)) ?_
          case y27_21 =>
            intro W hT
            go_simp
            first | done | with_reducible rfl
          simp only [Act.put, List.setIfInBounds_toArray, List.set_cons_zero, List.set_cons_succ]
          refine sp_take 29 28 56 (u := ?v28_21) (by simp only [List.getElem?_toArray, List.getElem?_cons_succ, List.getElem?_cons_zero]; rfl) rfl (by decide +kernel) (by intro _ _ _ h; exact h) (by decide) (Or.inl ⟨by rfl, ?y28_21⟩) (sp_vac (by decide +kernel) (by decide +kernel) (by decide +kernel)) ?_
          case y28_21 =>
            intro W hT
            go_simp
            first | done | with_reducible rfl
          simp only [Act.put, List.setIfInBounds_toArray, List.set_cons_zero, List.set_cons_succ]
          refine AnyL.all (rs := [29]) (by decide +kernel) (by simp) ?_
          intro j hj
          simp only [List.mem_cons, List.not_mem_nil, or_false] at hj
          subst hj
          refine wpOp_step (i := 29) (by simp only [List.getElem?_toArray, List.getElem?_cons_succ, List.getElem?_cons_zero]; rfl) (fun K hK => ?_)
          rw [if_pos (by rfl)]
          go_simp
          refine hK _ _ ⟨(sp_vac (by decide +kernel) (by decide +kernel) (by decide +kernel)), ?_⟩
          clear hK K
          refine sp_take 31 30 57 (u := ?v30_21) (by simp only [List.getElem?_toArray, List.getElem?_cons_succ, List.getElem?_cons_zero]; rfl) rfl (by decide +kernel) (by intro _ _ _ h; exact h) (by decide) (Or.inl ⟨by rfl, ?y30_21⟩) (sp_vac (by decide +kernel) (by decide +kernel) (by decide +kernel)) ?_
          case y30_21 =>
            intro W hT
            go_simp
            first | done | with_reducible rfl
          simp only [Act.put, List.setIfInBounds_toArray, List.set_cons_zero, List.set_cons_succ]
          refine sp_take 32 31 58 (u := ?v31_21) (by simp only [List.getElem?_toArray, List.getElem?_cons_succ, List.getElem?_cons_zero]; rfl) rfl (by decide +kernel) (by intro _ _ _ h; exact h) (by decide) (Or.inl ⟨by rfl, ?y31_21⟩) (sp_vac (by decide +kernel) (by decide +kernel) (by decide +kernel)) ?_
          case y31_21 =>
            intro W hT
            go_simp
            first | done | with_reducible rfl
          simp only [Act.put, List.setIfInBounds_toArray, List.set_cons_zero, List.set_cons_succ]
          refine AnyL.all (rs := [32]) (by decide +kernel) (by simp) ?_
          intro j hj
          simp only [List.mem_cons, List.not_mem_nil, or_false] at hj
          subst hj
          refine wpOp_step (i := 32) (by simp only [List.getElem?_toArray, List.getElem?_cons_succ, List.getElem?_cons_zero]; rfl) (fun K hK => ?_)
          rw [if_pos (by rfl)]
          go_simp
          refine hK _ _ ⟨(sp_vac (by decide +kernel) (by decide +kernel) (by decide +kernel)), ?_⟩
          clear hK K
          refine AnyL.done (by decide +kernel) ?_ _
          have HON := Lib.hid (only_three w100 y (.slice A1 (N + 1) e1) (.slice A2 (N + 1) e2) (.slice A3 (N + 1) e3))
          clear c0 c1 c2 c3 f1 f2 f3
          generalize ((w100.setCell ⟨y, 1, none⟩ (.slice A1 (N + 1) e1)).setCell ⟨y, 2, none⟩ (.slice A2 (N + 1) e2)).setCell ⟨y, 3, none⟩ (.slice A3 (N + 1) e3) = wf at *
          have k1 : wf.cell? ⟨y, 1, none⟩ = some (.slice A1 (N + 1) e1) := HRF.out.read rfl
          go_wp2
          go_ret2
          exact rq_done HQ.out HNN.out HLN.out hn hn0 HRF.out HP.out H9.out HC9.out HON.out HYB.out (by omega)
        · refine wpOp_step (i := 16) (by simp only [List.getElem?_toArray, List.getElem?_cons_succ, List.getElem?_cons_zero]; rfl) (fun K hK => ?_)
          rw [if_pos (by rfl)]
          go_simp
          have hb := bl_alloc (Below.refl w96.heap.size w96) (.cells #[.int .i64 0] 3)
          replace HP := Lib.hid (HP.out.later hb)
          replace R10 := Lib.hid (R10.out.later hb)
          replace R22 := Lib.hid (R22.out.later hb)
          replace H9 := Lib.hid (text_later H9.out hb)
          have R16 := Lib.hid (Row.made w96 3 #[.int .i64 0])
          refine hK _ _ ⟨sp_row HP.out.row _, ?_⟩
          clear hK K hb
          try simp only [Act.put, List.setIfInBounds_toArray, List.set_cons_zero, List.set_cons_succ]
          generalize w96.alloc (.cells #[.int .i64 0] 3) = w101 at *
          generalize w96.heap.size = g16 at *
          refine AnyL.all (rs := [11]) (by decide +kernel) (by simp) ?_
          intro j hj
          simp only [List.mem_cons, List.not_mem_nil, or_false] at hj
          subst hj
          refine wpOp_step (i := 11) (by simp only [List.getElem?_toArray, List.getElem?_cons_succ, List.getElem?_cons_zero]; rfl) (fun K hK => ?_)
          refine step_l rfl rfl rfl (by rfl) (by rfl) HP.out R10.out (by omega) ?_
          intro A1 e1 w102 hp o2
          replace HP := Lib.hid hp
          replace H9 := Lib.hid (text_kr H9.out o2 (by decide))
          replace R16 := Lib.hid (o2.rows _ _ _ R16.out (by decide))
          replace R22 := Lib.hid (o2.rows _ _ _ R22.out (by decide))
          refine hK _ _ ⟨sp_row HP.out.row _, ?_⟩
          clear hK K hp o2 R10
          try simp only [Act.put, List.setIfInBounds_toArray, List.set_cons_zero, List.set_cons_succ]
          refine AnyL.all (rs := [17]) (by decide +kernel) (by simp) ?_
          intro j hj
          simp only [List.mem_cons, List.not_mem_nil, or_false] at hj
          subst hj
          refine wpOp_step (i := 17) (by simp only [List.getElem?_toArray, List.getElem?_cons_succ, List.getElem?_cons_zero]; rfl) (fun K hK => ?_)
          refine step_t rfl rfl rfl (by rfl) (by rfl) HP.out R16.out (by omega) ?_
          intro A2 e2 w103 hp o2
          replace HP := Lib.hid hp
          replace H9 := Lib.hid (text_kr H9.out o2 (by decide))
          replace R22 := Lib.hid (o2.rows _ _ _ R22.out (by decide))
          refine hK _ _ ⟨sp_row HP.out.row _, ?_⟩
          clear hK K hp o2 R16
          try simp only [Act.put, List.setIfInBounds_toArray, List.set_cons_zero, List.set_cons_succ]
          refine AnyL.all (rs := [23]) (by decide +kernel) (by simp) ?_
          intro j hj
          simp only [List.mem_cons, List.not_mem_nil, or_false] at hj
          subst hj
          refine wpOp_step (i := 23) (by simp only [List.getElem?_toArray, List.getElem?_cons_succ, List.getElem?_cons_zero]; rfl) (fun K hK => ?_)
          refine step_g rfl rfl rfl (by rfl) (by rfl) HP.out R22.out (by omega) ?_
          intro A3 e3 w104 hp o2
          replace HP := Lib.hid hp
          replace H9 := Lib.hid (text_kr H9.out o2 (by decide))
          refine hK _ _ ⟨sp_row HP.out.row _, ?_⟩
          clear hK K hp o2 R22
          try simp only [Act.put, List.setIfInBounds_toArray, List.set_cons_zero, List.set_cons_succ]
          obtain ⟨c0, c1, c2, c3⟩ := qcells HP.out.row
          have f1 := HP.out.row.free 1
          have f2 := HP.out.row.free 2
          have f3 := HP.out.row.free 3
          have HRF := Lib.hid (((HP.out.row.written 1 (.slice A1 (N + 1) e1)).written 2 (.slice A2 (N + 1) e2)).written 3 (.slice A3 (N + 1) e3))
          refine sp_take 25 24 53 (u := ?v24_22) (by simp only [List.getElem?_toArray, List.getElem?_cons_succ, List.getElem?_cons_zero]; rfl) rfl (by decide +kernel) (by intro _ _ _ h; exact h) (by decide) (Or.inl ⟨by rfl, ?y24_22⟩) (sp_vac (by decide +kernel) (by decide +kernel) (by decide +kernel)) ?_
          case y24_22 =>
            intro W hT
            go_simp
            first | done | with_reducible rfl
          simp only [Act.put, List.setIfInBounds_toArray, List.set_cons_zero, List.set_cons_succ]
          refine sp_take 26 25 54 (u := ?v25_22) (by simp only [List.getElem?_toArray, List.getElem?_cons_succ, List.getElem?_cons_zero]; rfl) rfl (by decide +kernel) (by intro _ _ _ h; exact h) (by decide) (Or.inl ⟨by rfl, ?y25_22⟩) (sp_vac (by decide +kernel) (by decide +kernel) (by decide +kernel)) ?_
          case y25_22 =>
            intro W hT
            go_simp
            first | done | with_reducible rfl
          simp only [Act.put, List.setIfInBounds_toArray, List.set_cons_zero, List.set_cons_succ]
          refine AnyL.all (rs := [26]) (by decide +kernel) (by simp) ?_
          intro j hj
          simp only [List.mem_cons, List.not_mem_nil, or_false] at hj
          subst hj
          refine wpOp_step (i := 26) (by simp only [List.getElem?_toArray, List.getElem?_cons_succ, List.getElem?_cons_zero]; rfl) (fun K hK => ?_)
          rw [if_pos (by rfl)]
          go_simp
          refine hK _ _ ⟨(sp_vac (by decide +kernel) (by decide +kernel) (by decide +kernel)), ?_⟩
          clear hK K
          refine sp_take 28 27 55 (u := ?v27_22) (by simp only [List.getElem?_toArray, List.getElem?_cons_succ, List.getElem?_cons_zero]; rfl) rfl (by decide +kernel) (by intro _ _ _ h; exact h) (by decide) (Or.inl ⟨by rfl, ?y27_22⟩) (sp_vac (by decide +kernel) (by decide +kernel) (by decide +kernel)) ?_
          case y27_22 =>
            intro W hT
            go_simp
            first | done | with_reducible rfl
          simp only [Act.put, List.setIfInBounds_toArray, List.set_cons_zero, List.set_cons_succ]
          refine sp_take 29 28 56 (u := ?v28_22) (by simp only [List.getElem?_toArray, List.getElem?_cons_succ, List.getElem?_cons_zero]; rfl) rfl (by decide +kernel) (by intro _ _ _ h; exact h) (by decide) (Or.inl ⟨by rfl, ?y28_22⟩) (sp_vac (by decide +kernel) (by decide +kernel) (by decide +kernel)) ?_
          case y28_22 =>
            intro W hT
            go_simp
            first | done | with_reducible rfl
          simp only [Act.put, List.setIfInBounds_toArray, List.set_cons_zero, List.set_cons_succ]
          refine AnyL.all (rs := [29]) (by decide +kernel) (by simp) ?_
          intro j hj
          simp only [List.mem_cons, List.not_mem_nil, or_false] at hj
          subst hj
          refine wpOp_step (i := 29) (by simp only [List.getElem?_toArray, List.getElem?_cons_succ, List.getElem?_cons_zero]; rfl) (fun K hK => ?_)
          rw [if_pos (by rfl)]
          go_simp
          refine hK _ _ ⟨(sp_vac (by decide +kernel) (by decide +kernel) (by decide +kernel)), ?_⟩
          clear hK K
          refine sp_take 31 30 57 (u := ?v30_22) (by simp only [List.getElem?_toArray, List.getElem?_cons_succ, List.getElem?_cons_zero]; rfl) rfl (by decide +kernel) (by intro _ _ _ h; exact h) (by decide) (Or.inl ⟨by rfl, ?y30_22⟩) (sp_vac (by decide +kernel) (by decide +kernel) (by decide +kernel)) ?_
          case y30_22 =>
            intro W hT
            go_simp
            first | done | with_reducible rfl
          simp only [Act.put, List.setIfInBounds_toArray, List.set_cons_zero, List.set_cons_succ]
          refine sp_take 32 31 58 (u := ?v31_22) (by simp only [List.getElem?_toArray, List.getElem?_cons_succ, List.getElem?_cons_zero]; rfl) rfl (by decide +kernel) (by intro _ _ _ h; exact h) (by decide) (Or.inl ⟨by rfl, ?y31_22⟩) (sp_vac (by decide +kernel) (by decide +kernel) (by decide +kernel)) ?_
          case y31_22 =>
            intro W hT
            go_simp
            first | done | with_reducible rfl
          simp only [Act.put, List.setIfInBounds_toArray, List.set_cons_zero, List.set_cons_succ]
          refine AnyL.all (rs := [32]) (by decide +kernel) (by simp) ?_
          intro j hj
          simp only [List.mem_cons, List.not_mem_nil, or_false] at hj
          subst hj
          refine wpOp_step (i := 32) (by simp only [List.getElem?_toArray, List.getElem?_cons_succ, List.getElem?_cons_zero]; rfl) (fun K hK => ?_)
          rw [if_pos (by rfl)]
          go_simp
          refine hK _ _ ⟨(sp_vac (by decide +kernel) (by decide +kernel) (by decide +kernel)), ?_⟩
          clear hK K
          refine AnyL.done (by decide +kernel) ?_ _
          have HON := Lib.hid (only_three w104 y (.slice A1 (N + 1) e1) (.slice A2 (N + 1) e2) (.slice A3 (N + 1) e3))
          clear c0 c1 c2 c3 f1 f2 f3
          generalize ((w104.setCell ⟨y, 1, none⟩ (.slice A1 (N + 1) e1)).setCell ⟨y, 2, none⟩ (.slice A2 (N + 1) e2)).setCell ⟨y, 3, none⟩ (.slice A3 (N + 1) e3) = wf at *
          have k1 : wf.cell? ⟨y, 1, none⟩ = some (.slice A1 (N + 1) e1) := HRF.out.read rfl
          go_wp2
          go_ret2
          exact rq_done HQ.out HNN.out HLN.out hn hn0 HRF.out HP.out H9.out HC9.out HON.out HYB.out (by omega)
      · refine wpOp_step (i := 16) (by simp only [List.getElem?_toArray, List.getElem?_cons_succ, List.getElem?_cons_zero]; rfl) (fun K hK => ?_)
        rw [if_pos (by rfl)]
        go_simp
        have hb := bl_alloc (Below.refl w95.heap.size w95) (.cells #[.int .i64 0] 3)
        replace HP := Lib.hid (HP.out.later hb)
        replace R22 := Lib.hid (R22.out.later hb)
        replace H9 := Lib.hid (text_later H9.out hb)
        have R16 := Lib.hid (Row.made w95 3 #[.int .i64 0])
        refine hK _ _ ⟨sp_row HP.out.row _, ?_⟩
        clear hK K hb
        try simp only [Act.put, List.setIfInBounds_toArray, List.set_cons_zero, List.set_cons_succ]
        generalize w95.alloc (.cells #[.int .i64 0] 3) = w105 at *
        generalize w95.heap.size = g16 at *
        refine AnyL.all (rs := [10]) (by decide +kernel) (by simp) ?_
        intro j hj
        simp only [List.mem_cons, List.not_mem_nil, or_false] at hj
        subst hj
        refine wpOp_step (i := 10) (by simp only [List.getElem?_toArray, List.getElem?_cons_succ, List.getElem?_cons_zero]; rfl) (fun K hK => ?_)
        rw [if_pos (by rfl)]
        go_simp
        have hb := bl_alloc (Below.refl w105.heap.size w105) (.cells #[.slice (some ⟨g9, 0, none⟩) n cap9] 38)
        replace HP := Lib.hid (HP.out.later hb)
        replace R16 := Lib.hid (R16.out.later hb)
        replace R22 := Lib.hid (R22.out.later hb)
        replace H9 := Lib.hid (text_later H9.out hb)
        have R10 := Lib.hid (Row.made w105 38 #[.slice (some ⟨g9, 0, none⟩) n cap9])
        refine hK _ _ ⟨sp_row HP.out.row _, ?_⟩
        clear hK K hb
        try simp only [Act.put, List.setIfInBounds_toArray, List.set_cons_zero, List.set_cons_succ]
        generalize w105.alloc (.cells #[.slice (some ⟨g9, 0, none⟩) n cap9] 38) = w106 at *
        generalize w105.heap.size = g10 at *
        refine AnyL.all (rs := [11]) (by decide +kernel) (by simp) ?_
        intro j hj
        simp only [List.mem_cons, List.not_mem_nil, or_false] at hj
        subst hj
        refine wpOp_step (i := 11) (by simp only [List.getElem?_toArray, List.getElem?_cons_succ, List.getElem?_cons_zero]; rfl) (fun K hK => ?_)
        refine step_l rfl rfl rfl (by rfl) (by rfl) HP.out R10.out (by omega) ?_
        intro A1 e1 w107 hp o2
        replace HP := Lib.hid hp
        replace H9 := Lib.hid (text_kr H9.out o2 (by decide))
        replace R16 := Lib.hid (o2.rows _ _ _ R16.out (by decide))
        replace R22 := Lib.hid (o2.rows _ _ _ R22.out (by decide))
        refine hK _ _ ⟨sp_row HP.out.row _, ?_⟩
        clear hK K hp o2 R10
        try simp only [Act.put, List.setIfInBounds_toArray, List.set_cons_zero, List.set_cons_succ]
        refine AnyL.all (rs := [17]) (by decide +kernel) (by simp) ?_
        intro j hj
        simp only [List.mem_cons, List.not_mem_nil, or_false] at hj
        subst hj
        refine wpOp_step (i := 17) (by simp only [List.getElem?_toArray, List.getElem?_cons_succ, List.getElem?_cons_zero]; rfl) (fun K hK => ?_)
        refine step_t rfl rfl rfl (by rfl) (by rfl) HP.out R16.out (by omega) ?_
        intro A2 e2 w108 hp o2
        replace HP := Lib.hid hp
        replace H9 := Lib.hid (text_kr H9.out o2 (by decide))
        replace R22 := Lib.hid (o2.rows _ _ _ R22.out (by decide))
        refine hK _ _ ⟨sp_row HP.out.row _, ?_⟩
        clear hK K hp o2 R16
        try simp only [Act.put, List.setIfInBounds_toArray, List.set_cons_zero, List.set_cons_succ]
        refine AnyL.all (rs := [23]) (by decide +kernel) (by simp) ?_
        intro j hj
        simp only [List.mem_cons, List.not_mem_nil, or_false] at hj
        subst hj
        refine wpOp_step (i := 23) (by simp only [List.getElem?_toArray, List.getElem?_cons_succ, List.getElem?_cons_zero]; rfl) (fun K hK => ?_)
        refine step_g rfl rfl rfl (by rfl) (by rfl) HP.out R22.out (by omega) ?_
        intro A3 e3 w109 hp o2
        replace HP := Lib.hid hp
        replace H9 := Lib.hid (text_kr H9.out o2 (by decide))
        refine hK _ _ ⟨sp_row HP.out.row _, ?_⟩
        clear hK K hp o2 R22
        try simp only [Act.put, List.setIfInBounds_toArray, List.set_cons_zero, List.set_cons_succ]
        obtain ⟨c0, c1, c2, c3⟩ := qcells HP.out.row
        have f1 := HP.out.row.free 1
        have f2 := HP.out.row.free 2
        have f3 := HP.out.row.free 3
        have HRF := Lib.hid (((HP.out.row.written 1 (.slice A1 (N + 1) e1)).written 2 (.slice A2 (N + 1) e2)).written 3 (.slice A3 (N + 1) e3))
        refine sp_take 25 24 53 (u := ?v24_23) (by simp only [List.getElem?_toArray, List.getElem?_cons_succ, List.getElem?_cons_zero]; rfl) rfl (by decide +kernel) (by intro _ _ _ h; exact h) (by decide) (Or.inl ⟨by rfl, ?y24_23⟩) (sp_vac (by decide +kernel) (by decide +kernel) (by decide +kernel)) ?_
        case y24_23 =>
          intro W hT
          go_simp
          first | done | with_reducible rfl
        simp only [Act.put, List.setIfInBounds_toArray, List.set_cons_zero, List.set_cons_succ]
        refine sp_take 26 25 54 (u := ?v25_23) (by simp only [List.getElem?_toArray, List.getElem?_cons_succ, List.getElem?_cons_zero]; rfl) rfl (by decide +kernel) (by intro _ _ _ h; exact h) (by decide) (Or.inl ⟨by rfl, ?y25_23⟩) (sp_vac (by decide +kernel) (by decide +kernel) (by decide +kernel)) ?_
        case y25_23 =>
          intro W hT
          go_simp
          first | done | with_reducible rfl
        simp only [Act.put, List.setIfInBounds_toArray, List.set_cons_zero, List.set_cons_succ]
        refine AnyL.all (rs := [26]) (by decide +kernel) (by simp) ?_
        intro j hj
        simp only [List.mem_cons, List.not_mem_nil, or_false] at hj
        subst hj
        refine wpOp_step (i := 26) (by simp only [List.getElem?_toArray, List.getElem?_cons_succ, List.getElem?_cons_zero]; rfl) (fun K hK => ?_)
        rw [if_pos (by rfl)]
        go_simp
        refine hK _ _ ⟨(sp_vac (by decide +kernel) (by decide +kernel) (by decide +kernel)), ?_⟩
        clear hK K
        refine sp_take 28 27 55 (u := ?v27_23) (by simp only [List.getElem?_toArray, List.getElem?_cons_succ, List.getElem?_cons_zero]; rfl) rfl (by decide +kernel) (by intro _ _ _ h; exact h) (by decide) (Or.inl ⟨by rfl, ?y27_23⟩) (sp_vac (by decide +kernel) (by decide +kernel) (by decide +kernel)) ?_
        case y27_23 =>
          intro W hT
          go_simp
          first | done | with_reducible rfl
        simp only [Act.put, List.setIfInBounds_toArray, List.set_cons_zero, List.set_cons_succ]
        refine sp_take 29 28 56 (u := ?v28_23) (by simp only [List.getElem?_toArray, List.getElem?_cons_succ, List.getElem?_cons_zero]; rfl) rfl (by decide +kernel) (by intro _ _ _ h; exact h) (by decide) (Or.inl ⟨by rfl, ?y28_23⟩) (sp_vac (by decide +kernel) (by decide +kernel) (by decide +kernel)) ?_
        case y28_23 =>
          intro W hT
          go_simp
          first | done | with_reducible rfl
        simp only [Act.put, List.setIfInBounds_toArray, List.set_cons_zero, List.set_cons_succ]
        refine AnyL.all (rs := [29]) (by decide +kernel) (by simp) ?_
        intro j hj
        simp only [List.mem_cons, List.not_mem_nil, or_false] at hj
        subst hj
        refine wpOp_step (i := 29) (by simp only [List.getElem?_toArray, List.getElem?_cons_succ, List.getElem?_cons_zero]; rfl) (fun K hK => ?_)
        rw [if_pos (by rfl)]
        go_simp
        refine hK _ _ ⟨(sp_vac (by decide +kernel) (by decide +kernel) (by decide +kernel)), ?_⟩
        clear hK K
        refine sp_take 31 30 57 (u := ?v30_23) (by simp only [List.getElem?_toArray, List.getElem?_cons_succ, List.getElem?_cons_zero]; rfl) rfl (by decide +kernel) (by intro _ _ _ h; exact h) (by decide) (Or.inl ⟨by rfl, ?y30_23⟩) (sp_vac (by decide +kernel) (by decide +kernel) (by decide +kernel)) ?_
        case y30_23 =>
          intro W hT
          go_simp
          first | done | with_reducible rfl
        simp only [Act.put, List.setIfInBounds_toArray, List.set_cons_zero, List.set_cons_succ]
        refine sp_take 32 31 58 (u := ?v31_23) (by simp only [List.getElem?_toArray, List.getElem?_cons_succ, List.getElem?_cons_zero]; rfl) rfl (by decide +kernel) (by intro _ _ _ h; exact h) (by decide) (Or.inl ⟨by rfl, ?y31_23⟩) (sp_vac (by decide +kernel) (by decide +kernel) (by decide +kernel)) ?_
        case y31_23 =>
          intro W hT
          go_simp
          first | done | with_reducible rfl
        simp only [Act.put, List.setIfInBounds_toArray, List.set_cons_zero, List.set_cons_succ]
        refine AnyL.all (rs := [32]) (by decide +kernel) (by simp) ?_
        intro j hj
        simp only [List.mem_cons, List.not_mem_nil, or_false] at hj
        subst hj
        refine wpOp_step (i := 32) (by simp only [List.getElem?_toArray, List.getElem?_cons_succ, List.getElem?_cons_zero]; rfl) (fun K hK => ?_)
        rw [if_pos (by rfl)]
        go_simp
        refine hK _ _ ⟨(sp_vac (by decide +kernel) (by decide +kernel) (by decide +kernel)), ?_⟩
        clear hK K
        refine AnyL.done (by decide +kernel) ?_ _
        have HON := Lib.hid (only_three w109 y (.slice A1 (N + 1) e1) (.slice A2 (N + 1) e2) (.slice A3 (N + 1) e3))
        clear c0 c1 c2 c3 f1 f2 f3
        generalize ((w109.setCell ⟨y, 1, none⟩ (.slice A1 (N + 1) e1)).setCell ⟨y, 2, none⟩ (.slice A2 (N + 1) e2)).setCell ⟨y, 3, none⟩ (.slice A3 (N + 1) e3) = wf at *
        have k1 : wf.cell? ⟨y, 1, none⟩ = some (.slice A1 (N + 1) e1) := HRF.out.read rfl
        go_wp2
        go_ret2
        exact rq_done HQ.out HNN.out HLN.out hn hn0 HRF.out HP.out H9.out HC9.out HON.out HYB.out (by omega)
    · refine wpOp_step (i := 16) (by simp only [List.getElem?_toArray, List.getElem?_cons_succ, List.getElem?_cons_zero]; rfl) (fun K hK => ?_)
      rw [if_pos (by rfl)]
      go_simp
      have hb := bl_alloc (Below.refl w94.heap.size w94) (.cells #[.int .i64 0] 3)
      replace HP := Lib.hid (HP.out.later hb)
      replace R22 := Lib.hid (R22.out.later hb)
      replace HSRC := Lib.hid (HSRC.out.later hb)
      have R16 := Lib.hid (Row.made w94 3 #[.int .i64 0])
      refine hK _ _ ⟨sp_row HP.out.row _, ?_⟩
      clear hK K hb
      try simp only [Act.put, List.setIfInBounds_toArray, List.set_cons_zero, List.set_cons_succ]
      generalize w94.alloc (.cells #[.int .i64 0] 3) = w110 at *
      generalize w94.heap.size = g16 at *
      refine AnyL.all (rs := [9]) (by decide +kernel) (by simp) ?_
      intro j hj
      simp only [List.mem_cons, List.not_mem_nil, or_false] at hj
      subst hj
      refine wpOp_step (i := 9) (by simp only [List.getElem?_toArray, List.getElem?_cons_succ, List.getElem?_cons_zero]; rfl) (fun K hK => ?_)
      refine step_copy (A := A) (c := c) (n := n) (l := l) rfl (.tmp 36) (.tmp 37) rfl rfl (by rfl) (by rfl) HLN.out hn0 (by omega) HSRC.out ?_
      intro g9 cap9 w111 q1 q2 q3 q4 q5
      have HC9 := Lib.hid (HP.out.fresh q1 q2 q3)
      have H9 := Lib.hid q4
      replace HP := Lib.hid (HP.out.later q5)
      replace R16 := Lib.hid (R16.out.later q5)
      replace R22 := Lib.hid (R22.out.later q5)
      refine hK _ _ ⟨sp_row HP.out.row _, ?_⟩
      clear hK K q1 q2 q3 q4 q5 HSRC
      try simp only [Act.put, List.setIfInBounds_toArray, List.set_cons_zero, List.set_cons_succ]
      refine AnyL.all (rs := [10]) (by decide +kernel) (by simp) ?_
      intro j hj
      simp only [List.mem_cons, List.not_mem_nil, or_false] at hj
      subst hj
      refine wpOp_step (i := 10) (by simp only [List.getElem?_toArray, List.getElem?_cons_succ, List.getElem?_cons_zero]; rfl) (fun K hK => ?_)
      rw [if_pos (by rfl)]
      go_simp
      have hb := bl_alloc (Below.refl w111.heap.size w111) (.cells #[.slice (some ⟨g9, 0, none⟩) n cap9] 38)
      replace HP := Lib.hid (HP.out.later hb)
      replace R16 := Lib.hid (R16.out.later hb)
      replace R22 := Lib.hid (R22.out.later hb)
      replace H9 := Lib.hid (text_later H9.out hb)
      have R10 := Lib.hid (Row.made w111 38 #[.slice (some ⟨g9, 0, none⟩) n cap9])
      refine hK _ _ ⟨sp_row HP.out.row _, ?_⟩
      clear hK K hb
      try simp only [Act.put, List.setIfInBounds_toArray, List.set_cons_zero, List.set_cons_succ]
      generalize w111.alloc (.cells #[.slice (some ⟨g9, 0, none⟩) n cap9] 38) = w112 at *
      generalize w111.heap.size = g10 at *
      refine AnyL.all (rs := [11]) (by decide +kernel) (by simp) ?_
      intro j hj
      simp only [List.mem_cons, List.not_mem_nil, or_false] at hj
      subst hj
      refine wpOp_step (i := 11) (by simp only [List.getElem?_toArray, List.getElem?_cons_succ, List.getElem?_cons_zero]; rfl) (fun K hK => ?_)
      refine step_l rfl rfl rfl (by rfl) (by rfl) HP.out R10.out (by omega) ?_
      intro A1 e1 w113 hp o2
      replace HP := Lib.hid hp
      replace H9 := Lib.hid (text_kr H9.out o2 (by decide))
      replace R16 := Lib.hid (o2.rows _ _ _ R16.out (by decide))
      replace R22 := Lib.hid (o2.rows _ _ _ R22.out (by decide))
      refine hK _ _ ⟨sp_row HP.out.row _, ?_⟩
      clear hK K hp o2 R10
      try simp only [Act.put, List.setIfInBounds_toArray, List.set_cons_zero, List.set_cons_succ]
      refine AnyL.all (rs := [17]) (by decide +kernel) (by simp) ?_
      intro j hj
      simp only [List.mem_cons, List.not_mem_nil, or_false] at hj
      subst hj
      refine wpOp_step (i := 17) (by simp only [List.getElem?_toArray, List.getElem?_cons_succ, List.getElem?_cons_zero]; rfl) (fun K hK => ?_)
      refine step_t rfl rfl rfl (by rfl) (by rfl) HP.out R16.out (by omega) ?_
      intro A2 e2 w114 hp o2
      replace HP := Lib.hid hp
      replace H9 := Lib.hid (text_kr H9.out o2 (by decide))
      replace R22 := Lib.hid (o2.rows _ _ _ R22.out (by decide))
      refine hK _ _ ⟨sp_row HP.out.row _, ?_⟩
      clear hK K hp o2 R16
      try simp only [Act.put, List.setIfInBounds_toArray, List.set_cons_zero, List.set_cons_succ]
      refine AnyL.all (rs := [23]) (by decide +kernel) (by simp) ?_
      intro j hj
      simp only [List.mem_cons, List.not_mem_nil, or_false] at hj
      subst hj
      refine wpOp_step (i := 23) (by simp only [List.getElem?_toArray, List.getElem?_cons_succ, List.getElem?_cons_zero]; rfl) (fun K hK => ?_)
      refine step_g rfl rfl rfl (by rfl) (by rfl) HP.out R22.out (by omega) ?_
      intro A3 e3 w115 hp o2
      replace HP := Lib.hid hp
      replace H9 := Lib.hid (text_kr H9.out o2 (by decide))
      refine hK _ _ ⟨sp_row HP.out.row _, ?_⟩
      clear hK K hp o2 R22
      try simp only [Act.put, List.setIfInBounds_toArray, List.set_cons_zero, List.set_cons_succ]
      obtain ⟨c0, c1, c2, c3⟩ := qcells HP.out.row
      have f1 := HP.out.row.free 1
      have f2 := HP.out.row.free 2
      have f3 := HP.out.row.free 3
      have HRF := Lib.hid (((HP.out.row.written 1 (.slice A1 (N + 1) e1)).written 2 (.slice A2 (N + 1) e2)).written 3 (.slice A3 (N + 1) e3))
      refine sp_take 25 24 53 (u := ?v24_24) (by simp only [List.getElem?_toArray, List.getElem?_cons_succ, List.getElem?_cons_zero]; rfl) rfl (by decide +kernel) (by intro _ _ _ h; exact h) (by decide) (Or.inl ⟨by rfl, ?y24_24⟩) (sp_vac (by decide +kernel) (by decide +kernel) (by decide +kernel)) ?_
      case y24_24 =>
        intro W hT
        go_simp
        first | done | with_reducible rfl
      simp only [Act.put, List.setIfInBounds_toArray, List.set_cons_zero, List.set_cons_succ]
      refine sp_take 26 25 54 (u := ?v25_24) (by simp only [List.getElem?_toArray, List.getElem?_cons_succ, List.getElem?_cons_zero]; rfl) rfl (by decide +kernel) (by intro _ _ _ h; exact h) (by decide) (Or.inl ⟨by rfl, ?y25_24⟩) (sp_vac (by decide +kernel) (by decide +kernel) (by decide +kernel)) ?_
      case y25_24 =>
        intro W hT
        go_simp
        first | done | with_reducible rfl
      simp only [Act.put, List.setIfInBounds_toArray, List.set_cons_zero, List.set_cons_succ]
      refine AnyL.all (rs := [26]) (by decide +kernel) (by simp) ?_
      intro j hj
      simp only [List.mem_cons, List.not_mem_nil, or_false] at hj
      subst hj
      refine wpOp_step (i := 26) (by simp only [List.getElem?_toArray, List.getElem?_cons_succ, List.getElem?_cons_zero]; rfl) (fun K hK => ?_)
      rw [if_pos (by rfl)]
      go_simp
      refine hK _ _ ⟨(sp_vac (by decide +kernel) (by decide +kernel) (by decide +kernel)), ?_⟩
      clear hK K
      refine sp_take 28 27 55 (u := ?v27_24) (by simp only [List.getElem?_toArray, List.getElem?_cons_succ, List.getElem?_cons_zero]; rfl) rfl (by decide +kernel) (by intro _ _ _ h; exact h) (by decide) (Or.inl ⟨by rfl, ?y27_24⟩) (sp_vac (by decide +kernel) (by decide +kernel) (by decide +kernel)) ?_
      case y27_24 =>
        intro W hT
        go_simp
        first | done | with_reducible rfl
      simp only [Act.put, List.setIfInBounds_toArray, List.set_cons_zero, List.set_cons_succ]
      refine sp_take 29 28 56 (u := ?v28_24) (by simp only [List.getElem?_toArray, List.getElem?_cons_succ, List.getElem?_cons_zero]; rfl) rfl (by decide +kernel) (by intro _ _ _ h; exact h) (by decide) (Or.inl ⟨by rfl, ?y28_24⟩) (sp_vac (by decide +kernel) (by decide +kernel) (by decide +kernel)) ?_
      case y28_24 =>
        intro W hT
        go_simp
        first | done | with_reducible rfl
      simp only [Act.put, List.setIfInBounds_toArray, List.set_cons_zero, List.set_cons_succ]
      refine AnyL.all (rs := [29]) (by decide +kernel) (by simp) ?_
      intro j hj
      simp only [List.mem_cons, List.not_mem_nil, or_false] at hj
      subst hj
      refine wpOp_step (i := 29) (by simp only [List.getElem?_toArray, List.getElem?_cons_succ, List.getElem?_cons_zero]; rfl) (fun K hK => ?_)
      rw [if_pos (by rfl)]
      go_simp
      refine hK _ _ ⟨(sp_vac (by decide +kernel) (by decide +kernel) (by decide +kernel)), ?_⟩
      clear hK K
      refine sp_take 31 30 57 (u := ?v30_24) (by simp only [List.getElem?_toArray, List.getElem?_cons_succ, List.getElem?_cons_zero]; rfl) rfl (by decide +kernel) (by intro _ _ _ h; exact h) (by decide) (Or.inl ⟨by rfl, ?y30_24⟩) (sp_vac (by decide +kernel) (by decide +kernel) (by decide +kernel)) ?_
      case y30_24 =>
        intro W hT
        go_simp
        first | done | with_reducible rfl
      simp only [Act.put, List.setIfInBounds_toArray, List.set_cons_zero, List.set_cons_succ]
      refine sp_take 32 31 58 (u := ?v31_24) (by simp only [List.getElem?_toArray, List.getElem?_cons_succ, List.getElem?_cons_zero]; rfl) rfl (by decide +kernel) (by intro _ _ _ h; exact h) (by decide) (Or.inl ⟨by rfl, ?y31_24⟩) (sp_vac (by decide +kernel) (by decide +kernel) (by decide +kernel)) ?_
      case y31_24 =>
        intro W hT
        go_simp
        first | done | with_reducible rfl
      simp only [Act.put, List.setIfInBounds_toArray, List.set_cons_zero, List.set_cons_succ]
      refine AnyL.all (rs := [32]) (by decide +kernel) (by simp) ?_
      intro j hj
      simp only [List.mem_cons, List.not_mem_nil, or_false] at hj
      subst hj
      refine wpOp_step (i := 32) (by simp only [List.getElem?_toArray, List.getElem?_cons_succ, List.getElem?_cons_zero]; rfl) (fun K hK => ?_)
      rw [if_pos (by rfl)]
      go_simp
      refine hK _ _ ⟨(sp_vac (by decide +kernel) (by decide +kernel) (by decide +kernel)), ?_⟩
      clear hK K
      refine AnyL.done (by decide +kernel) ?_ _
      have HON := Lib.hid (only_three w115 y (.slice A1 (N + 1) e1) (.slice A2 (N + 1) e2) (.slice A3 (N + 1) e3))
      clear c0 c1 c2 c3 f1 f2 f3
      generalize ((w115.setCell ⟨y, 1, none⟩ (.slice A1 (N + 1) e1)).setCell ⟨y, 2, none⟩ (.slice A2 (N + 1) e2)).setCell ⟨y, 3, none⟩ (.slice A3 (N + 1) e3) = wf at *
      have k1 : wf.cell? ⟨y, 1, none⟩ = some (.slice A1 (N + 1) e1) := HRF.out.read rfl
      go_wp2
      go_ret2
      exact rq_done HQ.out HNN.out HLN.out hn hn0 HRF.out HP.out H9.out HC9.out HON.out HYB.out (by omega)
end
end Go.Proofs.Ytjonkpdjhjobfaa
