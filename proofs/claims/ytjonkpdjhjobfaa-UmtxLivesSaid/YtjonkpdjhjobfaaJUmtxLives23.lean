/-
  Both cutters beside one another: what is pushed, and built, at once. umtx: the sender and the document's one together: each call. What a sender of UM answers to fixed calls. The packet that bytes are, of 5 bits. The packet that bytes are, of 10 bits. What umd answers to fixed calls. Are fields too much for a statement?. Fields go there and back: plain lists. A packet of umd goes there and back: plain lists. Whether two packets of umd are equal, as the code and the document say. UmdBack: packets go there and back: what its calls answer. umtx: what is built is read again; what no config lets be. How many bytes a packet has: the document's answer. A packet's bytes: the document's answer. A packet's tail: the document's answer.
-/
import Derived.Test.YtjonkpdjhjobfaaJUmtxLives21
import Derived.Test.YtjonkpdjhjobfaaJUmtxLives22
import Derived.Test.YtjonkpdjhjobfaaJUmtxLives16
import Derived.Test.YtjonkpdjhjobfaaJUmtxLives13
import Derived.Test.YtjonkpdjhjobfaaJUmtxLives18
import Derived.Test.YtjonkpdjhjobfaaJUmtxLives10
import Derived.Test.YtjonkpdjhjobfaaJUmtxLives01
import Derived.Test.YtjonkpdjhjobfaaJUmtxLives05
import Derived.Test.YtjonkpdjhjobfaaJUmtxLives09
import Derived.StillTailTactics
namespace Go.Proofs.Ytjonkpdjhjobfaa
open Go.RowKit

section
variable {w v : World} {y B p : Nat} {ts : List Txt} {E : List Ent}
theorem QS.kr {X : TypeId → Prop} {R : Int} {last : Nat} (h : QS B p R w last ts) (hk : KR X B w v) (h1 : ¬ X 214) (h2 : ¬ X 217) (h3 : ¬ X 5) : QS B p R v last ts := h.with (h.q.kr hk h1 h2 h3)
theorem kr_q (hB : B ≤ w.heap.size) (ho : QOnly B w v) : KR XQ B w v := (ho.kr hB).weaker (fun t e => by unfold XQ; rcases e with e | e; exact .inl e; exact .inr (.inl e))
theorem kr_34 (hk : KR X34 B w v) : KR XQ B w v := hk.weaker (fun t e => by unfold X34 at e; unfold XQ; rcases e with e | e <;> simp [e])
theorem restT_tx {k : Nat} {n : Int} {ts' : List Txt} (h : RestT ts k n ts') : tx ts' = txR ts k n := by
  rcases h with ⟨h1, rfl⟩ | ⟨h1, t, t', h2, h3, h4, h5, rfl⟩
  · rw [txR_zero h1]
  · obtain ⟨q, rfl⟩ : ∃ q : Nat, n = q := ⟨n.toNat, by omega⟩
    rw [txR_some h2 (by omega)]
    show (t'.id, t'.bs, t'.bg) :: tx (ts.drop (k + 1)) = _
    rw [h3, h4, h5.1]
    simp
theorem newids_at {m : Nat} {D : Option Addr} {k c : Nat} {l : List Nat} (h : NewIds m w (.slice D k c) l) (hl : l.length = k) : SlAt 0 35 w D (u64v l) := by
  have h1 : w.ownsRow m 35 1 (.slice D k c) k (u64v l) := by
    unfold NewIds at h
    rw [hl] at h
    exact h
  intro hne
  obtain ⟨g, cs, e1, e2, e3, e4⟩ := own_at h1 hne
  exact ⟨g, cs, e1, Nat.zero_le _, e3, e4⟩
end
end Go.Proofs.Ytjonkpdjhjobfaa
namespace Go.Proofs.Ytjonkpdjhjobfaa
open Go.RowKit

section
variable {B p last : Nat} {R : Int} {w v : World} {ts : List Txt}
/-- whatever is pushed, the error told -/
def QPushed9 (B p last : Nat) (R : Int) (ts : List Txt) (l : List Nat) (w : World) (e : Ending) (w' : World) : Prop :=
  ∃ (nid : Nat) (er : Int), e = .returned (.tuple #[.int .u64 nid, .int .i64 er]) ∧ QOnly B w w' ∧
    ((er = 0 ∧ nid = last + 1 ∧ 0 < l.length ∧ l.length ≤ 1000 ∧ ts.length < 64 ∧ (bytesF ts : Int) + l.length ≤ R ∧ ∃ t : Txt, t.id = last + 1 ∧ t.bs = l ∧ (t.bg = false ∧ w.heap.size ≤ t.g) ∧ QS B p R w' (last + 1) (ts ++ [t])) ∨
     (er ≠ 0 ∧ nid = 0 ∧ QS B p R w' last ts ∧ er = (if l.length = 0 then 1 else if 1000 < l.length then 2 else 5) ∧ (l.length = 0 ∨ 1000 < l.length ∨ ts.length = 64 ∨ R < (bytesF ts : Int) + l.length)))
theorem QS.push9 (h : QS B p R w last ts) (A : Option Addr) (l : List Nat) (c : Nat) (hr : 0 < R) (hr2 : R ≤ 20000) (hll : l.length ≤ 9223372036854775807) (hlast : last ≤ 1000000000) (hb : ∀ b ∈ l, b < 256)
    (hsrc : ∀ W, QOnly B w W → QSrcB W A (qbts l)) :
    Calls Try.prog 82 #[.pointer (some ⟨p, 0, none⟩), .slice A l.length c] w (QPushed9 B p last R ts l w) := by
  refine (push_allg A l c h.q hr hr2 h.small h.many hll hlast hsrc).mono ?_
  rintro e w' ⟨nid, er, he, ho, ⟨h1, h2, h3, h4, h5, h6, t, k1, k2, k3, k35, k4⟩ | ⟨h1, h2, h3, h4, h5⟩⟩
  · refine ⟨nid, er, he, ho, .inl ⟨h1, h2, h3, h4, h5, h6, t, k1, k2, ⟨k3, k35⟩, k4, ?_, ?_, ?_, ?_, by simp; omega, by rw [bytesF_snoc, k2]; omega⟩⟩
    · rw [List.pairwise_append]
      refine ⟨h.up, List.pairwise_singleton _ _, fun a ha b hb' => ?_⟩
      rw [List.mem_singleton] at hb'
      subst hb'
      have := (h.ids a ha).2
      omega
    · intro y hy
      rw [List.mem_append, List.mem_singleton] at hy
      rcases hy with hy | rfl
      · have := h.ids y hy
        omega
      · omega
    · intro y hy
      rw [List.mem_append, List.mem_singleton] at hy
      rcases hy with hy | rfl
      · exact h.bytes y hy
      · rw [k2]
        exact ⟨h3, h4, hb⟩
    · intro y hy
      rcases ts with _ | ⟨a, r⟩
      · simp at hy
      · simp only [List.cons_append, List.drop_succ_cons, List.drop_zero, List.mem_append, List.mem_singleton] at hy
        rcases hy with hy | rfl
        · exact h.bg y (by simpa using hy)
        · exact k3
  · refine ⟨nid, er, he, ho, .inr ⟨h1, h2, h.with h3, h4, ?_⟩⟩
    rcases Nat.eq_zero_or_pos l.length with h9 | h9
    · exact .inl h9
    · rcases Nat.lt_or_ge 1000 l.length with h8 | h8
      · exact .inr (.inl h8)
      · exact .inr (.inr (h5 h9 h8))
end
/-- both senders, by one list -/
structure UB (W w : World) (x q ys y : Nat) (c : Cf) (sn wd : Nat) (ts : List Txt) (E : List Ent) : Prop where
  us : US W w x q c sn wd E.length ts
  rs : Row w ys 54 #[.pointer (some ⟨y, 0, none⟩), .int .i64 c.bits, .int .i64 sn]
  r : RQ w y W.heap.size c.qb E
  link : tx ts = live 0 E
  b8 : ∀ e ∈ E, ∀ b ∈ e.bs, b < 256
  hy : W.heap.size ≤ y
  hys : W.heap.size ≤ ys
def XU (t : TypeId) : Prop := XQ t ∨ t = 34 ∨ t = 54
/-- what the code's calls may change -/
def XS (t : TypeId) : Prop := XQ t ∨ t = 34
theorem XS.xu {t : TypeId} (h : XS t) : XU t := by rcases h with h | h; exact .inl h; exact .inr (.inl h)
theorem xs_no : ¬ XS 5 ∧ ¬ XS 56 ∧ ¬ XS 54 := by unfold XS XQ; decide
theorem xu_no : ¬ XU 5 ∧ ¬ XU 35 ∧ ¬ XU 56 ∧ ¬ XU 23 ∧ ¬ XU 58 := by unfold XU XQ; decide
section
variable {W w v u : World} {x q ys y sn wd : Nat} {c : Cf} {ts : List Txt} {E : List Ent}
theorem UB.hB (h : UB W w x q ys y c sn wd ts E) : W.heap.size ≤ w.heap.size := h.us.bl.size
theorem UB.later (h : UB W w x q ys y c sn wd ts E) (hb : Below w.heap.size w v) : UB W v x q ys y c sn wd ts E := ⟨h.us.later hb, h.rs.later hb, h.r.later hb, h.link, h.b8, h.hy, h.hys⟩
theorem kr_xu (hk : KR X34 W.heap.size w v) : KR XU W.heap.size w v := (kr_34 hk).weaker (fun _ e => .inl e)
theorem kr_xq (hk : KR XQ W.heap.size w v) : KR XU W.heap.size w v := hk.weaker (fun _ e => .inl e)
theorem UB.kru (h : UB W w x q ys y c sn wd ts E) (ho : UOnly W.heap.size x w v) : KR XS W.heap.size w v :=
  ⟨h.hB, ho.below h.hB h.us.hx, ho.size, fun g t cs hr hx => ho.row hr (fun e => hx (.inl (by unfold XQ; simp [e]))) (fun e => hx (.inl (by unfold XQ; simp [e]))) (fun e => by
    subst e
    exact hx (.inr (qlrow_same hr h.us.snd)))⟩
theorem kr_xs (hk : KR XQ W.heap.size w v) : KR XS W.heap.size w v := hk.weaker (fun _ e => .inl e)
theorem UB.byU (h : UB W w x q ys y c sn wd ts E) (ho : UOnly W.heap.size x w v) : RQ v y W.heap.size c.qb E ∧ Row v ys 54 #[.pointer (some ⟨y, 0, none⟩), .int .i64 c.bits, .int .i64 sn] := by
  obtain ⟨AL, cL, AT, cT, AG, cG, h1, _⟩ := h.r.row
  have hno : ∀ g t cs, Row w g t cs → t ≠ 214 → t ≠ 217 → t ≠ 34 → ¬ (QT W.heap.size w g ∨ g = x) := by
    rintro g t cs hr h1 h2 h3 (⟨_, t', cs', e1, e2⟩ | rfl)
    · have e := qlrow_same hr e1
      subst e
      rcases e2 with e2 | e2
      · exact h1 e2
      · exact h2 e2
    · exact h3 (qlrow_same hr h.us.snd)
  exact ⟨h.r.only ho (hno _ _ _ h1 (by decide) (by decide) (by decide)) (fun g t cs hr ht => by rcases ht with rfl | rfl | rfl | rfl <;> exact hno _ _ _ hr (by decide) (by decide) (by decide)), h.rs.only ho (hno _ _ _ h.rs (by decide) (by decide) (by decide))⟩
theorem US.krs {X : TypeId → Prop} {last : Nat} (h : US W w x q c sn wd last ts) (hk : KR X W.heap.size w v) (h1 : ¬ X 214) (h2 : ¬ X 217) (h3 : ¬ X 5) (h4 : ¬ X 34) : US W v x q c sn wd last ts :=
  { h with snd := hk.rows _ _ _ h.snd h4, qs := h.qs.kr hk h1 h2 h3, bl := h.bl.trans hk.below }
/-- what the document's queue's Push may change -/
def XP (t : TypeId) : Prop := t = 52 ∨ t = 38 ∨ t = 3 ∨ t = 4
theorem XP.xu {t : TypeId} (h : XP t) : XU t := by unfold XP at h; unfold XU XQ; rcases h with h | h | h | h <;> simp [h]
theorem xp_no : ¬ XP 214 ∧ ¬ XP 217 ∧ ¬ XP 5 ∧ ¬ XP 34 ∧ ¬ XP 54 := by unfold XP; decide
theorem ub_push (A : Option Addr) (l : List Nat) (k : Nat) (h : UB W w x q ys y c sn wd ts E) (hE : E.length ≤ 190) (hll : l.length ≤ 9223372036854775807) (hl8 : ∀ b ∈ l, b < 256) (hsrc : ∀ V, KR XU W.heap.size w V → QSrcB V A (qbts l)) :
    Calls Try.prog 12 #[.pointer (some ⟨x, 0, none⟩), .slice A l.length k] w fun e w1 => ∃ (nid er : Int), e = .returned (.tuple #[.int .u64 nid, .int .i64 er]) ∧ KR XS W.heap.size w w1 ∧
      ∀ u, Below w1.heap.size w1 u → Calls Try.prog 19 #[.pointer (some ⟨y, 0, none⟩), .slice A l.length k] u fun e w3 => e = .returned (.tuple #[.int .u64 nid, .int .i64 er]) ∧ KR XU W.heap.size u w3 ∧ ∃ ts' E', UB W w3 x q ys y c sn wd ts' E' ∧ E'.length ≤ E.length + 1 := by
  have hr := h.us.hr
  have hr2 := h.us.hr2
  have hsm := h.us.qs.small
  have hmn := h.us.qs.many
  have hby := byk_ts h.link
  have hids : (idk E E.length).length = ts.length := by rw [ids_live, ← h.link, List.length_map, tx_len]
  refine (via_upush (P := fun u a b w1 => ∃ nid : Nat, a = nid ∧ QPushed9 W.heap.size q E.length c.qb ts l u (.returned (.tuple #[.int .u64 nid, .int .i64 b])) w1) (usource_any h.us.snd) (fun u hbu => ?_)).mono ?_
  · have hkk : ∀ V, QOnly W.heap.size u V → KR XU W.heap.size w V := fun V ho => (KR.of_below h.hB hbu).trans (kr_xq (kr_q (Nat.le_trans h.hB hbu.size) ho))
    by_cases hok : 0 < l.length ∧ l.length ≤ 1000 ∧ ts.length < 64 ∧ (bytesF ts : Int) + l.length ≤ c.qb
    · refine ⟨((E.length + 1 : Nat) : Int), 0, ((h.us.qs.later hbu).push9 A l k (by omega) hr2 hll (by omega) hl8 (fun V ho => hsrc V (hkk V ho))).mono ?_⟩
      rintro e w1 ⟨nid, er, rfl, ho, ⟨rfl, rfl, hz⟩ | ⟨hne, rfl, hz, rfl, hw⟩⟩
      · exact ⟨rfl, _, rfl, _, _, rfl, ho, .inl ⟨rfl, rfl, hz⟩⟩
      · exfalso
        rcases hw with hw | hw | hw | hw <;> omega
    · refine ⟨0, (if l.length = 0 then 1 else if 1000 < l.length then 2 else 5), ((h.us.qs.later hbu).push9 A l k (by omega) hr2 hll (by omega) hl8 (fun V ho => hsrc V (hkk V ho))).mono ?_⟩
      rintro e w1 ⟨nid, er, rfl, ho, ⟨rfl, rfl, k1, k2, k3, k4, hz⟩ | ⟨hne, rfl, hz, rfl, hw⟩⟩
      · exact absurd ⟨k1, k2, k3, k4⟩ hok
      · exact ⟨rfl, 0, rfl, 0, _, rfl, ho, .inr ⟨hne, rfl, hz, rfl, hw⟩⟩
  · rintro e w1 ⟨u0, nid0, er0, rfl, hbu, nid, rfl, nid2, er2, e9, ho, hor⟩
    injection e9 with e9
    injection e9 with e9
    simp at e9
    obtain ⟨e91, rfl⟩ := e9
    have e91 : nid = nid2 := by omega
    subst e91
    have hoo : QOnly W.heap.size w w1 := (QOnly.of_below hbu).trans ho
    have hk1 : KR XS W.heap.size w w1 := kr_xs (kr_q h.hB hoo)
    obtain ⟨hr1, hrs1⟩ := h.byU (UOnly.of_q hoo)
    have hB1 := Nat.le_trans h.hB hoo.size
    refine ⟨_, _, rfl, hk1, fun u hb => ?_⟩
    have hru := hr1.later hb
    have hrsu := hrs1.later hb
    have hBu := Nat.le_trans hB1 hb.size
    have hsrcu := hsrc u ((hk1.weaker (fun _ e => e.xu)).trans (KR.of_below hB1 hb))
    rcases hor with ⟨rfl, rfl, k1, k2, k3, k4, t, t1, t2, t3, hq1⟩ | ⟨hne, rfl, hq1, rfl, hwhy⟩
    · refine (rq_push A l l.length k hru rfl k2 k1 (by omega) (by omega) hE h.hy hBu hsrcu).mono ?_
      rintro e w3 ⟨rfl, ⟨g, cap, hr3⟩, hk⟩
      have hkp : KR XP W.heap.size u w3 := hk.weaker (fun t e => by unfold XP; rcases e with e | e | e | e <;> simp [e])
      refine ⟨rfl, hkp.weaker (fun t e => e.xu), ts ++ [t], E ++ [⟨g, cap, l, 0, false⟩], ⟨?_, hkp.rows _ _ _ hrsu xp_no.2.2.2.2, hr3, ?_, b8_app h.b8 hl8, h.hy, h.hys⟩, by simp⟩
      · rw [List.length_append]
        have hus1 : US W w1 x q c sn wd (E.length + 1) (ts ++ [t]) := h.us.next (hoo.row h.us.snd (by decide) (by decide)) hq1 (UOnly.of_q hoo) h.us.hsn
        exact (hus1.later hb).krs hkp xp_no.1 xp_no.2.1 xp_no.2.2.1 xp_no.2.2.2.1
      · rw [live_snoc, ← h.link]
        unfold tx
        rw [List.map_append, List.map_singleton, t1, t2, t3.1, Nat.zero_add]
    · have hus1 : US W w1 x q c sn wd E.length ts := h.us.next (hoo.row h.us.snd (by decide) (by decide)) hq1 (UOnly.of_q hoo) h.us.hsn
      have hfin : ∀ w3, Below u.heap.size u w3 → KR XU W.heap.size u w3 ∧ ∃ ts' E', UB W w3 x q ys y c sn wd ts' E' ∧ E'.length ≤ E.length + 1 := fun w3 hb3 =>
        ⟨KR.of_below hBu hb3, ts, E, ⟨(hus1.later hb).later hb3, hrsu.later hb3, hru.later hb3, h.link, h.b8, h.hy, h.hys⟩, by omega⟩
      by_cases c0 : l.length = 0
      · rw [if_pos c0]
        rw [c0]
        refine (rq_push_arg A k u).mono ?_
        rintro e w3 ⟨rfl, hb3⟩
        exact ⟨rfl, hfin w3 hb3⟩
      · rw [if_neg c0]
        by_cases c1 : 1000 < l.length
        · rw [if_pos c1]
          refine (rq_push_long A l.length k u c1).mono ?_
          rintro e w3 ⟨rfl, hb3⟩
          exact ⟨rfl, hfin w3 hb3⟩
        · rw [if_neg c1]
          by_cases c2 : 64 ≤ ts.length
          · refine (rq_push_many A l.length k hru (by omega) (by omega) (by omega)).mono ?_
            rintro e w3 ⟨rfl, hb3⟩
            exact ⟨rfl, hfin w3 hb3⟩
          · refine (rq_push_full A l.length k hru (by omega) (by omega) (by omega) (by rcases hwhy with q | q | q | q <;> omega)).mono ?_
            rintro e w3 ⟨rfl, hb3⟩
            exact ⟨rfl, hfin w3 hb3⟩
theorem ub_disc (h : UB W w x q ys y c sn wd ts E) (n : Nat) (hn : n < 18446744073709551616) : Calls Try.prog 14 #[.pointer (some ⟨x, 0, none⟩), .int .u64 n] w fun e w1 => e = .returned (.int .i64 (discE n ts)) ∧ KR XS W.heap.size w w1 ∧
    ∀ u, Below w1.heap.size w1 u → Calls Try.prog 20 #[.pointer (some ⟨y, 0, none⟩), .int .u64 n] u fun e w3 => e = .returned (.int .i64 (discE n ts)) ∧ KR XU W.heap.size u w3 ∧ ∃ ts' E', UB W w3 x q ys y c sn wd ts' E' ∧ E'.length = E.length := by
  refine (h.us.disc n).mono ?_
  rintro e w1 ⟨rfl, hus1, ho1⟩
  obtain ⟨hr1, hrs1⟩ := h.byU (UOnly.of_q ho1)
  have hB1 := Nat.le_trans h.hB ho1.size
  refine ⟨rfl, kr_xs (kr_q h.hB ho1), fun u hb => ?_⟩
  have hru := hr1.later hb
  have hrsu := hrs1.later hb
  have hBu := Nat.le_trans hB1 hb.size
  have husu := hus1.later hb
  by_cases hx : ∀ e, atN E n = some e → e.gone = true
  · obtain ⟨a1, a2⟩ := disc_none h.link hx
    rw [a2] at husu
    rw [a1]
    refine (rq_discard_none n hn hru hx).mono ?_
    rintro e w3 ⟨rfl, hb3⟩
    exact ⟨rfl, KR.of_below hBu hb3, ts, E, ⟨husu.later hb3, hrsu.later hb3, hru.later hb3, h.link, h.b8, h.hy, h.hys⟩, rfl⟩
  · obtain ⟨e, hx⟩ := Classical.not_forall.1 hx
    obtain ⟨he, hg⟩ := Classical.not_imp.1 hx
    have hg : e.gone = false := by simpa using hg
    have hn1 : 1 ≤ n := by
      rcases Nat.eq_zero_or_pos n with q | q
      · subst q; unfold atN at he; rw [if_pos rfl] at he; cases he
      · exact q
    unfold atN at he
    rw [if_neg (by omega)] at he
    obtain ⟨a1, a2⟩ := disc_some h.link hn1 he hg
    by_cases h0 : 0 < e.tk
    · rw [if_pos h0] at a1 a2
      rw [a1]
      refine (rq_discard_state n hru hn1 he hg h0).mono ?_
      rintro e3 w3 ⟨rfl, hb3⟩
      have hF : discF n ts = ts := by
        unfold discE at a1
        unfold discF
        split at a1
        · cases a1
        · rename_i t ht
          split at a1
          · rename_i hb
            rw [if_pos hb]
          · cases a1
      rw [hF] at husu
      exact ⟨rfl, KR.of_below hBu hb3, ts, E, ⟨husu.later hb3, hrsu.later hb3, hru.later hb3, h.link, h.b8, h.hy, h.hys⟩, rfl⟩
    · rw [if_neg h0] at a1 a2
      rw [a1]
      refine (rq_discard n hru hn1 he hg (by omega)).mono ?_
      rintro e3 w3 ⟨rfl, hr3, ho3⟩
      have hk3 : KR X34 W.heap.size u w3 := KR.of34 ho3 hBu
      refine ⟨rfl, kr_xu hk3, discF n ts, E.set (n - 1) { e with tk := e.tk, gone := true }, ⟨?_, hk3.rows _ _ _ hrsu (by unfold X34; decide), hr3, ?_, b8_set h.b8 (h.b8 e (List.mem_of_getElem? he)), h.hy, h.hys⟩, by simp⟩
      · rw [List.length_set]
        exact husu.krs hk3 (by unfold X34; decide) (by unfold X34; decide) (by unfold X34; decide) (by unfold X34; decide)
      · rw [a2, live_erase hn1 he _ rfl]
theorem ub_bytes (h : UB W w x q ys y c sn wd ts E) : Calls Try.prog 15 #[.pointer (some ⟨x, 0, none⟩)] w fun e w1 => e = .returned (.int .i64 (bytesF ts : Nat)) ∧ Below w.heap.size w w1 ∧
    ∀ u, Below w1.heap.size w1 u → Calls Try.prog 25 #[.pointer (some ⟨y, 0, none⟩)] u fun e w3 => e = .returned (.int .i64 (bytesF ts : Nat)) ∧ Below u.heap.size u w3 := by
  refine h.us.bytes.mono ?_
  rintro e w1 ⟨rfl, hb1⟩
  refine ⟨rfl, hb1, fun u hb => ?_⟩
  have h1 := rq_bytes ((h.r.later hb1).later hb)
  rw [byk_ts h.link] at h1
  exact h1
end
end Go.Proofs.Ytjonkpdjhjobfaa
namespace Go.Proofs.Ytjonkpdjhjobfaa
open Go.RowKit

section
variable {W w v : World} {x q B : Nat} {c : Cf} {sn wd last : Nat} {ts : List Txt}
theorem OwnY.u {y : Value} {l : List Nat} {cs : Array Value} (h : OwnY B w y l) (hx : Row w x 34 cs) {D : Nat} (ho : UOnly D x w v) : OwnY B v y l := h.only ho (fun k hk hq => by
  rcases hq with ⟨_, t, cs', h1, h2⟩ | hq
  · exact own_apart h h1 (by rintro rfl; rcases h2 with h2 | h2 <;> exact absurd h2 (by decide)) hk
  · subst hq
    exact own_apart h hx (by decide) hk)
theorem US.push_const (h : US W w x q c sn wd last ts) (l : List Nat) (n : Nat) (fr : Nat × Nat) (hn : l.length = n) (hlast : last ≤ 1000000) (h0 : 0 < n) (h1 : n ≤ 1000) (hm : ts.length < 64) (hf : (bytesF ts : Int) + n ≤ c.qb) (hb : ∀ b ∈ l, b < 256) :
    Calls Try.prog 12 #[.pointer (some ⟨x, 0, none⟩), .slice (some ⟨w.heap.size, 0, none⟩) n n] (w.alloc (.cells (bts l).toArray 5 fr)) fun e w' => e = .returned (.tuple #[.int .u64 (last + 1 : Nat), .int .i64 0]) ∧ ∃ t : Txt, t.id = last + 1 ∧ t.bs = l ∧ t.bg = false ∧ US W w' x q c sn wd (last + 1) (ts ++ [t]) := by
  have hbl := bl_alloc (Below.refl w.heap.size w) (.cells (bts l).toArray 5 fr)
  have h' := h.later hbl
  refine (upush_all (some ⟨w.heap.size, 0, none⟩) l n n hn h'.snd h'.qs (by have := h.hr; omega) h.hr2 (by omega) (by omega) hb (fun V V' hV hq => csrc_mark w l fr V' ((QOnly.of_below hV).trans hq))).mono ?_
  rintro e w' ⟨w1, hb1, nid, er, rfl, ho, ⟨rfl, h2, h3, h4, h5, h6, t, k1, k2, k3, k4⟩ | ⟨h2, h3, h4, h5⟩⟩
  · have hoo : QOnly W.heap.size _ w' := (QOnly.of_below hb1).trans ho
    subst h2
    exact ⟨rfl, t, k1, k2, k3.1, h'.next (hoo.row h'.snd (by decide) (by decide)) k4 (UOnly.of_q hoo) h.hsn⟩
  · exfalso
    rw [hn] at h5
    omega
theorem US.bld {g room : Int} {k : Nat} {n : Int} (h : US W w x q c sn wd last ts) (hg : min g 4000 - c.bits / 5 = room) (hb : Bld room 11 (lenT ts) k n) (hf : faultU g (bytesF ts : Nat) c.bits = 0) :
    Calls Try.prog 13 #[.pointer (some ⟨x, 0, none⟩), .int .i64 g] w fun e w' => ∃ (f : Nat) (ts' : List Txt) (D : Option Addr) (L : List RowB) (A : Option Addr) (m cp : Nat), e = .returned (.tuple #[.slice A m cp, .slice D k k, .int .i64 0]) ∧ fiT ts n = (f : Int) ∧ (umdBytes f sn L wd).length = m ∧ OwnY w.heap.size w' (.slice A m cp) (umdBytes f sn L wd) ∧ texts L = fieldsT (ts.map Txt.bs) k n ∧ RestT ts k n ts' ∧ US W w' x q c ((sn + 1) % 2 ^ wd) wd last ts' ∧ UOnly W.heap.size x w w' := by
  refine (h.build g hf).mono ?_
  rintro e w' ⟨k2, f, n2, ts', D, L, v, rfl, e2, e3, e4, e5, e6, e7, e8, e9, e10, e11, e12⟩
  rw [hg] at e7
  obtain ⟨rfl, rfl⟩ := e7.only hb (lenT_pos (fun t ht => (h.qs.bytes t ht).1))
  obtain ⟨A, cp, rfl, _⟩ := e3.form
  exact ⟨f, ts', D, L, A, _, cp, rfl, e2, rfl, e3, e6, e8, e10, e12⟩
end
theorem ub1 : Bld 1 11 [2] 0 1 := ⟨by decide, fun i l hi hl => by omega, by decide, by decide⟩
theorem ub2 : Bld 1 11 [1] 1 (-2) := ⟨by decide, fun i l hi hl => by
  match i, hi, hl with
  | 0, _, hl => simp at hl; subst hl; decide, by decide, by decide⟩
def us5 : Cf := ⟨1, 5, 16, 4, 0, 0, 0, 0, 0, 5000⟩
theorem one_text {L : List RowB} {a : Nat} (h : texts L = [[a]]) : lens L = [1] ∧ flat L = [a] ∧ L.length = 1 := by
  refine ⟨by rw [lens_texts, h]; rfl, by unfold flat; rw [h]; rfl, ?_⟩
  have := congrArg List.length h
  simpa [texts] using this
theorem ubytes1 {L : List RowB} (h : texts L = [[97]]) : umdBytes 1 0 L 5 = [64, 97] := by
  obtain ⟨h1, h2, h3⟩ := one_text h
  unfold umdBytes
  rw [h1, h2, h3]
  decide +kernel
theorem ubytes2 {L : List RowB} (h : texts L = [[98]]) : umdBytes 2 1 L 5 = [129, 98] := by
  obtain ⟨h1, h2, h3⟩ := one_text h
  unfold umdBytes
  rw [h1, h2, h3]
  decide +kernel
section
variable {W w v : World} {x q B : Nat} {t : Txt}
theorem ual_b1 (h : US W w x q us5 0 5 1 [t]) (hb : t.bs = [97, 98]) (hg : t.bg = false) : Calls Try.prog 13 #[.pointer (some ⟨x, 0, none⟩), .int .i64 2] w fun e w' => ∃ (D A : Option Addr) (cp : Nat) (t' : Txt), e = .returned (.tuple #[.slice A 2 cp, .slice D 0 0, .int .i64 0]) ∧ OwnY w.heap.size w' (.slice A 2 cp) [64, 97] ∧ t'.bs = [98] ∧ t'.bg = true ∧ US W w' x q us5 1 5 1 [t'] := by
  refine (h.bld (g := 2) (room := 1) (k := 0) (n := 1) (by decide) (by rw [show lenT [t] = [2] by simp [lenT, hb]]; exact ub1) (by simp [bytesF, hb]; decide)).mono ?_
  rintro e w' ⟨f, ts', D, L, A, m, cp, rfl, e2, e3, e4, e5, e6, e7, e8⟩
  have hf : f = 1 := by
    rw [fiT_pos (ts := [t]) (b := false) (n := 1) hg (by omega)] at e2
    simp at e2
    omega
  subst hf
  have hbb := ubytes1 (L := L) (by rw [e5]; simp [fieldsT, hb])
  rw [hbb] at e3 e4
  simp at e3
  subst e3
  rcases e6 with ⟨h9, _⟩ | ⟨_, t0, t', k1, k2, k3, k4, k5⟩
  · omega
  · simp at k1
    subst k1
    simp at k5
    subst k5
    exact ⟨D, A, cp, t', rfl, e4, by rw [k3, hb]; rfl, k4.1, e7⟩
theorem ual_b2 (h : US W w x q us5 1 5 1 [t]) (hb : t.bs = [98]) (hg : t.bg = true) : Calls Try.prog 13 #[.pointer (some ⟨x, 0, none⟩), .int .i64 2] w fun e w' => ∃ (D A : Option Addr) (cp : Nat), e = .returned (.tuple #[.slice A 2 cp, .slice D 1 1, .int .i64 0]) ∧ OwnY w.heap.size w' (.slice A 2 cp) [129, 98] ∧ US W w' x q us5 2 5 1 [] ∧ UOnly W.heap.size x w w' := by
  refine (h.bld (g := 2) (room := 1) (k := 1) (n := -2) (by decide) (by rw [show lenT [t] = [1] by simp [lenT, hb]]; exact ub2) (by simp [bytesF, hb]; decide)).mono ?_
  rintro e w' ⟨f, ts', D, L, A, m, cp, rfl, e2, e3, e4, e5, e6, e7, e8⟩
  have hf : f = 2 := by
    rw [fiT_zero (ts := [t]) (b := true) (n := -2) hg (by omega)] at e2
    simp at e2
    omega
  subst hf
  have hbb := ubytes2 (L := L) (by rw [e5]; simp [fieldsT, hb])
  rw [hbb] at e3 e4
  simp at e3
  subst e3
  rcases e6 with ⟨_, h9⟩ | ⟨h9, _⟩
  · simp at h9
    subst h9
    exact ⟨D, A, cp, rfl, e4, e7, e8⟩
  · omega
theorem ual_b3 (h : US W w x q us5 2 5 1 []) : Calls Try.prog 13 #[.pointer (some ⟨x, 0, none⟩), .int .i64 2] w fun e w' => e = .returned (.tuple #[.slice none 0 0, .slice none 0 0, .int .i64 4]) ∧ Below w.heap.size w w' ∧ US W w' x q us5 2 5 1 [] :=
  (ubuild_bad 2 h.snd h.qs.q (by decide) h.bits (by simp [bytesF]) (by decide)).mono fun _ _ ⟨h1, h2⟩ => ⟨h1, h2, h.later h2⟩
theorem ual_p (h : US W w x q us5 0 5 0 []) : Calls Try.prog 12 #[.pointer (some ⟨x, 0, none⟩), .slice (some ⟨w.heap.size, 0, none⟩) 2 2] (w.alloc (.cells #[.int .u8 97, .int .u8 98] 5 (2, 3))) fun e w' => e = .returned (.tuple #[.int .u64 1, .int .i64 0]) ∧ ∃ t : Txt, t.id = 1 ∧ t.bs = [97, 98] ∧ t.bg = false ∧ US W w' x q us5 0 5 1 [t] :=
  h.push_const [97, 98] 2 (2, 3) rfl (by omega) (by omega) (by omega) (by simp) (by decide) (by simp)
theorem us5_any (w : World) : Calls Try.prog 91 #[.int .i64 1] w fun e w' => e = .returned (.agg us5.a) ∧ Below w.heap.size w w' := pusual_any 1 w
set_option maxRecDepth 100000 in
set_option maxHeartbeats 3200000 in
theorem ualive_any (w : World) : Calls Try.prog 18 #[] w fun e w' => e = .returned (.bool true) ∧ Below w.heap.size w w' := by
  have kc := fun w => Lib.run_convert_bytes_const (P := Try.prog) w 38 5 #[.int .u8 97, .int .u8 98] 2 2 Try.underlying38 Try.underlying5
  have HU := Lib.hid us5_any
  have HN := Lib.hid (fun w => us_new us5 w (by decide +kernel) rfl)
  generalize us5.a = u5 at *
  go_enter Try.func18, Try.ntmps18
  go_wp2_with (first
    | (go_at_call 91; (with_reducible refine (HU.out _).mono ?_); rintro e w1 ⟨rfl, hb1⟩; (have HB1 := Lib.hid hb1; clear hb1))
    | (go_at_call 10; (with_reducible refine (HN.out _).mono ?_); rintro e w2 ⟨x, q, wd, rfl, h2⟩; (obtain rfl : wd = 5 := (by have h9 := h2.hcb; have h8 : us5.bits = 5 := rfl; omega); have H2 := Lib.hid h2; have HPU := Lib.hid (ual_p h2); clear h2))
    | (go_at_call 12; (with_reducible refine HPU.out.mono ?_); rintro e w3 ⟨rfl, t, ht1, ht2, ht3, h3⟩; (have HP1 := Lib.hid (ual_b1 h3 ht2 ht3); clear ht1 ht2 ht3 h3))
    | (go_at_call 13; (with_reducible refine HP1.out.mono ?_); rintro e w4 ⟨D4, A4, c4, t4, rfl, ho4, ht4, hg4, h4⟩; (have HO4 := Lib.hid ho4; have H4 := Lib.hid h4; have HP2 := Lib.hid (ual_b2 h4 ht4 hg4); clear ho4 ht4 hg4 h4))
    | (go_at_call 13; (with_reducible refine HP2.out.mono ?_); rintro e w5 ⟨D5, A5, c5, rfl, ho5, h5, hu5⟩; (have HO45 := Lib.hid (HO4.out.u H4.out.snd hu5); have HO5 := Lib.hid ho5; have HP3 := Lib.hid (ual_b3 h5); clear ho5 h5 hu5))
    | (go_at_call 13; (with_reducible refine HP3.out.mono ?_); rintro e w6 ⟨rfl, hb6, h6⟩; (have cv5 := (HO45.out.later hb6).conv (by simp); have cv6 := (HO5.out.later hb6).conv (by simp); have z2 : strOf [64, 97] = ⟨#[64, 97]⟩ := rfl; have z3 : strOf [129, 98] = ⟨#[129, 98]⟩ := rfl; rw [z2] at cv5; rw [z3] at cv6; have H6 := Lib.hid h6; have HNX := Lib.hid h6.nx; clear z2 z3 h6 hb6))
    | (go_at_call 16; (with_reducible refine HNX.out.mono ?_); rintro e w7 ⟨rfl, rfl⟩))
  go_ret
  exact ⟨rfl, bl_step HB1.out H6.out.bl⟩
end
end Go.Proofs.Ytjonkpdjhjobfaa
namespace Go.Proofs.Ytjonkpdjhjobfaa
open Go.RowKit


end Go.Proofs.Ytjonkpdjhjobfaa
namespace Go.Proofs.Ytjonkpdjhjobfaa
open Go.RowKit


end Go.Proofs.Ytjonkpdjhjobfaa
namespace Go.Proofs.Ytjonkpdjhjobfaa
open Go.RowKit


end Go.Proofs.Ytjonkpdjhjobfaa
namespace Go.Proofs.Ytjonkpdjhjobfaa
open Go.RowKit


end Go.Proofs.Ytjonkpdjhjobfaa
namespace Go.Proofs.Ytjonkpdjhjobfaa


end Go.Proofs.Ytjonkpdjhjobfaa
namespace Go.Proofs.Ytjonkpdjhjobfaa
open Go.RowKit


end Go.Proofs.Ytjonkpdjhjobfaa
namespace Go.Proofs.Ytjonkpdjhjobfaa
open Go.RowKit
end Go.Proofs.Ytjonkpdjhjobfaa
namespace Go.Proofs.Ytjonkpdjhjobfaa
open Go.RowKit


end Go.Proofs.Ytjonkpdjhjobfaa
namespace Go.Proofs.Ytjonkpdjhjobfaa
open Go.RowKit

theorem ub_small {L : List RowB} (h : ∀ t ∈ texts L, ∀ b ∈ t, b < 256) (fi sn wd : Nat) : ∀ b ∈ umdBytes fi sn L wd, b < 256 := by
  intro b hb
  unfold umdBytes at hb
  rw [List.mem_append, List.mem_append] at hb
  rcases hb with (hb | hb) | hb
  · exact pack_small _ b hb
  · exact tail_small _ _ b hb
  · unfold flat at hb
    rw [List.mem_flatten] at hb
    obtain ⟨l, hl, hb⟩ := hb
    exact h l hl b hb
theorem fieldsT_small {ts : List Txt} {k : Nat} {n : Int} (h : ∀ t ∈ ts, ∀ b ∈ t.bs, b < 256) : ∀ t ∈ fieldsT (ts.map Txt.bs) k n, ∀ b ∈ t, b < 256 := by
  intro t ht b hb
  unfold fieldsT at ht
  rw [List.mem_append] at ht
  rcases ht with ht | ht
  · obtain ⟨y, hy, rfl⟩ := List.mem_map.1 (List.mem_of_mem_take ht)
    exact h y hy b hb
  · split at ht
    · cases ht
    · rw [List.mem_singleton] at ht
      subst ht
      have hb2 := List.mem_of_mem_take hb
      rw [List.getD_eq_getElem?_getD] at hb2
      cases hk : (ts.map Txt.bs)[k]? with
      | none => rw [hk] at hb2; cases hb2
      | some y =>
        rw [hk] at hb2
        obtain ⟨z, hz, rfl⟩ := List.mem_map.1 (List.mem_of_getElem? hk)
        exact h z hz b hb2
end Go.Proofs.Ytjonkpdjhjobfaa
namespace Go.Proofs.Ytjonkpdjhjobfaa
open Go.RowKit


end Go.Proofs.Ytjonkpdjhjobfaa
namespace Go.Proofs.Ytjonkpdjhjobfaa
open Go.RowKit
/-- the lengths of all but the last, in a list of the call's own -/
theorem insN_take_succ {ls : List Nat} {k m : Nat} (h : ls[k]? = some m) : insN (ls.take (k + 1)) = insN (ls.take k) ++ [.int .i64 m] := by
  obtain ⟨hk, rfl⟩ := List.getElem?_eq_some_iff.1 h
  rw [List.take_succ_eq_append_getElem hk]
  simp only [insN, List.map_append, List.map_cons, List.map_nil]
theorem rlens_write {A : Option Addr} {l : List Nat} (wd n cap : Nat) (wi : Int) (w : World) (h : wd = 11 ∨ wd = 15) (e : wi = wd) (hn : l.length = n) (h0 : 1 ≤ n) (h23 : n ≤ 23) (hl : ∀ x ∈ l, 1 ≤ x ∧ x < 2048) (hs : Src w A (insN l)) :
    Calls Try.prog 174 #[.slice A n cap, .int .i64 wi] w fun e w' => ∃ (A' : Option Addr) (c' k : Nat), e = .returned (.tuple #[.slice A' k c', .int .i64 0]) ∧ k = (pack (wbl wd l)).length ∧ OwnY w.heap.size w' (.slice A' k c') (pack (wbl wd l)) ∧ Below w.heap.size w w' := by
  subst e
  have hf : ∀ q : Nat, (q = 11 ∨ q = 15) → faultF (l.map (fun n : Nat => (n : Int))) q = 0 := fun q hq => by
    unfold faultF
    rw [List.length_map, hn, if_neg (by omega), if_neg (by omega), if_pos]
    rw [List.all_eq_true]
    intro x hx
    rw [List.mem_map] at hx
    obtain ⟨y, hy, rfl⟩ := hx
    have := hl y hy
    unfold mayL
    rw [decide_eq_true (by omega), decide_eq_true (by rcases hq with rfl | rfl <;> simp <;> omega)]
    rfl
  have hm : (l.map (fun n : Nat => (n : Int))).map Int.toNat = l := by
    rw [List.map_map]
    have : l.map (Int.toNat ∘ fun n : Nat => (n : Int)) = l.map id := List.map_congr_left fun x _ => by show ((x : Int)).toNat = x; omega
    rw [this, List.map_id]
  have hsi : Src w A (ins (l.map (fun n : Nat => (n : Int)))) := hs
  have fin : ∀ q : Nat, q = wd → ∀ e w', (((faultF (l.map (fun n : Nat => (n : Int))) q = 0 ∧ ∃ x, e = Ending.returned (.tuple #[x, .int .i64 0]) ∧ w'.ownsRow w.heap.size 5 1 x (packLen (n * (q + 1))) (bts (pack (wbl q ((l.map (fun n : Nat => (n : Int))).map Int.toNat))))) ∨ (faultF (l.map (fun n : Nat => (n : Int))) q ≠ 0 ∧ e = .returned (.tuple #[.slice none 0 0, .int .i64 (faultF (l.map (fun n : Nat => (n : Int))) q)]))) ∧ Below w.heap.size w w') → ∃ (A' : Option Addr) (c' k : Nat), e = .returned (.tuple #[.slice A' k c', .int .i64 0]) ∧ k = (pack (wbl wd l)).length ∧ OwnY w.heap.size w' (.slice A' k c') (pack (wbl wd l)) ∧ Below w.heap.size w w' := by
    rintro q rfl e w' ⟨h1 | h1, hb⟩
    · obtain ⟨_, x, rfl, ho⟩ := h1
      rw [hm] at ho
      have hpl : (pack (wbl q l)).length = packLen (n * (q + 1)) := by rw [length_pack, length_wbl, hn]
      have hoy : OwnY w.heap.size w' x (pack (wbl q l)) := by unfold OwnY; rw [hpl]; exact ho
      obtain ⟨A', c', rfl, _⟩ := hoy.form
      exact ⟨A', c', _, rfl, rfl, hoy, hb⟩
    · exact absurd (hf q h) h1.1
  rcases h with rfl | rfl
  · exact (refwrite_11 n cap w (by rw [List.length_map]; exact hn) (by unfold maxLen; omega) hsi).mono fun e w' h => fin 11 rfl e w' h
  · exact (refwrite_15 n cap w (by rw [List.length_map]; exact hn) (by unfold maxLen; omega) hsi).mono fun e w' h => fin 15 rfl e w' h

theorem app_bytes2 {B : Nat} {W : World} {A0 A : Option Addr} {c0 m c n : Nat} {l y : List Nat} (hv : OwnY B W (.slice A0 n c0) l) (hn : l.length = n) (hB : B ≤ W.heap.size) (hs : Src W A (bts y)) (hm : y.length = m) (hlm : n + m ≤ 1000000000) :
    ∃ A' c' W', (Builtin.append_ #[38, 38] 38 #[.slice A0 n c0, .slice A m c]).run Try.prog W = .ok (.slice A' (n + m) c') W' ∧ OwnY B W' (.slice A' (n + m) c') (l ++ y) ∧ (l ++ y).length = n + m ∧ Below B W W' := by
  obtain ⟨A', c', W', h1, h2, h3, _, _⟩ := app_bytes m c hv hB hs hm (by omega)
  rw [hn] at h1 h2
  exact ⟨A', c', W', h1, h2, by rw [List.length_append, hn, hm], h3⟩

end Go.Proofs.Ytjonkpdjhjobfaa
namespace Go.Proofs.Ytjonkpdjhjobfaa
open Go.RowKit


set_option maxRecDepth 100000 in
set_option maxHeartbeats 6400000 in
theorem rtail_any {A A0 : Option Addr} {L : List RowB} {l : List Nat} (B n cap n0 c0 wd : Nat) (wi : Int) (w : World) (hwd : wd = 11 ∨ wd = 15) (e : wi = wd) (hL : L.length = n) (h1 : 1 ≤ n) (h24 : n ≤ 24) (hok : okTo (lens L) (lens L).length = true) (hsum : (lens L).sum ≤ 9000)
    (hs : ∀ W, Below B w W → RSrc W A L) (hv : OwnY B w (.slice A0 n0 c0) l) (hn0 : l.length = n0) (hn1 : n0 ≤ 10) (hB : B ≤ w.heap.size) :
    Calls Try.prog 96 #[.slice A0 n0 c0, .slice A n cap, .int .i64 wi] w fun e w' => ∃ v', e = .returned v' ∧ OwnY B w' v' (l ++ tailF (lens L) wd ++ flat L) ∧ Below B w w' := by
  have hll : (lens L).length = n := by rw [length_lens, hL]
  have HS := Lib.hid hs
  have HL := Lib.hid hL
  have HLL := Lib.hid hll
  have HV := Lib.hid hv
  have HN0 := Lib.hid hn0
  have hpos := tail_lens hok
  rw [hll] at hpos
  have HW := Lib.hid (fun W Aq cq (h : 1 ≤ n - 1) (hs : Src W Aq (insN ((lens L).take (n - 1)))) => rlens_write wd (n - 1) cq wi W hwd e (by rw [List.length_take, hll]; omega) h (by omega) hpos hs)
  have HT1 := Lib.hid (fun (h : 1 < n) => (show tailF (lens L) wd = pack (wbl wd ((lens L).take (n - 1))) by unfold tailF; rw [hll, if_pos h]))
  have HT0 := Lib.hid (fun (h : ¬ 1 < n) => (show tailF (lens L) wd = [] by unfold tailF; rw [hll, if_neg h]))
  have HT46 := Lib.hid (show (tailF (lens L) wd).length ≤ 46 by
    have h9 := length_tail wd hwd (ls := lens L) (by omega) (by omega)
    have h8 := sizeF_nonneg (((lens L).length : Int) - 1) wd
    omega)
  have HSUM := Lib.hid hsum
  clear hs hL hll hv hn0 hpos hwd e hok hsum
  go_enter Try.func96, Try.ntmps96
  go_wp2
  go_loopw [7, 8] (fun qv iv wr => ∃ (k : Nat) (Aq : Option Addr) (cq : Nat), k + 1 ≤ n ∧ iv = .int .i64 k ∧ qv = .slice Aq k cq ∧ Hid (wr.ownsRow w.heap.size 3 1 (.slice Aq k cq) k (insN ((lens L).take k))) ∧ Hid (Below w.heap.size w wr)) (fun _ iv _ => n - (intOf iv).toNat)
  case atStart => exact ⟨0, none, 0, by omega, rfl, rfl, Lib.hid (World.ownsRow_nil _ _ _ _), Lib.hid (Below.refl _ _)⟩
  case round =>
    obtain ⟨k, Aq, cq, hk, rfl, rfl, HQ, HB⟩ := hrel
    by_cases hlt : k + 1 < n
    · have hlt' : (k : Int) + 1 < n := by omega
      obtain ⟨ad, rfl, hc⟩ := HS.out wr (HB.out.mono hB) (by rw [HL.out]; omega)
      obtain ⟨r, hr⟩ : ∃ r, L[k]? = some r := ⟨_, List.getElem?_eq_getElem (by rw [HL.out]; omega)⟩
      have hcell : wr.cell? (ad.add k) = some (.slice r.A r.bs.length r.cap) := (hc k r hr).1
      obtain ⟨g3, c3, w3, hr3, ho3, hon3⟩ := int_tail HQ.out HB.out.size (r.bs.length : Nat) (by omega)
      have HQ3 := Lib.hid (show w3.ownsRow w.heap.size 3 1 (.slice (some ⟨g3, 0, none⟩) (k + 1) c3) (k + 1) (insN ((lens L).take (k + 1))) by rw [insN_take_succ (lens_at hr)]; exact ho3)
      have HB3 := Lib.hid (HB.out.trans (own_only_below HQ.out hon3 HB.out.size))
      clear hc hr ho3 hon3
      generalize r.bs.length = len at *
      go_wp2_with (at_builtin; refine wpList_run rfl (.tmp 19) (.tmp 25) 49 rfl (.slice Aq k cq) (.slice (some ⟨wr.heap.size, 0, none⟩) 1 1) (by rfl) (by rfl) hr3 ?_)
      go_roundw
      case rel => exact ⟨k + 1, _, _, by omega, by go_num, rfl, HQ3, HB3⟩
      case measure => simp [intOf]; omega
    · have hlt' : ¬ (k : Int) + 1 < n := by omega
      have hkn : k = n - 1 := by omega
      by_cases hn1x : 1 < n
      · have hk0 : (0 : Int) < k := by omega
        obtain ⟨Aw, cw, hAw, hcw⟩ : ∃ (Aw : Option Addr) (cw : Nat), Aw = Aq ∧ cw = cq := ⟨_, _, rfl, rfl⟩
        have hsq : Src wr Aq (insN ((lens L).take (n - 1))) := by
          have h9 := HQ.out
          rw [hkn] at h9
          intro h0
          obtain ⟨g, cap', hv, _, _⟩ := h9.form (by omega)
          injection hv with hA _ _
          subst hA
          exact ⟨_, rfl, h9.cells (g := g) rfl⟩
        have HW1 := Lib.hid (HW.out wr Aq cq (by omega) hsq)
        rw [← hkn] at HW1
        have HT := Lib.hid (HT1.out hn1x)
        rw [← hkn] at HT
        clear hsq hAw hcw Aw cw hkn hlt hn1x HW HT1 HT0
        go_wp2_with (first
          | (go_at_call 174; refine HW1.out.mono ?_; rintro e w4 ⟨A4, c4, k4, rfl, hk4, ho4, hb4⟩
             obtain ⟨A5, c5, w5, hr5, ho5, hq5, hb5⟩ := app_bytes2 (m := k4) (c := c4) ((HV.out.later HB.out).later hb4) HN0.out (Nat.le_trans hB (Nat.le_trans HB.out.size hb4.size)) ho4.src hk4.symm (by have := HT46.out; rw [HT.out] at this; omega)
             have HO5 := Lib.hid (show OwnY B w5 (.slice A5 (n0 + k4) c5) (l ++ tailF (lens L) wd) by rw [HT.out]; exact ho5)
             have HQ5 := Lib.hid (show (l ++ tailF (lens L) wd).length = n0 + k4 by rw [HT.out]; exact hq5)
             have HB5 := Lib.hid (((HB.out.mono hB).trans (hb4.mono (Nat.le_trans hB HB.out.size))).trans hb5)
             have hk46 : k4 ≤ 46 := by have := HT46.out; rw [HT.out] at this; omega
             clear ho4 hb4 ho5 hq5 hb5 hk4)
          | (at_builtin; refine wpList_run rfl (.tmp 36) (.tmp 37) 38 rfl (.slice A0 n0 c0) (.slice A4 k4 c4) (by rfl) (by rfl) hr5 ?_))
        go_loopw [0, 11] (fun ov iv wr => ∃ (j : Nat) (Ao : Option Addr) (co q : Nat), j ≤ n ∧ iv = .int .i64 j ∧ ov = .slice Ao q co ∧ q ≤ 10000 ∧ Hid (OwnY B wr (.slice Ao q co) (l ++ tailF (lens L) wd ++ flatTo L j)) ∧ Hid ((l ++ tailF (lens L) wd ++ flatTo L j).length = q) ∧ Hid (Below B w wr)) (fun _ iv _ => n - (intOf iv).toNat)
        case atStart => exact ⟨0, _, _, n0 + k4, by omega, rfl, rfl, by omega, Lib.hid (by rw [flatTo_zero, List.append_nil]; exact HO5.out), Lib.hid (by rw [flatTo_zero, List.append_nil]; exact HQ5.out), HB5⟩
        case round =>
          obtain ⟨j, Ao, co, q, hj, rfl, rfl, hq, HO, HQQ, HBJ⟩ := hrel
          by_cases hjl : j < n
          · obtain ⟨ad, rfl, hc⟩ := HS.out _ HBJ.out (by rw [HL.out]; omega)
            obtain ⟨r, hr⟩ : ∃ r, L[j]? = some r := ⟨_, List.getElem?_eq_getElem (by rw [HL.out]; omega)⟩
            have hcell := (hc j r hr).1
            have hsu := sumTo_succ (lens_at hr)
            have hle := sumTo_le (lens L) (j + 1)
            have hlq := HQQ.out
            rw [List.length_append, List.length_append, length_flatTo, HN0.out] at hlq
            obtain ⟨A6, c6, w6, hr6, ho6, hq6, hb6⟩ := app_bytes2 (c := r.cap) HO.out HQQ.out (Nat.le_trans hB HBJ.out.size) (hc j r hr).2.1 rfl (by have := HSUM.out; omega)
            have HO6 := Lib.hid (show OwnY B w6 (.slice A6 (q + r.bs.length) c6) (l ++ tailF (lens L) wd ++ flatTo L (j + 1)) by rw [flatTo_succ hr, ← List.append_assoc]; exact ho6)
            have HQ6 := Lib.hid (show (l ++ tailF (lens L) wd ++ flatTo L (j + 1)).length = q + r.bs.length by rw [flatTo_succ hr, ← List.append_assoc]; exact hq6)
            have HB6 := Lib.hid (HBJ.out.trans hb6)
            have hq10 : q + r.bs.length ≤ 10000 := by have := HSUM.out; have := HT46.out; omega
            clear hc hr hsu hle ho6 hq6 hb6 hlq
            unfold RowB.v at hcell
            generalize r.bs.length = len at *
            go_wp2_with (at_builtin; refine wpList_run rfl (.tmp 45) (.tmp 49) 38 rfl (.slice Ao q co) (.slice r.A len r.cap) (by rfl) (by rfl) hr6 ?_)
            go_roundw
            case rel => exact ⟨j + 1, _, _, q + len, by omega, by go_num, rfl, hq10, HO6, HQ6, HB6⟩
            case measure => simp [intOf]; omega
          · have hjn : j = n := by omega
            rw [hjn, flatTo_all HL.out] at HO
            have HOO := Lib.hid HO.out
            clear hjn
            go_wp2
            go_ret
            exact ⟨_, rfl, HOO.out, HBJ.out⟩
      · have hk0 : ¬ (0 : Int) < k := by omega
        have HT := Lib.hid (HT0.out hn1x)
        have HO5 := Lib.hid (show OwnY B wr (.slice A0 n0 c0) (l ++ tailF (lens L) wd) by rw [HT.out, List.append_nil]; exact HV.out.later HB.out)
        have HQ5 := Lib.hid (show (l ++ tailF (lens L) wd).length = n0 by rw [HT.out, List.append_nil]; exact HN0.out)
        have HB5 := Lib.hid (HB.out.mono hB)
        clear hkn hlt hn1x HW HT1 HT0
        go_wp2
        go_loopw [0, 11] (fun ov iv wr => ∃ (j : Nat) (Ao : Option Addr) (co q : Nat), j ≤ n ∧ iv = .int .i64 j ∧ ov = .slice Ao q co ∧ q ≤ 10000 ∧ Hid (OwnY B wr (.slice Ao q co) (l ++ tailF (lens L) wd ++ flatTo L j)) ∧ Hid ((l ++ tailF (lens L) wd ++ flatTo L j).length = q) ∧ Hid (Below B w wr)) (fun _ iv _ => n - (intOf iv).toNat)
        case atStart => exact ⟨0, _, _, n0, by omega, rfl, rfl, by omega, Lib.hid (by rw [flatTo_zero, List.append_nil]; exact HO5.out), Lib.hid (by rw [flatTo_zero, List.append_nil]; exact HQ5.out), HB5⟩
        case round =>
          obtain ⟨j, Ao, co, q, hj, rfl, rfl, hq, HO, HQQ, HBJ⟩ := hrel
          by_cases hjl : j < n
          · obtain ⟨ad, rfl, hc⟩ := HS.out _ HBJ.out (by rw [HL.out]; omega)
            obtain ⟨r, hr⟩ : ∃ r, L[j]? = some r := ⟨_, List.getElem?_eq_getElem (by rw [HL.out]; omega)⟩
            have hcell := (hc j r hr).1
            have hsu := sumTo_succ (lens_at hr)
            have hle := sumTo_le (lens L) (j + 1)
            have hlq := HQQ.out
            rw [List.length_append, List.length_append, length_flatTo, HN0.out] at hlq
            obtain ⟨A6, c6, w6, hr6, ho6, hq6, hb6⟩ := app_bytes2 (c := r.cap) HO.out HQQ.out (Nat.le_trans hB HBJ.out.size) (hc j r hr).2.1 rfl (by have := HSUM.out; omega)
            have HO6 := Lib.hid (show OwnY B w6 (.slice A6 (q + r.bs.length) c6) (l ++ tailF (lens L) wd ++ flatTo L (j + 1)) by rw [flatTo_succ hr, ← List.append_assoc]; exact ho6)
            have HQ6 := Lib.hid (show (l ++ tailF (lens L) wd ++ flatTo L (j + 1)).length = q + r.bs.length by rw [flatTo_succ hr, ← List.append_assoc]; exact hq6)
            have HB6 := Lib.hid (HBJ.out.trans hb6)
            have hq10 : q + r.bs.length ≤ 10000 := by have := HSUM.out; have := HT46.out; omega
            clear hc hr hsu hle ho6 hq6 hb6 hlq
            unfold RowB.v at hcell
            generalize r.bs.length = len at *
            go_wp2_with (at_builtin; refine wpList_run rfl (.tmp 45) (.tmp 49) 38 rfl (.slice Ao q co) (.slice r.A len r.cap) (by rfl) (by rfl) hr6 ?_)
            go_roundw
            case rel => exact ⟨j + 1, _, _, q + len, by omega, by go_num, rfl, hq10, HO6, HQ6, HB6⟩
            case measure => simp [intOf]; omega
          · have hjn : j = n := by omega
            rw [hjn, flatTo_all HL.out] at HO
            have HOO := Lib.hid HO.out
            clear hjn
            go_wp2
            go_ret
            exact ⟨_, rfl, HOO.out, HBJ.out⟩
end Go.Proofs.Ytjonkpdjhjobfaa
