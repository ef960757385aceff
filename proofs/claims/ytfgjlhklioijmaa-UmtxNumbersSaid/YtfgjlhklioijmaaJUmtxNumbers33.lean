/-
  pdu: a text is copied. plain: an entity in memory; what its calls do. glue: what is held, what is lost, what is told: plain lists. glue: a glue in memory; its small calls. glue: a field comes. glue: a field comes, and what is whole is told.
-/
import Derived.Test.YtfgjlhklioijmaaJUmtxNumbers32
import Derived.Test.YtfgjlhklioijmaaJUmtxNumbers17
import Derived.Test.YtfgjlhklioijmaaJUmtxNumbers23
import Derived.Test.YtfgjlhklioijmaaJUmtxNumbers26
import Derived.Test.YtfgjlhklioijmaaJUmtxNumbers01
import Derived.Test.YtfgjlhklioijmaaJUmtxNumbers15
import Derived.Test.YtfgjlhklioijmaaJUmtxNumbers24
namespace Go.Proofs.Ytfgjlhklioijmaa
open Go.RowKit

set_option maxRecDepth 100000 in
theorem ne_nil (ad : Addr) (n cap : Nat) (w : World) : Sem.run Try.prog (binOp BinOp.eql 30 (Value.slice (some ad) n cap) (Value.slice none 0 0)) w = Result.ok (Value.bool false) w := by
  rfl
theorem clone_e0 {B : Nat} {V : World} {e : Nat} (hB : B ≤ e) (h : Row V e 5 #[]) : OwnY B V (.slice (some ⟨e, 0, none⟩) 0 0) [] :=
  ⟨by simp [bts], .inr ⟨e, 0, #[], rfl, hB, h, Nat.le_refl _, by simp [maxLen], rfl, by simp [bts]⟩⟩
set_option maxRecDepth 100000 in
set_option maxHeartbeats 800000 in
theorem pclone_any {A : Option Addr} {bs : List Nat} (n cap : Nat) (w : World) (hn : bs.length = n) (h0 : 0 < n) (hm : n ≤ 5000) (hs : Src w A (bts bs)) :
    Calls Try.prog 288 #[.slice A n cap] w fun e w' => ∃ g c cs, e = .returned (.slice (some ⟨g, 0, none⟩) n c) ∧ n ≤ c ∧ c ≤ maxLen ∧ Row w' g 5 cs ∧ Pre bs cs ∧ Below w.heap.size w w' := by
  obtain ⟨ad, rfl, _⟩ := hs (by rw [length_bts]; omega)
  have hal := bl_alloc (Below.refl w.heap.size w) (.cells #[] 5)
  obtain ⟨A1, c1, w1, h1, h2, h3, h4, h5⟩ := app_bytes (l := []) (A := some ad) n cap (clone_e0 (Nat.le_refl _) (Row.made w 5 #[])) hal.size (st_src_later hs hal) hn (by simp; omega)
  simp only [List.length_nil, Nat.zero_add, List.nil_append] at h1 h2 h5
  rcases h2.2 with ⟨e1, e2⟩ | ⟨g, cp, cur, e1, hBg, hh, hnc, hcm, hsz, htk⟩
  · omega
  · injection e1 with e1 e2 e3
    subst e1 e3
    have HR := Lib.hid (show Row w1 g 5 cur from hh)
    have HP := Lib.hid (show Pre bs cur from fun j b hj => by
      have h9 := bts_at hj
      rw [← htk, List.getElem?_take] at h9
      split at h9
      · simpa using h9
      · cases h9)
    have HB := Lib.hid (hal.trans h3)
    rw [hn] at hnc
    clear hs h2 hh htk hsz h3 h4 h5 hn hal e2
    go_enter Try.func288, Try.ntmps288
    go_wp2_with (first | (simp only [ne_nil, Result.andThen_ok]) | (at_builtin; refine wpList_run rfl (.tmp 5) (.tmp 6) 30 rfl (.slice (some ⟨w.heap.size, 0, none⟩) 0 0) (.slice (some ad) n cap) (by rfl) (by rfl) h1 ?_))
    go_ret
    exact ⟨g, c1, cur, rfl, hnc, hcm, HR.out, HP.out, HB.out⟩
theorem pclipb (g n c : Nat) (w : World) (h1 : n ≤ c) :
    Calls Try.prog 204 #[.slice (some ⟨g, 0, none⟩) n c] w fun e w' => e = .returned (.slice (some ⟨g, 0, none⟩) n n) ∧ w = w' := by
  go_enter Try.func204, Try.ntmps204
  go_wp2
  go_ret
  exact ⟨rfl, rfl⟩
theorem pcopied_any {A : Option Addr} {bs : List Nat} (n cap : Nat) (w : World) (hn : bs.length = n) (h0 : 0 < n) (hm : n ≤ 5000) (hs : Src w A (bts bs)) :
    Calls Try.prog 244 #[.slice A n cap] w fun e w' => ∃ g cs, e = .returned (.slice (some ⟨g, 0, none⟩) n n) ∧ Row w' g 5 cs ∧ Pre bs cs ∧ Below w.heap.size w w' := by
  have HC := Lib.hid (pclone_any n cap w hn h0 hm hs)
  clear hs hn
  go_enter Try.func244, Try.ntmps244
  go_wp2_with (first
    | (go_at_call 288; (with_reducible refine HC.out.mono ?_); rintro e w1 ⟨g, c, cs, rfl, h1, h2, hr, hp, hb⟩; (have HR := Lib.hid hr; have HP := Lib.hid hp; have HB := Lib.hid hb; clear hr hp hb))
    | (go_at_call 204; (with_reducible refine (pclipb _ _ _ _ h1).mono ?_); rintro e wx ⟨rfl, rfl⟩))
  go_ret
  exact ⟨g, cs, rfl, HR.out, HP.out, HB.out⟩
theorem ptext_ok {A : Option Addr} {bs : List Nat} (n cap : Nat) (w : World) (hn : bs.length = n) (h0 : 0 < n) (hm : n ≤ 1000) (hs : Src w A (bts bs)) :
    Calls Try.prog 155 #[.slice A n cap] w fun e w' => ∃ (g : Nat) (cs : Array Value), e = .returned (.tuple #[.slice (some ⟨g, 0, none⟩) n n, .int .i64 0]) ∧ Row w' g 5 cs ∧ Pre bs cs ∧ Below w.heap.size w w' := by
  have HC := Lib.hid (pcopied_any n cap w hn h0 (by omega) hs)
  have g1 : (n == 0) = false := by simp; omega
  have g2 : decide ((1000 : Int) < n) = false := decide_eq_false (by omega)
  have g2' : decide (1000 < n) = false := decide_eq_false (by omega)
  clear hs hn
  go_enter Try.func155, Try.ntmps155
  go_wp2_with (go_at_call 244; (with_reducible refine HC.out.mono ?_); rintro e w1 ⟨g, cs, rfl, hr, hp, hb⟩)
  go_ret2
  exact ⟨g, cs, rfl, hr, hp, hb⟩
theorem ptext_no {A : Option Addr} (n cap : Nat) (w : World) (hn : n = 0 ∨ 1000 < n) :
    Calls Try.prog 155 #[.slice A n cap] w fun e w' => e = .returned (.tuple #[.slice none 0 0, .int .i64 (if n = 0 then 8 else 2)]) ∧ Below w.heap.size w w' := by
  by_cases h : n = 0
  · subst h
    go_enter Try.func155, Try.ntmps155
    go_wp2
    go_ret2
    exact ⟨rfl, Below.refl _ _⟩
  · have g1 : (n == 0) = false := by simpa using h
    have g2 : decide ((1000 : Int) < n) = true := decide_eq_true (by omega)
    have g2' : decide (1000 < n) = true := decide_eq_true (by omega)
    rw [if_neg h]
    clear hn h
    go_enter Try.func155, Try.ntmps155
    go_wp2
    go_ret2
    exact ⟨rfl, Below.refl _ _⟩
end Go.Proofs.Ytfgjlhklioijmaa
namespace Go.Proofs.Ytfgjlhklioijmaa
open Go.RowKit

def ECells (c : Cf) (q : Value) : Array Value := #[.int .i64 c.mode, .int .i64 c.bits, .int .i64 c.win, .int .i64 c.reo, .int .i64 c.prx, .int .i64 c.pro, .int .i64 c.ppd, .int .i64 c.pby, .int .i64 c.mrx, .int .i64 c.qb, q]
theorem equeue_any {x : Nat} {c : Cf} {v : Option Addr} {w : World} (h : Row w x 135 (ECells c (.pointer v))) : Calls Try.prog 188 #[.pointer (some ⟨x, 0, none⟩)] w fun e w' => e = .returned (.pointer v) ∧ w = w' := by
  have c1 := h.read (i := 10) (x := .pointer v) rfl
  clear h
  go_enter Try.func188, Try.ntmps188
  go_wp2
  go_ret
  exact ⟨rfl, rfl⟩
theorem equeue_nil (w : World) : Calls Try.prog 188 #[.pointer none] w fun e w' => e = .returned (.pointer none) ∧ w = w' := by
  go_enter Try.func188, Try.ntmps188
  go_wp2
  go_ret
  exact ⟨rfl, rfl⟩
section
variable {B x q last : Nat} {c : Cf} {room : Int} {ts : List Txt} {w : World}
set_option maxHeartbeats 800000 in
theorem epush_all (A : Option Addr) (l : List Nat) (n k : Nat) (hn : l.length = n) (hE : Row w x 135 (ECells c (.pointer (some ⟨q, 0, none⟩)))) (h : QRep B w q room last ts) (hr : 0 < room) (hr2 : room ≤ 20000) (hb : (bytesF ts : Int) ≤ room) (hts : ts.length ≤ 64) (hll : n ≤ 9223372036854775807) (hlast : last ≤ 1000000000)
    (hsrc : ∀ W, QOnly B w W → Src W A (bts l)) :
    Calls Try.prog 82 #[.pointer (some ⟨x, 0, none⟩), .slice A n k] w (PushAny B q last room ts l w) := by
  have HQ := Lib.hid (equeue_any hE)
  have HP := Lib.hid (push_all A l k h hr hr2 hb hts (by rw [hn]; exact hll) hlast (fun W hW => src_qsrc (hsrc W hW)))
  rw [hn] at HP
  clear hE h hsrc hn
  go_enter Try.func82, Try.ntmps82
  go_wp2_with (first
    | (go_at_call 188; (with_reducible refine HQ.out.mono ?_); rintro e w1 ⟨rfl, rfl⟩)
    | (go_at_call 60; (with_reducible refine HP.out.mono ?_); rintro e w1 ⟨nid, er, rfl, hq, hz9⟩; have H : Hid (PushAny B q last room ts l w (.returned (.tuple #[.int .u64 nid, .int .i64 er])) w1) := Lib.hid ⟨nid, er, rfl, hq, hz9⟩; clear hq hz9))
  go_ret2
  exact H.out
set_option maxHeartbeats 800000 in
theorem edisc_any (nid : Nat) (hE : Row w x 135 (ECells c (.pointer (some ⟨q, 0, none⟩)))) (h : QRep B w q room last ts) (hr : 0 < room) (hn : ts.length ≤ 900) :
    Calls Try.prog 85 #[.pointer (some ⟨x, 0, none⟩), .int .u64 nid] w fun e w' => e = .returned (.int .i64 (discE nid ts)) ∧ QRep B w' q room last (discF nid ts) ∧ QOnly B w w' := by
  have HQ := Lib.hid (equeue_any hE)
  have HP := Lib.hid (discard_any nid h hr hn)
  clear hE h
  go_enter Try.func85, Try.ntmps85
  go_wp2_with (first
    | (go_at_call 188; (with_reducible refine HQ.out.mono ?_); rintro e w1 ⟨rfl, rfl⟩)
    | (go_at_call 64; (with_reducible refine HP.out.mono ?_); rintro e w1 ⟨rfl, hq, ho⟩; (have H1 := Lib.hid hq; have H2 := Lib.hid ho; clear hq ho)))
  go_ret
  exact ⟨rfl, H1.out, H2.out⟩
set_option maxHeartbeats 800000 in
theorem ebytes_any (hE : Row w x 135 (ECells c (.pointer (some ⟨q, 0, none⟩)))) (h : QRep B w q room last ts) (hr : 0 < room) (hb : bytesF ts ≤ 1000000000) :
    Calls Try.prog 86 #[.pointer (some ⟨x, 0, none⟩)] w fun e w' => e = .returned (.int .i64 (bytesF ts : Nat)) ∧ Below w.heap.size w w' := by
  have HQ := Lib.hid (equeue_any hE)
  have HP := Lib.hid (qbytes_any h hr hb)
  clear hE h
  go_enter Try.func86, Try.ntmps86
  go_wp2_with (first
    | (go_at_call 188; (with_reducible refine HQ.out.mono ?_); rintro e w1 ⟨rfl, rfl⟩)
    | (go_at_call 71; (with_reducible refine HP.out.mono ?_); rintro e w1 ⟨rfl, hbl⟩; (have H1 := Lib.hid hbl; clear hbl)))
  go_ret
  exact ⟨rfl, H1.out⟩
set_option maxRecDepth 100000 in
set_option maxHeartbeats 1600000 in
theorem ebuild_none (g : Int) (hE : Row w x 135 (ECells c (.pointer (some ⟨q, 0, none⟩)))) (h : QRep B w q room last []) (hr : 0 < room) (hg0 : 0 ≤ g) (hg1 : g ≤ 4096) :
    Calls Try.prog 83 #[.pointer (some ⟨x, 0, none⟩), .int .i64 g] w fun e w' => e = .returned (.tuple #[.slice none 0 0, .int .u64 0, .int .i64 4]) ∧ w = w' := by
  have HQ := Lib.hid (equeue_any hE)
  have HP := Lib.hid (front_none h hr)
  clear hE h
  go_enter Try.func83, Try.ntmps83
  go_wp2
  refine st_scope_through 0 (fun _ _ => False) (fun _ _ => 0) rfl (fun _ => ?_) (fun _ _ h => h.elim)
  go_wp2_with (first
    | (go_at_call 188; (with_reducible refine HQ.out.mono ?_); rintro e w1 ⟨rfl, rfl⟩)
    | (go_at_call 69; (with_reducible refine HP.out.mono ?_); rintro e w1 ⟨rfl, rfl⟩))
  try simp only [Exit.jump]
  go_ret3
  exact ⟨rfl, rfl⟩
set_option maxRecDepth 100000 in
set_option maxHeartbeats 1600000 in
theorem ebuild_grant {t : Txt} {r : List Txt} (g : Int) (hE : Row w x 135 (ECells c (.pointer (some ⟨q, 0, none⟩)))) (h : QRep B w q room last (t :: r)) (hr : 0 < room) (hg0 : 0 ≤ g) (hg1 : g ≤ 4096) (h0 : 0 < t.bs.length) (hl : t.bs.length ≤ 100000) (hg : g < (t.bs.length : Int)) :
    Calls Try.prog 83 #[.pointer (some ⟨x, 0, none⟩), .int .i64 g] w fun e w' => e = .returned (.tuple #[.slice none 0 0, .int .u64 0, .int .i64 16]) ∧ Below w.heap.size w w' := by
  have HQ := Lib.hid (equeue_any hE)
  have HP := Lib.hid (front_ok h hr h0 hl)
  have hne : ((t.bs.length : Int) == 0) = false := by rw [beq_eq_false_iff_ne]; omega
  clear hE h
  go_enter Try.func83, Try.ntmps83
  go_wp2
  refine st_scope_through 0 (fun _ _ => False) (fun _ _ => 0) rfl (fun _ => ?_) (fun _ _ h => h.elim)
  go_wp2_with (first
    | (go_at_call 188; (with_reducible refine HQ.out.mono ?_); rintro e w1 ⟨rfl, rfl⟩)
    | (go_at_call 69; (with_reducible refine HP.out.mono ?_); rintro e w1 ⟨g1, rfl, hg1, hby, hbl⟩; (have HB := Lib.hid hbl; clear hbl hby hg1)))
  try simp only [Exit.jump]
  go_ret3
  exact ⟨rfl, HB.out⟩
/-- a text is built -/
def EBuilt (B q last : Nat) (room : Int) (t : Txt) (r : List Txt) (w : World) (e : Ending) (w' : World) : Prop :=
  ∃ g, e = .returned (.tuple #[.slice (some ⟨g, 0, none⟩) t.bs.length t.bs.length, .int .u64 t.id, .int .i64 0]) ∧ w.heap.size ≤ g ∧ QBytes w' g t.bs ∧ QOnly B w w' ∧ QRep B w' q room last r
set_option maxRecDepth 100000 in
set_option maxHeartbeats 1600000 in
theorem ebuild_ok {t : Txt} {r : List Txt} (g : Int) (hE : Row w x 135 (ECells c (.pointer (some ⟨q, 0, none⟩)))) (h : QRep B w q room last (t :: r)) (hr : 0 < room) (hg1 : g ≤ 4096) (h0 : 0 < t.bs.length) (hl : t.bs.length ≤ 100000) (hg : (t.bs.length : Int) ≤ g) (hrl : r.length ≤ 900) :
    Calls Try.prog 83 #[.pointer (some ⟨x, 0, none⟩), .int .i64 g] w (EBuilt B q last room t r w) := by
  have HQ := Lib.hid (equeue_any hE)
  have HP := Lib.hid (front_ok h hr h0 hl)
  have HT := Lib.hid (fun W (hb : Below w.heap.size w W) => take_ok t.bs.length (h.later hb) hr (by omega) (Nat.le_refl _) hl hrl)
  have hne : ((t.bs.length : Int) == 0) = false := by rw [beq_eq_false_iff_ne]; omega
  have hg0 : 0 ≤ g := by omega
  have HW : Hid (∀ W (hb : Below w.heap.size w W) (e : Ending) (w' : World), TakeDone B q last room t r t.bs.length W e w' → ∃ g', e = .returned (.tuple #[.slice (some ⟨g', 0, none⟩) t.bs.length t.bs.length, .bool true, .int .i64 0]) ∧ w.heap.size ≤ g' ∧ QBytes w' g' t.bs ∧ QOnly B w w' ∧ QRep B w' q room last r) := Lib.hid (fun W hb e w' hd => by
    obtain ⟨g', rfl, h1, h2, h3, t', _, _, _, h4⟩ := hd
    rw [if_pos rfl] at h4
    rw [List.take_length] at h2
    exact ⟨g', by simp, Nat.le_trans hb.size h1, h2, (QOnly.of_below hb).trans h3, h4⟩)
  clear hE h
  go_enter Try.func83, Try.ntmps83
  go_wp2
  refine st_scope_through 0 (fun a' w' => ∃ g1 : Nat, Fr [none, none, none, none, none, none, none, some (.pointer (some ⟨q, 0, none⟩)), some (.int .u64 t.id), some (.slice (some ⟨g1, 0, none⟩) t.bs.length t.bs.length), none, none, none, none, none, none, none, none, none, none, none, none, none, none, none, none, none, none, none, none, none, none, none, none, none, none, none, none, none, none, none, none, none, none, none, none, none, none, none, none, none, none, none] a' ∧ Below w.heap.size w w') (fun _ _ => 0) rfl (fun _ => ?_) ?_
  · go_wp2_with (first
      | (go_at_call 188; (with_reducible refine HQ.out.mono ?_); rintro e w1 ⟨rfl, rfl⟩)
      | (go_at_call 69; (with_reducible refine HP.out.mono ?_); rintro e w1 ⟨g1, rfl, hg1, hby, hbl⟩; (have HB := Lib.hid hbl; clear hbl hby hg1)))
    go_step3
    refine ⟨rfl, g1, ?_, HB.out⟩
    simp only [Fr, Holes]
    repeat apply Exists.intro
    rfl
  · rintro a' w' ⟨g1, hfr, hbl⟩
    have HB := Lib.hid hbl
    clear hbl
    simp only [Fr, Holes] at hfr
    repeat (obtain ⟨_, hfr⟩ := hfr)
    go_wp2_with (go_at_call 62; (with_reducible refine (HT.out _ HB.out).mono ?_); intro e w2 hd; obtain ⟨g2, rfl, k1, k2, k3, k4⟩ := HW.out _ HB.out e w2 hd; (have K : Hid (EBuilt B q last room t r w (.returned (.tuple #[.slice (some ⟨g2, 0, none⟩) t.bs.length t.bs.length, .int .u64 t.id, .int .i64 0])) w2) := Lib.hid ⟨g2, rfl, k1, k2, k3, k4⟩; clear hd k1 k2 k3 k4))
    try simp only [Exit.jump]
    go_ret3
    exact K.out
end
end Go.Proofs.Ytfgjlhklioijmaa
namespace Go.Proofs.Ytfgjlhklioijmaa
open Go.RowKit

/-- what a glue holds, and how many it lost -/
structure GS where
  held : List Nat
  lost : Nat
def GS.lose (s : GS) : GS := if s.held = [] then s else ⟨[], s.lost + 1⟩
def GS.come (s : GS) (f : List Nat) (b e : Bool) : GS :=
  if b then (if f.length ≤ 1000 then ⟨f, s.lose.lost⟩ else ⟨[], s.lose.lost + 1⟩)
  else if s.held = [] then (if e then ⟨[], s.lost + 1⟩ else s)
  else if s.held.length + f.length ≤ 1000 then ⟨s.held ++ f, s.lost⟩ else ⟨[], s.lost + 1⟩
def GS.told (s : GS) (e : Bool) : GS × List (List Nat) := if e then (if s.held = [] then (s, []) else (⟨[], s.lost⟩, [s.held])) else (s, [])
def beg (fi : Nat) (k : Nat) : Bool := decide (0 < k) || (fi / 2 % 2 == 0)
def fin (fi : Nat) (n k : Nat) : Bool := decide (k + 1 < n) || (fi % 2 == 0)
/-- fields come, from field k of n on -/
def goG (fi n : Nat) : Nat → List (List Nat) → GS → GS × List (List Nat)
  | _, [], s => (s, [])
  | k, f :: r, s =>
    let y := (s.come f (beg fi k) (fin fi n k)).told (fin fi n k)
    let z := goG fi n (k + 1) r y.1
    (z.1, y.2 ++ z.2)
def putG (fi : Nat) (fs : List (List Nat)) (gap : Bool) (s : GS) : GS × List (List Nat) := goG fi fs.length 0 fs (if gap then s.lose else s)
theorem GS.come_short (s : GS) (f : List Nat) (b e : Bool) (h : s.held.length ≤ 1000) : (s.come f b e).held.length ≤ 1000 := by
  unfold GS.come
  repeat' split
  all_goals simp_all
theorem GS.lose_short (s : GS) (h : s.held.length ≤ 1000) : s.lose.held.length ≤ 1000 := by
  unfold GS.lose
  split <;> simp_all
theorem GS.lose_lost (s : GS) : s.lost ≤ s.lose.lost ∧ s.lose.lost ≤ s.lost + 1 := by
  unfold GS.lose
  split <;> simp
theorem GS.come_lost (s : GS) (f : List Nat) (b e : Bool) : s.lost ≤ (s.come f b e).lost ∧ (s.come f b e).lost ≤ s.lost + 2 := by
  have := s.lose_lost
  unfold GS.come
  repeat' split
  all_goals simp_all
  all_goals omega
end Go.Proofs.Ytfgjlhklioijmaa
namespace Go.Proofs.Ytfgjlhklioijmaa
open Go.RowKit

def GRep (B : Nat) (w : World) (p : Nat) (hv : Value) (s : GS) : Prop := Row w p 266 #[.bool true, hv, .int .i64 s.lost] ∧ OwnY B w hv s.held
def GS1 (p : Nat) (hv : Value) (k : Nat) : Prop := k = p ∨ hv.ownBlock = some k
def GNext (w : World) (hv hv' : Value) : Prop := ∀ k, hv'.ownBlock = some k → hv.ownBlock = some k ∨ w.heap.size ≤ k
theorem GNext.refl (w : World) (hv : Value) : GNext w hv hv := fun _ h => .inl h
theorem GNext.nil (w : World) (hv : Value) : GNext w hv (.slice none 0 0) := fun _ h => by simp [Value.ownBlock] at h
theorem ownY_nil (B : Nat) (w : World) : OwnY B w (.slice none 0 0) [] := ⟨by simp [bts], .inl ⟨rfl, rfl⟩⟩
theorem GRep.later {B p : Nat} {w v : World} {hv : Value} {s : GS} (h : GRep B w p hv s) (hb : Below w.heap.size w v) : GRep B v p hv s := ⟨h.1.later hb, h.2.later hb⟩
theorem GRep.only {B p : Nat} {w v : World} {hv : Value} {s : GS} {S : Nat → Prop} (h : GRep B w p hv s) (ho : Only S w v) (h1 : ¬ S p) (h2 : ∀ k, hv.ownBlock = some k → ¬ S k) : GRep B v p hv s := ⟨h.1.only ho h1, h.2.only ho h2⟩
theorem set_only {w : World} {p : Nat} (i : Nat) (x : Value) : Only (fun k => k = p) w (w.setCell ⟨p, i, none⟩ x) := (Only.refl (fun k => k = p) w).set (p := ⟨p, i, none⟩) (.inl rfl) x
theorem GRep.apart {B p : Nat} {w : World} {hv : Value} {s : GS} (h : GRep B w p hv s) : hv.ownBlock ≠ some p := own_apart h.2 h.1 (by decide)
theorem gnew_any (w : World) : Calls Try.prog 102 #[] w fun e w' => e = .returned (.pointer (some ⟨w.heap.size, 0, none⟩)) ∧ GRep w.heap.size w' w.heap.size (.slice none 0 0) ⟨[], 0⟩ ∧ Below w.heap.size w w' := by
  go_enter Try.func102, Try.ntmps102
  go_wp2
  go_ret
  exact ⟨rfl, ⟨Row.made _ _ _, ownY_nil _ _⟩, bl_alloc (Below.refl _ _) _⟩
theorem gheld_any {B p : Nat} {w : World} {hv : Value} {s : GS} (h : GRep B w p hv s) : Calls Try.prog 109 #[.pointer (some ⟨p, 0, none⟩)] w fun e w' => e = .returned (.int .i64 (s.held.length : Nat)) ∧ w = w' := by
  obtain ⟨A, c, rfl, h1, h2⟩ := h.2.form
  unfold maxLen at h2
  have c1 := h.1.read (i := 1) rfl
  generalize s.held.length = n at *
  clear h
  go_enter Try.func109, Try.ntmps109
  go_wp2
  go_ret
  exact ⟨rfl, rfl⟩
theorem glost_any {B p : Nat} {w : World} {hv : Value} {s : GS} (h : GRep B w p hv s) : Calls Try.prog 105 #[.pointer (some ⟨p, 0, none⟩)] w fun e w' => e = .returned (.int .i64 (s.lost : Nat)) ∧ w = w' := by
  have c1 := h.1.read (i := 2) rfl
  clear h
  go_enter Try.func105, Try.ntmps105
  go_wp2
  go_ret
  exact ⟨rfl, rfl⟩
theorem held_len {s : GS} : s.held = [] ↔ s.held.length = 0 := by simp
set_option maxRecDepth 100000 in
set_option maxHeartbeats 800000 in
theorem glose_any {B p : Nat} {w : World} {hv : Value} {s : GS} (h : GRep B w p hv s) (hlost : s.lost ≤ 1000000000) :
    Calls Try.prog 200 #[.pointer (some ⟨p, 0, none⟩)] w fun e w' => e = .returned (.tuple #[]) ∧ ∃ hv', GRep B w' p hv' s.lose ∧ Only (fun k => k = p) w w' ∧ GNext w hv hv' := by
  obtain ⟨A, c, rfl, h1, h2⟩ := h.2.form
  unfold maxLen at h2
  have c1 := h.1.read (i := 1) rfl
  have c2 := h.1.read (i := 2) rfl
  have f1 := h.1.free 1
  have HH := Lib.hid h
  by_cases h0 : s.held.length = 0
  · have HL := Lib.hid (show s.lose = s by unfold GS.lose; rw [if_pos (held_len.2 h0)])
    have hd : decide ((0 : Int) < (s.held.length : Int)) = false := decide_eq_false (by omega)
    have h0' : s.held.length ≤ 0 := by omega
    clear h h0
    go_enter Try.func200, Try.ntmps200
    go_wp2
    go_end0
    exact ⟨rfl, _, by rw [HL.out]; exact HH.out, Only.refl _ _, GNext.refl _ _⟩
  · have HL := Lib.hid (show s.lose = ⟨[], s.lost + 1⟩ by unfold GS.lose; rw [if_neg (fun e => h0 (held_len.1 e))])
    have hp : (0 : Int) < (s.held.length : Int) := by have := Nat.pos_of_ne_zero h0; omega
    have hrow := h.1.written 1 (.slice none 0 0)
    have d2 := hrow.read (i := 2) rfl
    have g2 := hrow.free 2
    have HR := Lib.hid (hrow.written 2 (.int .i64 ((s.lost : Int) + 1)))
    have HO := Lib.hid ((set_only (w := w) (p := p) 1 (.slice none 0 0)).set (p := ⟨p, 2, none⟩) (.inl rfl) (.int .i64 ((s.lost : Int) + 1)))
    have e9 : ((s.lost + 1 : Nat) : Int) = (s.lost : Int) + 1 := by omega
    have HE9 := Lib.hid e9
    clear h h0 hrow e9
    go_enter Try.func200, Try.ntmps200
    go_wp2
    go_end0
    refine ⟨rfl, .slice none 0 0, ⟨?_, ?_⟩, HO.out, GNext.nil _ _⟩
    · rw [HL.out]
      show Row _ p 266 #[.bool true, .slice none 0 0, .int .i64 ((s.lost + 1 : Nat) : Int)]
      rw [HE9.out]
      exact HR.out
    · rw [HL.out]
      exact ownY_nil _ _
end Go.Proofs.Ytfgjlhklioijmaa
namespace Go.Proofs.Ytfgjlhklioijmaa
open Go.RowKit

section
variable {B p : Nat} {w : World} {hv : Value} {s : GS}
theorem grep_lost (h : GRep B w p hv s) : GRep B ((w.setCell ⟨p, 1, none⟩ (.slice none 0 0)).setCell ⟨p, 2, none⟩ (.int .i64 ((s.lost : Int) + 1))) p (.slice none 0 0) ⟨[], s.lost + 1⟩ ∧ Only (GS1 p hv) w ((w.setCell ⟨p, 1, none⟩ (.slice none 0 0)).setCell ⟨p, 2, none⟩ (.int .i64 ((s.lost : Int) + 1))) := by
  have e9 : ((s.lost + 1 : Nat) : Int) = (s.lost : Int) + 1 := by omega
  refine ⟨⟨?_, ownY_nil _ _⟩, ((set_only 1 _).set (p := ⟨p, 2, none⟩) (.inl rfl) _).weaker (fun k _ hk => .inl hk)⟩
  show Row _ p 266 #[.bool true, .slice none 0 0, .int .i64 ((s.lost + 1 : Nat) : Int)]
  rw [e9]
  exact (h.1.written 1 _).written 2 _
theorem grep_count (h : GRep B w p hv s) : GRep B (w.setCell ⟨p, 2, none⟩ (.int .i64 ((s.lost : Int) + 1))) p hv ⟨s.held, s.lost + 1⟩ ∧ Only (GS1 p hv) w (w.setCell ⟨p, 2, none⟩ (.int .i64 ((s.lost : Int) + 1))) := by
  have e9 : ((s.lost + 1 : Nat) : Int) = (s.lost : Int) + 1 := by omega
  refine ⟨⟨?_, h.2.only (set_only 2 _) (fun k hk e => h.apart (by rw [hk, e]))⟩, (set_only 2 _).weaker (fun k _ hk => .inl hk)⟩
  show Row _ p 266 #[.bool true, hv, .int .i64 ((s.lost + 1 : Nat) : Int)]
  rw [e9]
  exact h.1.written 2 _
theorem grep_app {A F : Option Addr} {f : List Nat} {n m c fc : Nat} (h : GRep B w p (.slice A n c) s) (hn : s.held.length = n) (hB : B ≤ w.heap.size) (hs : Src w F (bts f)) (hm : f.length = m) (hnm : n + m ≤ 1000000) :
    ∃ A' c' W', (Builtin.append_ #[30, 30] 30 #[.slice A n c, .slice F m fc]).run Try.prog w = .ok (.slice A' (n + m) c') W' ∧ Row W' p 266 #[.bool true, .slice A n c, .int .i64 s.lost] ∧
      GRep B (W'.setCell ⟨p, 1, none⟩ (.slice A' (n + m) c')) p (.slice A' (n + m) c') ⟨s.held ++ f, s.lost⟩ ∧ Only (GS1 p (.slice A n c)) w (W'.setCell ⟨p, 1, none⟩ (.slice A' (n + m) c')) ∧ GNext w (.slice A n c) (.slice A' (n + m) c') := by
  subst hn
  obtain ⟨A', c', W', hrun, hown, hbl, hon, hat⟩ := app_bytes m fc h.2 hB hs hm (by omega)
  have hap := h.apart
  have hr2 : Row W' p 266 #[.bool true, .slice A s.held.length c, .int .i64 s.lost] := h.1.only hon hap
  have hap2 := own_apart hown hr2 (by decide)
  refine ⟨A', c', W', hrun, hr2, ⟨hr2.written 1 _, hown.only (set_only 1 _) (fun k hk e => hap2 (by rw [hk, e]))⟩, ?_, ?_⟩
  · exact (hon.weaker (fun k _ hk => .inr hk)).set (p := ⟨p, 1, none⟩) (.inl (.inl rfl)) _
  · intro k hk
    rcases hat with e | e
    · exact .inl (by rw [← e]; exact hk)
    · rw [e] at hk
      injection hk with hk
      exact .inr (by omega)
end
theorem lose_held (s : GS) : s.lose.held = [] := by
  unfold GS.lose
  split
  · assumption
  · rfl
/-- what a field's coming leaves -/
def ComeDone (B p : Nat) (hv : Value) (s' : GS) (w : World) (e : Ending) (w' : World) : Prop := e = .returned (.tuple #[]) ∧ ∃ hv', GRep B w' p hv' s' ∧ Only (GS1 p hv) w w' ∧ GNext w hv hv'
theorem ComeDone.behind {B p : Nat} {hv hv1 : Value} {s' : GS} {w w1 w' : World} {e : Ending} (h : ComeDone B p hv1 s' w1 e w') (ho : Only (fun k => k = p) w w1) (hg : GNext w hv hv1) : ComeDone B p hv s' w e w' := by
  obtain ⟨h1, hv', h2, h3, h4⟩ := h
  refine ⟨h1, hv', h2, ?_, ?_⟩
  · refine (ho.weaker (T := GS1 p hv) (fun k _ hk => .inl hk)).andThen h3 (fun k hk hx => ?_)
    rcases hx with hx | hx
    · exact .inl hx
    · rcases hg k hx with h9 | h9
      · exact .inr h9
      · omega
  · intro k hk
    rcases h4 k hk with h9 | h9
    · exact hg k h9
    · exact .inr (Nat.le_trans ho.size h9)
section
variable {B p : Nat} {w : World} {hv : Value} {s : GS} {F : Option Addr} {f : List Nat}
set_option maxRecDepth 100000 in
set_option maxHeartbeats 800000 in
theorem gcome_b (e : Bool) (m fc : Nat) (h : GRep B w p hv s) (hlost : s.lost ≤ 1000000) (hB : B ≤ w.heap.size) (hs : ∀ W, Only (fun k => k = p) w W → Src W F (bts f)) (hm : f.length = m) (hm1 : m ≤ 9223372036854775807) :
    Calls Try.prog 203 #[.pointer (some ⟨p, 0, none⟩), .slice F m fc, .bool true, .bool e] w (ComeDone B p hv (s.come f true e) w) := by
  have HLO := Lib.hid (glose_any h (by omega))
  have HS := Lib.hid hs
  have hll := s.lose_lost
  have HH := Lib.hid (lose_held s)
  have HC := Lib.hid (show s.come f true e = if f.length ≤ 1000 then ⟨f, s.lose.lost⟩ else ⟨[], s.lose.lost + 1⟩ from rfl)
  rw [HC.out]
  generalize s.lose = s1 at *
  obtain ⟨held1, lost1⟩ := s1
  simp only at hll HH
  obtain rfl := HH.out
  clear h hs HC HH
  rw [hm]
  by_cases hlong : m ≤ 1000
  · rw [if_pos hlong]
    have hd : decide ((1000 : Int) < (m : Int)) = false := decide_eq_false (by omega)
    have hw : IntKind.i64.wrap (0 + (m : Int)) = (m : Int) := by rw [IntKind.wrap_i64]; omega
    go_enter Try.func203, Try.ntmps203
    go_wp2_with fail
    refine (HLO.out).mono ?_
    rintro e1 w1 ⟨rfl, hv1, h1, ho1, hg1⟩
    obtain ⟨A, c, rfl, q1, q2⟩ := h1.2.form
    unfold maxLen at q2
    simp only [List.length_nil] at q1 h1
    obtain ⟨A', c', W', hrun, hr2, h3, ho3, hg3⟩ := grep_app (n := 0) (m := m) (fc := fc) h1 rfl (Nat.le_trans hB ho1.size) (HS.out w1 ho1) hm (by omega)
    have c1 := h1.1.read (i := 1) rfl
    have k1 := hr2.read (i := 1) rfl
    have k2 := hr2.free 1
    simp only [Nat.zero_add, List.nil_append] at hrun h3 ho3 hg3
    have HD := Lib.hid (ComeDone.behind (hv := hv) ⟨rfl, _, h3, ho3, hg3⟩ ho1 hg1)
    clear h1 ho1 hg1 h3 ho3 hg3 hr2 HLO HS
    go_wp2_with (at_builtin; refine wpList_run rfl _ _ 30 rfl (.slice A 0 c) (.slice F m fc) (by rfl) (by rfl) hrun ?_)
    go_end0
    exact HD.out
  · rw [if_neg hlong]
    have hd : decide ((1000 : Int) < (m : Int)) = true := decide_eq_true (by omega)
    have hw : IntKind.i64.wrap (0 + (m : Int)) = (m : Int) := by rw [IntKind.wrap_i64]; omega
    go_enter Try.func203, Try.ntmps203
    go_wp2_with fail
    refine (HLO.out).mono ?_
    rintro e1 w1 ⟨rfl, hv1, h1, ho1, hg1⟩
    obtain ⟨A, c, rfl, q1, q2⟩ := h1.2.form
    unfold maxLen at q2
    simp only [List.length_nil] at q1 h1
    obtain ⟨h3, ho3⟩ := grep_lost h1
    have c1 := h1.1.read (i := 1) rfl
    have f1 := h1.1.free 1
    have hrow := h1.1.written 1 (.slice none 0 0)
    have d2 := hrow.read (i := 2) rfl
    have g2 := hrow.free 2
    have HD := Lib.hid (ComeDone.behind (hv := hv) ⟨rfl, _, h3, ho3, GNext.nil _ _⟩ ho1 hg1)
    simp only at HD d2
    clear h1 ho1 hg1 h3 ho3 hrow HLO HS
    go_wp2
    go_end0
    exact HD.out
set_option maxRecDepth 100000 in
set_option maxHeartbeats 800000 in
theorem gcome_e (e : Bool) (m fc : Nat) (h : GRep B w p hv s) (hlost : s.lost ≤ 1000000) (h0 : s.held = []) :
    Calls Try.prog 203 #[.pointer (some ⟨p, 0, none⟩), .slice F m fc, .bool false, .bool e] w (ComeDone B p hv (s.come f false e) w) := by
  have HC := Lib.hid (show s.come f false e = if e then ⟨[], s.lost + 1⟩ else s by unfold GS.come; rw [if_neg (by decide), if_pos h0])
  rw [HC.out]
  obtain ⟨held1, lost1⟩ := s
  simp only at hlost h0
  subst h0
  have hcount := grep_count h
  obtain ⟨A, c, rfl, q1, q2⟩ := h.2.form
  unfold maxLen at q2
  simp only [List.length_nil] at q1 h hcount ⊢
  have c1 := h.1.read (i := 1) rfl
  have c2 := h.1.read (i := 2) rfl
  have f2 := h.1.free 2
  simp only at c2
  cases e
  · have HD := Lib.hid (show ComeDone B p (.slice A 0 c) ⟨[], lost1⟩ w (.returned (.tuple #[])) w from ⟨rfl, _, h, Only.refl _ _, GNext.refl _ _⟩)
    clear h hcount HC
    go_enter Try.func203, Try.ntmps203
    go_wp2
    go_end0
    exact HD.out
  · have HD := Lib.hid (show ComeDone B p (.slice A 0 c) ⟨[], lost1 + 1⟩ w (.returned (.tuple #[])) _ from ⟨rfl, _, hcount.1, hcount.2, GNext.refl _ _⟩)
    clear h hcount HC
    go_enter Try.func203, Try.ntmps203
    go_wp2
    go_end0
    exact HD.out
set_option maxRecDepth 100000 in
set_option maxHeartbeats 800000 in
theorem gcome_m (e : Bool) (m fc : Nat) (h : GRep B w p hv s) (hlost : s.lost ≤ 1000000) (hB : B ≤ w.heap.size) (hs : Src w F (bts f)) (hm : f.length = m) (hm1 : m ≤ 100000) (h0 : s.held ≠ []) (hl : s.held.length ≤ 1000) :
    Calls Try.prog 203 #[.pointer (some ⟨p, 0, none⟩), .slice F m fc, .bool false, .bool e] w (ComeDone B p hv (s.come f false e) w) := by
  have HC := Lib.hid (show s.come f false e = if s.held.length + f.length ≤ 1000 then ⟨s.held ++ f, s.lost⟩ else ⟨[], s.lost + 1⟩ by unfold GS.come; rw [if_neg (by decide), if_neg h0])
  rw [HC.out, hm]
  obtain ⟨A, c, rfl, q1, q2⟩ := h.2.form
  unfold maxLen at q2
  obtain ⟨n, hn⟩ : ∃ n, s.held.length = n := ⟨_, rfl⟩
  have hn0 : 0 < n := by rw [← hn]; exact List.length_pos_iff.2 h0
  rw [hn] at q1 h hl ⊢
  have hne : ((n : Int) == 0) = false := by simp; omega
  have c1 := h.1.read (i := 1) rfl
  have hw : IntKind.i64.wrap ((n : Int) + (m : Int)) = (n : Int) + (m : Int) := by rw [IntKind.wrap_i64]; omega
  by_cases hlong : n + m ≤ 1000
  · rw [if_pos hlong]
    have hd : decide ((1000 : Int) < (n : Int) + (m : Int)) = false := decide_eq_false (by omega)
    obtain ⟨A', c', W', hrun, hr2, h3, ho3, hg3⟩ := grep_app (n := n) (m := m) (fc := fc) h hn hB hs hm (by omega)
    have k1 := hr2.read (i := 1) rfl
    have k2 := hr2.free 1
    have HD := Lib.hid (show ComeDone B p (.slice A n c) _ w (.returned (.tuple #[])) _ from ⟨rfl, _, h3, ho3, hg3⟩)
    clear h hs hm h3 ho3 hg3 hr2 HC hn h0
    go_enter Try.func203, Try.ntmps203
    go_wp2_with (at_builtin; refine wpList_run rfl _ _ 30 rfl (.slice A n c) (.slice F m fc) (by rfl) (by rfl) hrun ?_)
    go_end0
    exact HD.out
  · rw [if_neg hlong]
    have hd : decide ((1000 : Int) < (n : Int) + (m : Int)) = true := decide_eq_true (by omega)
    obtain ⟨h3, ho3⟩ := grep_lost h
    have f1 := h.1.free 1
    have hrow := h.1.written 1 (.slice none 0 0)
    have d2 := hrow.read (i := 2) rfl
    have g2 := hrow.free 2
    have HD := Lib.hid (show ComeDone B p (.slice A n c) _ w (.returned (.tuple #[])) _ from ⟨rfl, _, h3, ho3, GNext.nil _ _⟩)
    clear h hs hm h3 ho3 hrow HC hn h0
    go_enter Try.func203, Try.ntmps203
    go_wp2
    go_end0
    exact HD.out
theorem gcome_any (b e : Bool) (m fc : Nat) (h : GRep B w p hv s) (hlost : s.lost ≤ 1000000) (hB : B ≤ w.heap.size) (hs : ∀ W, Only (fun k => k = p) w W → Src W F (bts f)) (hm : f.length = m) (hm1 : m ≤ 9223372036854775807) (hm2 : b = false → m ≤ 100000) (hl : s.held.length ≤ 1000) :
    Calls Try.prog 203 #[.pointer (some ⟨p, 0, none⟩), .slice F m fc, .bool b, .bool e] w (ComeDone B p hv (s.come f b e) w) := by
  cases b
  · by_cases h0 : s.held = []
    · exact gcome_e e m fc h hlost h0
    · exact gcome_m e m fc h hlost hB (hs w (Only.refl _ _)) hm (hm2 rfl) h0 hl
  · exact gcome_b e m fc h hlost hB hs hm hm1
end
end Go.Proofs.Ytfgjlhklioijmaa
namespace Go.Proofs.Ytfgjlhklioijmaa
open Go.RowKit

theorem clipb_any {A : Option Addr} (n c : Nat) (w : World) (hc : n ≤ c) : Calls Try.prog 204 #[.slice A n c] w fun e w' => e = .returned (.slice A n n) ∧ w = w' := by
  cases A with
  | none =>
    go_enter Try.func204, Try.ntmps204
    go_wp2
    go_ret
    exact ⟨rfl, rfl⟩
  | some a =>
    go_enter Try.func204, Try.ntmps204
    go_wp2
    go_ret
    exact ⟨rfl, rfl⟩
theorem own_rows_apart {w : World} {B B' e e' z z' n n' : Nat} {v v' : Value} {xs xs' : List Value} (h : w.ownsRow B e z v n xs) (h' : w.ownsRow B' e' z' v' n' xs') (hne : e ≠ e') : ∀ k, v.ownBlock = some k → v'.ownBlock ≠ some k := by
  intro k hk
  rcases h.2 with ⟨rfl, _⟩ | ⟨g, cap, cur, rfl, _, hh, _⟩
  · simp [Value.ownBlock] at hk
  · have e1 : g = k := by simpa [Value.ownBlock] using hk
    subst e1
    exact own_apart h' (show Row w g e cur from hh) (fun e => hne e.symm)
/-- a text that was told: its bytes lie in a block that is not the held one -/
def TOk (B : Nat) (w : World) (hv : Value) (r : RowB) : Prop := ∃ (g : Nat) (cs : Array Value), r.A = some ⟨g, 0, none⟩ ∧ B ≤ g ∧ hv.ownBlock ≠ some g ∧ r.bs.length ≤ r.cap ∧ r.cap ≤ 9223372036854775807 ∧ Row w g 5 cs ∧ ∀ (j b : Nat), r.bs[j]? = some b → cs[j]? = some (Value.int .u8 (b : Nat))
theorem add_pl (b o j : Nat) : (⟨b, o, none⟩ : Addr).add j = ⟨b, o + j, none⟩ := by
  unfold Addr.add
  split
  · rename_i h
    subst h
    rfl
  · rfl
theorem TOk.src {B : Nat} {w : World} {hv : Value} {r : RowB} (h : TOk B w hv r) : Src w r.A (bts r.bs) := by
  obtain ⟨g, cs, h1, _, _, _, _, h4, h5⟩ := h
  intro _
  refine ⟨⟨g, 0, none⟩, h1, fun j u hu => ?_⟩
  have hj : j < r.bs.length := by have := (List.getElem?_eq_some_iff.1 hu).1; rw [length_bts] at this; exact this
  have hb := bts_at (List.getElem?_eq_getElem hj)
  rw [hu] at hb
  injection hb with hb
  rw [hb, add_pl, Nat.zero_add]
  exact h4.read (h5 j _ (List.getElem?_eq_getElem hj))
theorem TOk.step {B : Nat} {w v : World} {hv hv' : Value} {r : RowB} {S : Nat → Prop} (h : TOk B w hv r) (ho : Only S w v) (hS : ∀ g cs, Row w g 5 cs → hv.ownBlock ≠ some g → ¬ S g) (hg : GNext w hv hv') : TOk B v hv' r := by
  obtain ⟨g, cs, h1, h2, h3, h4, h5, h6, h7⟩ := h
  refine ⟨g, cs, h1, h2, fun e => ?_, h4, h5, h6.only ho (hS g cs h6 h3), h7⟩
  have := h6.inside
  rcases hg g e with h9 | h9
  · exact h3 h9
  · omega
/-- what is held and what was told so far -/
def GInv (B C p gb tb : Nat) (w : World) (hv tv : Value) (s : GS) (L : List RowB) : Prop :=
  GRep B w p hv s ∧ Row w gb 162 #[.pointer (some ⟨p, 0, none⟩)] ∧ Row w tb 22 #[tv] ∧ w.ownsRow C 30 1 tv L.length (L.map RowB.v) ∧ ∀ r ∈ L, TOk B w hv r
def GS2 (p tb : Nat) (hv tv : Value) (k : Nat) : Prop := (k = p ∨ hv.ownBlock = some k) ∨ k = tb ∨ tv.ownBlock = some k
theorem GInv.come {B C p gb tb : Nat} {w w1 : World} {hv hv1 tv : Value} {s s1 : GS} {L : List RowB} (h : GInv B C p gb tb w hv tv s L) (h1 : GRep B w1 p hv1 s1) (ho : Only (GS1 p hv) w w1) (hg : GNext w hv hv1) : GInv B C p gb tb w1 hv1 tv s1 L := by
  obtain ⟨a1, a2, a3, a4, a5⟩ := h
  have k1 : ∀ {g : Nat} {t : TypeId} {cs : Array Value}, Row w g t cs → t ≠ 266 → t ≠ 5 → ¬ GS1 p hv g := by
    intro g t cs hr h2 h3 hx
    rcases hx with hx | hx
    · exact hr.apart a1.1 h2 hx
    · exact own_apart a1.2 hr (fun e => h3 e.symm) hx
  refine ⟨h1, a2.only ho (k1 a2 (by decide) (by decide)), a3.only ho (k1 a3 (by decide) (by decide)), own_only a4 ho (fun k hk hx => ?_), fun r hr => (a5 r hr).step ho (fun g cs h6 h7 hx => ?_) hg⟩
  · rcases hx with hx | hx
    · subst hx; exact own_apart a4 a1.1 (by decide) hk
    · exact own_rows_apart a4 a1.2 (by decide) k hk hx
  · rcases hx with hx | hx
    · exact h6.apart a1.1 (by decide) hx
    · exact h7 hx
def PutStep (B C p gb tb : Nat) (hv tv : Value) (s' : GS) (L : List RowB) (told : List (List Nat)) (w : World) (e : Ending) (w' : World) : Prop :=
  e = .returned (.tuple #[]) ∧ ∃ hv' tv' L', GInv B C p gb tb w' hv' tv' s' L' ∧ texts L' = texts L ++ told ∧ Only (GS2 p tb hv tv) w w' ∧ GNext w hv hv' ∧ GNext w tv tv' ∧ C ≤ w'.heap.size
end Go.Proofs.Ytfgjlhklioijmaa
