/-
  What a plain entity answers to fixed calls. A law's own lists beside a queue: what the queue's calls do leaves them as they are, and what is appended to them leaves the queue as it is. PlainOrder: what the statement keeps beside its entity. How the packets and bytes that a statement draws read. How lists of numbers of 16 bits that a statement draws read.
-/
import Derived.Test.YtjobgnemklpiaaaJPlainOrder26
import Derived.Test.YtjobgnemklpiaaaJPlainOrder09
import Derived.SizedLaws
import Derived.Deep.Matrix
import Derived.Lib.SmallJoins
import Derived.OpenShut
namespace Go.Proofs.Ytjobgnemklpiaaa
open Go.RowKit

theorem RowF.q {B : Nat} {w v : World} {g : Nat} {t : TypeId} {cs : Array Value} (h : RowF w g t cs) (h1 : t ≠ 77) (h2 : t ≠ 167) (ho : QOnly B w v) : RowF v g t cs :=
  h.only ho (fun ⟨_, t', cs', hr, ht⟩ => by
    obtain ⟨fr, h⟩ := h
    unfold Row at hr
    rw [h] at hr
    injection hr with hr
    injection hr with _ hr
    subst hr
    rcases ht with ht | ht
    · exact h1 ht
    · exact h2 ht)
theorem qb_src {w : World} {g : Nat} {l : List Nat} (h : QBytes w g l) : Src w (some ⟨g, 0, none⟩) (bts l) := by
  obtain ⟨cs, h1, h2⟩ := h
  intro _
  refine ⟨_, rfl, fun j u hu => ?_⟩
  have hj : j < l.length := by have := (List.getElem?_eq_some_iff.1 hu).1; rw [length_bts] at this; exact this
  have hb := bts_at (List.getElem?_eq_getElem hj)
  rw [hu] at hb
  injection hb with hb
  rw [hb, add_zero_addr]
  exact h1.read (h2 j _ (List.getElem?_eq_getElem hj))
theorem qb_conv {w : World} {g : Nat} {l : List Nat} (n c : Nat) (hl : l.length = n) (h : QBytes w g l) (hb : ∀ b ∈ l, b < 256) : (convert 61 9 (.slice (some ⟨g, 0, none⟩) n c)).run Try.prog w = .ok (.string (strOf l)) w := conv_src n c hl (qb_src h) hb
def us0 : Cf := ⟨0, 0, 0, 0, 0, 0, 0, 0, 0, 5000⟩
theorem us0_any (w : World) : Calls Try.prog 76 #[.int .i64 0] w fun e w' => e = .returned (.agg us0.a) ∧ Below w.heap.size w w' := pusual_any 0 w
theorem us0_new (w : World) : Calls Try.prog 65 #[.agg us0.a] w fun e w' => ∃ x q : Nat, e = .returned (.tuple #[.pointer (some ⟨x, 0, none⟩), .int .i64 0]) ∧ Row w' x 122 (ECells us0 (.pointer (some ⟨q, 0, none⟩))) ∧ QRep w.heap.size w' q 5000 0 [] ∧ Below w.heap.size w w' ∧ w.heap.size ≤ x :=
  enew_ok 0 0 0 0 0 0 0 0 5000 w (by decide +kernel) (by omega) (by omega)
def us1 : Cf := ⟨1, 5, 16, 4, 0, 0, 0, 0, 0, 5000⟩
theorem us1_any (w : World) : Calls Try.prog 76 #[.int .i64 1] w fun e w' => e = .returned (.agg us1.a) ∧ Below w.heap.size w w' := pusual_any 1 w
theorem us1_new (w : World) : Calls Try.prog 65 #[.agg us1.a] w fun e w' => e = .returned (.tuple #[.pointer none, .int .i64 9]) ∧ Below w.heap.size w w' :=
  enew_kind 1 5 16 4 0 0 0 0 0 5000 w (by decide +kernel) (by omega)
theorem hear0 {x q : Nat} {A : Option Addr} {bs : List Nat} (n cap : Nat) (w : World) (hE : Row w x 122 (ECells us0 (.pointer (some ⟨q, 0, none⟩)))) (hn : bs.length = n) (h0 : 0 < n) (hm : n ≤ 1000) (hs : Src w A (bts bs)) (hb : ∀ b ∈ bs, b < 256) :
    Calls Try.prog 69 #[.pointer (some ⟨x, 0, none⟩), .slice A n cap] w fun e w' => ∃ g, e = .returned (.tuple #[.slice (some ⟨g, 0, none⟩) n n, .int .i64 0]) ∧ QBytes w' g bs ∧ Below w.heap.size w w' :=
  ehear_ok 0 0 0 0 0 0 0 0 5000 n cap w hE (by decide +kernel) hn h0 hm hs hb
theorem pla1 {x q B : Nat} {w : World} (hE : Row w x 122 (ECells us0 (.pointer (some ⟨q, 0, none⟩)))) (h : QRep B w q 5000 0 []) :
    Calls Try.prog 67 #[.pointer (some ⟨x, 0, none⟩), .slice (some ⟨w.heap.size, 0, none⟩) 2 2] (w.alloc (.cells #[.int .u8 97, .int .u8 98] 5 (2, 3))) fun e w' => e = .returned (.tuple #[.int .u64 1, .int .i64 0]) ∧ Row w' x 122 (ECells us0 (.pointer (some ⟨q, 0, none⟩))) ∧ (∃ t, t.id = 1 ∧ t.bs = [97, 98] ∧ QRep B w' q 5000 1 [t]) ∧ Below B w w' := by
  have hb0 := bl_alloc (Below.refl w.heap.size w) (.cells #[.int .u8 97, .int .u8 98] 5 (2, 3))
  have hB2 : B ≤ w.heap.size := h.2.1
  have hE2 := hE.later hb0
  refine (epush_all (l := [97, 98]) (some ⟨w.heap.size, 0, none⟩) 2 2 rfl hE2 (h.later hb0) (by omega) (by omega) (by simp [bytesF]) (by simp) (by omega) (by omega) (fun V hV => ((RowF.made w 5 #[.int .u8 97, .int .u8 98] (2, 3)).q (by decide) (by decide) hV).src (l := [97, 98]))).mono ?_
  rintro e w' ⟨nid, er, rfl, ho, ⟨h1, h2, _, _, _, _, t, h3, h4, _, h5⟩ | ⟨h1, _, _, _, h2⟩⟩
  · subst h1 h2
    exact ⟨rfl, ho.row hE2 (by decide) (by decide), ⟨t, h3, h4, h5⟩, (hb0.mono hB2).trans (ho.below (Nat.le_trans hB2 hb0.size))⟩
  · have := h2 (by simp) (by simp)
    simp [bytesF] at this
set_option maxRecDepth 100000 in
set_option maxHeartbeats 3200000 in
theorem ealive_any (w : World) : Calls Try.prog 73 #[] w fun e w' => e = .returned (.bool true) ∧ Below w.heap.size w w' := by
  have kc := fun w => Lib.run_convert_bytes_const (P := Try.prog) w 61 5 #[.int .u8 97, .int .u8 98] 2 2 Try.underlying61 Try.underlying5
  have HU0 := Lib.hid us0_any
  have HN0 := Lib.hid us0_new
  have HU1 := Lib.hid us1_any
  have HN1 := Lib.hid us1_new
  generalize us0.a = u0 at *
  generalize us1.a = u1 at *
  go_enter Try.func73, Try.ntmps73
  go_wp2_with (first
    | (go_at_call 76; (with_reducible refine (HU0.out _).mono ?_); rintro e w1 ⟨rfl, hb1⟩; (have HB1 := Lib.hid hb1; clear hb1))
    | (go_at_call 65; (with_reducible refine (HN0.out _).mono ?_); rintro e w2 ⟨x, q, rfl, he2, hq2, hb2, hx2⟩; (have HE2 := Lib.hid he2; have HQ2 := Lib.hid hq2; have HB2 := Lib.hid (bl_step HB1.out hb2); clear he2 hq2 hb2 hx2))
    | (go_at_call 67; (with_reducible refine (pla1 HE2.out HQ2.out).mono ?_); rintro e w3 ⟨rfl, he3, ⟨t, ht1, ht2, hq3⟩, hb3⟩; (have HE3 := Lib.hid he3; have HQ3 := Lib.hid hq3; have HB3 := Lib.hid hb3; have HT := Lib.hid (And.intro ht1 ht2); have HG := Lib.hid (ebuild_grant 1 he3 hq3 (by omega) (by omega) (by omega) (by rw [ht2]; decide) (by rw [ht2]; decide) (by rw [ht2]; decide)); clear he3 hq3 hb3 ht1 ht2))
    | (go_at_call 68; (with_reducible refine HG.out.mono ?_); rintro e w4 ⟨rfl, hb4⟩; (have HE4 := Lib.hid (HE3.out.later hb4); have HQ4 := Lib.hid (HQ3.out.later hb4); have HB4 := Lib.hid hb4; have HG2 := Lib.hid (ebuild_ok 2 (HE3.out.later hb4) (HQ3.out.later hb4) (by omega) (by omega) (by rw [HT.out.2]; decide) (by rw [HT.out.2]; decide) (by rw [HT.out.2]; decide) (by simp)); clear hb4))
    | (go_at_call 68; (with_reducible refine HG2.out.mono ?_); rintro e w5 ⟨g5, rfl, hg5, hby5, ho5, hq5⟩; (rw [HT.out.2] at hby5 ⊢; rw [HT.out.1]; have HE5 := Lib.hid (ho5.row HE4.out (by decide) (by decide)); have HY5 := Lib.hid hby5; have HO5 := Lib.hid ho5; have HH := Lib.hid (hear0 2 2 w5 HE5.out rfl (by omega) (by omega) (qb_src hby5) (by simp)); clear hg5 hby5 ho5 hq5))
    | (go_at_call 69; (with_reducible refine HH.out.mono ?_); rintro e w6 ⟨g6, rfl, hby6, hb6⟩; (have HY6 := Lib.hid hby6; have HY56 := Lib.hid (HY5.out.later hb6); have HB6 := Lib.hid hb6; clear hby6 hb6))
    | (go_at_call 76; (with_reducible refine (HU1.out _).mono ?_); rintro e w7 ⟨rfl, hb7⟩; (have HB7 := Lib.hid hb7; clear hb7))
    | (go_at_call 65; (with_reducible refine (HN1.out _).mono ?_); rintro e w8 ⟨rfl, hb8⟩; (have HB8 := Lib.hid (bl_step HB7.out hb8); clear hb8; have cv5 := qb_conv 2 2 rfl (HY56.out.later HB8.out) (by simp); have cv6 := qb_conv 2 2 rfl (HY6.out.later HB8.out) (by simp); have z2 : strOf [97, 98] = ⟨#[97, 98]⟩ := rfl; rw [z2] at cv5 cv6; clear z2)))
  go_ret
  refine ⟨rfl, ?_⟩
  have s2 := HQ2.out.2.1
  have s3 := HQ3.out.2.1
  have s4 := HQ4.out.2.1
  have s1 := HB1.out.size
  have s5 := HO5.out.size
  have s6 := HB6.out.size
  have b3 := HB2.out.trans (HB3.out.mono s1)
  have b4 := b3.trans (HB4.out.mono (Nat.le_trans s1 s3))
  have b5 := b4.trans ((HO5.out.below s4).mono s1)
  have b6 := b5.trans (HB6.out.mono (Nat.le_trans (Nat.le_trans s1 s4) s5))
  exact b6.trans (HB8.out.mono (Nat.le_trans (Nat.le_trans (Nat.le_trans s1 s4) s5) s6))
end Go.Proofs.Ytjobgnemklpiaaa
namespace Go.Proofs.Ytjobgnemklpiaaa
open Go.RowKit

theorem qrow_same {w : World} {k : Nat} {t u : TypeId} {cs ds : Array Value} (h : Row w k t cs) (h' : Row w k u ds) : t = u := by
  unfold Row at h h'
  rw [h] at h'
  injection h' with h'
  injection h' with _ h'

theorem OwnX.q {w w' : World} {B B' e size : Nat} {v : Value} {n : Nat} {xs : List Value} (h : OwnX w B' e size v n xs) (h1 : e ≠ 77) (h2 : e ≠ 167) (ho : QOnly B w w') : OwnX w' B' e size v n xs :=
  h.only ho fun k hk ⟨_, t, cs, hr, ht⟩ => by
    refine h.apart hr (fun e => ?_) hk
    subst e
    rcases ht with ht | ht
    · exact h1 ht
    · exact h2 ht

/-- blocks of one type that a queue has not -/
theorem QRep.apart {B : Nat} {w v : World} {p : Nat} {room : Int} {last : Nat} {ts : List Txt} {S : Nat → Prop} (h : QRep B w p room last ts) (ho : Only S w v) (hS : ∀ k, S k → ∀ t cs, Row w k t cs → t ≠ 77 ∧ t ≠ 167 ∧ t ≠ 5) : QRep B v p room last ts := by
  obtain ⟨h1, h2, sv, h3, h4, h5⟩ := h
  refine ⟨h1, by have := ho.size; omega, sv, h3.only ho (fun hk => (hS _ hk _ _ h3).1 rfl), h4.only ho (fun k hk hk' => ?_), fun t ht => ?_⟩
  · rcases h4.2 with ⟨rfl, _⟩ | ⟨g, cap, cur, rfl, _, hh, _⟩
    · simp [Value.ownBlock] at hk
    · have e : g = k := by simpa [Value.ownBlock] using hk
      subst e
      exact (hS _ hk' _ _ hh).2.1 rfl
  · obtain ⟨g1, g2, g3, cs, g4, g5⟩ := h5 t ht
    exact ⟨g1, g2, g3, cs, g4.only ho (fun hk => (hS _ hk _ _ g4).2.2 rfl), g5⟩
/-- blocks that are none of a queue's -/
theorem QRep.beside {B : Nat} {w v : World} {p : Nat} {room : Int} {last : Nat} {ts : List Txt} {S : Nat → Prop} (h : QRep B w p room last ts) (ho : Only S w v) (hS : ∀ k, S k → ∀ t cs, Row w k t cs → t = 5 ∧ ∀ x ∈ ts, x.g ≠ k) : QRep B v p room last ts := by
  obtain ⟨h1, h2, sv, h3, h4, h5⟩ := h
  refine ⟨h1, by have := ho.size; omega, sv, h3.only ho (fun hk => absurd (hS _ hk _ _ h3).1 (by decide)), h4.only ho (fun k hk hk' => ?_), fun t ht => ?_⟩
  · rcases h4.2 with ⟨rfl, _⟩ | ⟨g, cap, cur, rfl, _, hh, _⟩
    · simp [Value.ownBlock] at hk
    · have e : g = k := by simpa [Value.ownBlock] using hk
      subst e
      exact absurd (hS _ hk' _ _ hh).1 (by decide)
  · obtain ⟨g1, g2, g3, cs, g4, g5⟩ := h5 t ht
    exact ⟨g1, g2, g3, cs, g4.only ho (fun hk => (hS _ hk _ _ g4).2 t ht rfl), g5⟩
end Go.Proofs.Ytjobgnemklpiaaa
namespace Go.Proofs.Ytjobgnemklpiaaa
open Go.RowKit

theorem own_q {B B' e size n : Nat} {w w' : World} {v : Value} {xs : List Value} (h : w.ownsRow B' e size v n xs) (h1 : e ≠ 77) (h2 : e ≠ 167) (ho : QOnly B w w') : w'.ownsRow B' e size v n xs :=
  own_only h ho fun k hk ⟨_, t, cs, hr, ht⟩ => by
    refine own_apart h hr (fun e => ?_) hk
    subst e
    rcases ht with ht | ht
    · exact h1 ht
    · exact h2 ht
/-- one more row kept -/
theorem keep_tail {B : Nat} {w : World} {kv : Value} {L : List RowB} (h : w.ownsRow B 61 1 kv L.length (L.map RowB.v)) (r : RowB) (hB : B ≤ w.heap.size) (hL : L.length ≤ 1000) :
    ∃ A' c' w2, (Builtin.append_ #[57, 57] 57 #[kv, .slice (some ⟨w.heap.size, 0, none⟩) 1 1]).run Try.prog (w.alloc (.cells #[r.v] 61)) = .ok (.slice A' (L.length + 1) c') w2 ∧
      w2.ownsRow B 61 1 (.slice A' (L.length + 1) c') (L.length + 1) ((L ++ [r]).map RowB.v) ∧ Only (fun k => kv.ownBlock = some k) w w2 := by
  obtain ⟨i0, hi, hi0, hi1, hi2⟩ := info_parts Try.info61
  have hbA := bl_alloc (Below.refl w.heap.size w) (.cells #[r.v] 61)
  have a4' := own_later2 h hbA
  obtain ⟨v', w2, hrun, hown, hgr, _, hat⟩ := run_append_own_at (P := Try.prog) (w := w.alloc (.cells #[r.v] 61)) B 57 57 61 i0 _ 1 24 Try.underlying57 hi hi0 hi1 hi2 rfl (by omega) kv L.length (L.map RowB.v) a4' ⟨w.heap.size, 0, none⟩ 1 1 [r.v] rfl
    (fun j u hu => by
      match j, hu with
      | 0, hu =>
        simp only [List.getElem?_cons_zero, Option.some.injEq] at hu
        subst hu
        rw [add_pl]
        exact (Row.made w 61 #[r.v]).read rfl
      | j + 1, hu => simp at hu) (by intro u hu; simp at hu; subst hu; rfl) (by unfold maxLen; omega) (by omega) (by have := hbA.size; omega)
  have hon : Only (fun k => kv.ownBlock = some k) w w2 := (Only.of_below hbA).andThen ((Only.refl _ _).grown hgr (fun k hk => .inl hk) : Only (fun k => kv.ownBlock = some k) _ _) (fun k _ hk => hk)
  obtain ⟨A', c', rfl⟩ : ∃ A' c', v' = .slice A' (L.length + 1) c' := by
    rcases hown.2 with ⟨_, e⟩ | ⟨g, cap, cur, e, _⟩
    · omega
    · exact ⟨some ⟨g, 0, none⟩, cap, e⟩
  exact ⟨A', c', w2, hrun, by rw [List.map_append]; exact hown, hon⟩
/-- a queue beside a list of rows -/
theorem QRep.rows {B B' p last n : Nat} {room : Int} {ts : List Txt} {w v : World} {kv : Value} {xs : List Value} (h : QRep B w p room last ts) (hk : w.ownsRow B' 61 1 kv n xs) (ho : Only (fun k => kv.ownBlock = some k) w v) : QRep B v p room last ts :=
  h.apart ho (fun k hk9 t cs hr => by
    have h9 : ∀ t : TypeId, (61 : TypeId) ≠ t → ∀ ds, ¬ Row w k t ds := fun t hne ds hr => own_apart hk hr hne hk9
    refine ⟨fun e => ?_, fun e => ?_, fun e => ?_⟩
    · subst e; exact h9 _ (by decide) _ hr
    · subst e; exact h9 _ (by decide) _ hr
    · subst e; exact h9 _ (by decide) _ hr)
/-- after k texts: what was pushed and not discarded waits, and is kept as it came in -/
def POrd (W : World) (B x q k : Nat) (kv : Value) (wr : World) : Prop :=
  ∃ (last : Nat) (ts : List Txt) (rows : List RowB), QRep B wr q 5000 last ts ∧ last ≤ k ∧ bytesF ts ≤ 5000 ∧ ts.length ≤ 64 ∧ (∀ t ∈ ts, t.bg = false ∧ t.id ≤ last) ∧ ts.map Txt.bs = rows.map RowB.bs ∧
    wr.ownsRow B 61 1 kv rows.length (rows.map RowB.v) ∧ (∀ r ∈ rows, r.ok W ∧ 0 < r.bs.length ∧ r.bs.length ≤ 1000) ∧ rows.length ≤ k ∧ Row wr x 122 (ECells us0 (.pointer (some ⟨q, 0, none⟩))) ∧ Below W.heap.size W wr ∧ W.heap.size ≤ B
theorem POrd.form {W wr : World} {B x q k : Nat} {kv : Value} (h : POrd W B x q k kv wr) : ∃ A n c, kv = .slice A n c ∧ n ≤ k := by
  obtain ⟨last, ts, rows, _, _, _, _, _, _, h7, _, h9, _⟩ := h
  rcases h7.2 with ⟨rfl, _⟩ | ⟨g, cap, cur, rfl, _⟩
  · exact ⟨none, 0, 0, rfl, by omega⟩
  · exact ⟨_, _, cap, rfl, h9⟩
theorem POrd.more {W wr : World} {B x q k : Nat} {kv : Value} (h : POrd W B x q k kv wr) : POrd W B x q (k + 1) kv wr := by
  obtain ⟨last, ts, rows, h1, h2, h3, h4, h5, h6, h7, h8, h9, h10⟩ := h
  exact ⟨last, ts, rows, h1, by omega, h3, h4, h5, h6, h7, h8, by omega, h10⟩
theorem place_new {ts : List Txt} {t : Txt} {last : Nat} (h : ∀ t ∈ ts, t.id ≤ last) (ht : t.id = last + 1) : placeF (last + 1) (ts ++ [t]) = ts.length := by
  unfold placeF
  rw [List.findIdx_append]
  have h1 : ts.findIdx (fun t => t.id == last + 1) = ts.length := by
    rw [List.findIdx_eq_length]
    intro y hy
    have := h y hy
    simp
    omega
  rw [h1, if_neg (by omega)]
  simp [List.findIdx_cons, ht]
theorem disc_new {ts : List Txt} {t : Txt} {last : Nat} (h : ∀ t ∈ ts, t.id ≤ last) (ht : t.id = last + 1) (hb : t.bg = false) : discE (last + 1) (ts ++ [t]) = 0 ∧ discF (last + 1) (ts ++ [t]) = ts := by
  have hp := place_new h ht
  have hx : (ts ++ [t])[ts.length]? = some t := by simp
  unfold discE discF
  rw [hp, hx]
  simp only [hb]
  refine ⟨rfl, ?_⟩
  have : (ts ++ [t]).eraseIdx ts.length = ts := by
    rw [List.eraseIdx_append_of_length_le (by omega)]
    simp
  simpa using this
/-- a text is pushed -/
def PPush (W : World) (B x q k : Nat) (kv : Value) (r : RowB) (e : Ending) (w' : World) : Prop :=
  (∃ er : Int, e = .returned (.tuple #[.int .u64 0, .int .i64 er]) ∧ er ≠ 0 ∧ POrd W B x q (k + 1) kv w') ∨
  (∃ nid : Nat, e = .returned (.tuple #[.int .u64 nid, .int .i64 0]) ∧
    (Calls Try.prog 70 #[.pointer (some ⟨x, 0, none⟩), .int .u64 nid] w' fun e V => e = .returned (.int .i64 0) ∧ POrd W B x q (k + 1) kv V) ∧
    ∃ A n c, kv = .slice A n c ∧ n ≤ k ∧ ∃ A' c' w2, (Builtin.append_ #[57, 57] 57 #[.slice A n c, .slice (some ⟨w'.heap.size, 0, none⟩) 1 1]).run Try.prog (w'.alloc (.cells #[r.v] 61)) = .ok (.slice A' (n + 1) c') w2 ∧ POrd W B x q (k + 1) (.slice A' (n + 1) c') w2 ∧ Below W.heap.size W w')
theorem ppush_any {W w : World} {B x q k : Nat} {kv : Value} {r : RowB} (h : POrd W B x q k kv w) (hk : k ≤ 100) (hr : r.ok W) :
    Calls Try.prog 67 #[.pointer (some ⟨x, 0, none⟩), .slice r.A r.bs.length r.cap] w (PPush W B x q k kv r) := by
  obtain ⟨last, ts, rows, h1, h2, h3, h4, h5, h6, h7, h8, h9, h10, h11, h12⟩ := h
  have hB2 := h1.2.1
  have hlen := hr.2.1
  have hcap := hr.2.2.1
  refine (epush_all r.A r.bs r.bs.length r.cap rfl h10 h1 (by omega) (by omega) (by omega) h4 (by omega) (by omega) (fun V hV => src_later hr.1 (h11.trans ((hV.below hB2).mono h12)))).mono ?_
  rintro e w' ⟨nid, er, rfl, ho, ⟨rfl, rfl, k1, k2, k3, k4, t, k5, k6, k7, k8⟩ | ⟨k1, rfl, k2, _, _⟩⟩
  · have hE := ho.row h10 (by decide) (by decide)
    have hbl := h11.trans ((ho.below hB2).mono h12)
    have hown := own_q h7 (by decide) (by decide) ho
    have hle : ∀ y ∈ ts, y.id ≤ last := fun y hy => (h5 y hy).2
    refine .inr ⟨last + 1, rfl, ?_, ?_⟩
    · refine (edisc_any (last + 1) hE k8 (by omega) (by simp; omega)).mono ?_
      rintro e v ⟨rfl, d1, d2⟩
      obtain ⟨e1, e2⟩ := disc_new hle k5 k7
      rw [e2] at d1
      rw [e1]
      exact ⟨rfl, last + 1, ts, rows, d1, by omega, h3, h4, fun y hy => ⟨(h5 y hy).1, by have := (h5 y hy).2; omega⟩, h6, own_q hown (by decide) (by decide) d2, h8, by omega, d2.row hE (by decide) (by decide), hbl.trans ((d2.below k8.2.1).mono h12), h12⟩
    · obtain ⟨A', c', w2, a1, a2, a3⟩ := keep_tail hown r k8.2.1 (by omega)
      obtain ⟨A, n, c, ekv, hn⟩ : ∃ A n c, kv = .slice A n c ∧ n = rows.length := by
        rcases h7.2 with ⟨rfl, e⟩ | ⟨g, cap, cur, rfl, _⟩
        · exact ⟨none, 0, 0, rfl, e.symm⟩
        · exact ⟨_, _, cap, rfl, rfl⟩
      subst ekv hn
      refine ⟨A, rows.length, c, rfl, h9, A', c', w2, a1, ⟨last + 1, ts ++ [t], rows ++ [r], k8.rows hown a3, by omega, by rw [bytesF_snoc, k6]; omega, by simp; omega, ?_, by simp [h6, k6], ?_, ?_, by simp; omega, ?_, ?_, h12⟩, hbl⟩
      · intro y hy
        rw [List.mem_append, List.mem_singleton] at hy
        rcases hy with hy | rfl
        · exact ⟨(h5 y hy).1, by have := (h5 y hy).2; omega⟩
        · exact ⟨k7, by omega⟩
      · rw [List.length_append]
        exact a2
      · intro y hy
        rw [List.mem_append, List.mem_singleton] at hy
        rcases hy with hy | rfl
        · exact h8 y hy
        · exact ⟨hr, k1, k2⟩
      · exact hE.only a3 (fun e => own_apart hown hE (by decide) e)
      · exact hbl.trans (a3.below (Nat.le_trans h12 k8.2.1) (fun j hj hx => by have := (own_block hown j hx).1; omega))
  · exact .inl ⟨er, rfl, k1, last, ts, rows, k2, by omega, h3, h4, h5, h6, own_q h7 (by decide) (by decide) ho, h8, by omega, ho.row h10 (by decide) (by decide), h11.trans ((ho.below hB2).mono h12), h12⟩
/-- n of the rows were built -/
def POrd2 (W : World) (B x q n : Nat) (rows : List RowB) (kv : Value) (wr : World) : Prop :=
  ∃ (last : Nat) (ts : List Txt), QRep B wr q 5000 last ts ∧ bytesF ts ≤ 5000 ∧ ts.length ≤ 64 ∧ ts.map Txt.bs = (rows.drop n).map RowB.bs ∧
    wr.ownsRow B 61 1 kv rows.length (rows.map RowB.v) ∧ (∀ r ∈ rows, r.ok W ∧ 0 < r.bs.length ∧ r.bs.length ≤ 1000) ∧ n ≤ rows.length ∧ Row wr x 122 (ECells us0 (.pointer (some ⟨q, 0, none⟩))) ∧ Below W.heap.size W wr ∧ W.heap.size ≤ B
theorem POrd.second {W wr : World} {B x q k : Nat} {kv : Value} (h : POrd W B x q k kv wr) : ∃ (rows : List RowB) (A : Option Addr) (c : Nat), kv = .slice A rows.length c ∧ rows.length ≤ k ∧ POrd2 W B x q 0 rows kv wr := by
  obtain ⟨last, ts, rows, h1, h2, h3, h4, h5, h6, h7, h8, h9, h10, h11, h12⟩ := h
  obtain ⟨A, c, ekv⟩ : ∃ A c, kv = .slice A rows.length c := by
    rcases h7.2 with ⟨rfl, e⟩ | ⟨g, cap, cur, rfl, _⟩
    · exact ⟨none, 0, by rw [e]⟩
    · exact ⟨_, cap, rfl⟩
  exact ⟨rows, A, c, ekv, h9, last, ts, h1, h3, h4, by rw [List.drop_zero]; exact h6, h7, h8, by omega, h10, h11, h12⟩
/-- what is built -/
def PBuilt (W : World) (B x q n : Nat) (rows : List RowB) (kv : Value) (g : Nat) (e : Ending) (w' : World) : Prop :=
  (∃ er : Int, e = .returned (.tuple #[.slice none 0 0, .int .u64 0, .int .i64 er]) ∧ er ≠ 0 ∧ POrd2 W B x q n rows kv w' ∧ (n = rows.length ∨ ∃ r, rows[n]? = some r ∧ g < r.bs.length)) ∨
  (∃ (r : RowB) (g' nid : Nat), rows[n]? = some r ∧ e = .returned (.tuple #[.slice (some ⟨g', 0, none⟩) r.bs.length r.bs.length, .int .u64 nid, .int .i64 0]) ∧ QBytes w' g' r.bs ∧ r.bs.length ≤ g ∧ POrd2 W B x q (n + 1) rows kv w')
theorem pbuild_any {W w : World} {B x q n g : Nat} {rows : List RowB} {kv : Value} (h : POrd2 W B x q n rows kv w) (hg : g ≤ 4096) :
    Calls Try.prog 68 #[.pointer (some ⟨x, 0, none⟩), .int .i64 g] w (PBuilt W B x q n rows kv g) := by
  obtain ⟨last, ts, h1, h2, h3, h4, h5, h6, h7, h8, h9, h10⟩ := h
  cases ts with
  | nil =>
    have hn : n = rows.length := by
      have := congrArg List.length h4
      simp at this
      omega
    refine (ebuild_none (g : Int) h8 h1 (by omega) (by omega) (by omega)).mono ?_
    rintro e w' ⟨rfl, rfl⟩
    exact .inl ⟨4, rfl, by omega, ⟨last, [], h1, h2, h3, h4, h5, h6, h7, h8, h9, h10⟩, .inl hn⟩
  | cons t r =>
    have hn : n < rows.length := by
      have := congrArg List.length h4
      simp at this
      omega
    obtain ⟨y, hy⟩ : ∃ y, rows[n]? = some y := ⟨_, List.getElem?_eq_getElem hn⟩
    have hd : rows.drop n = y :: rows.drop (n + 1) := by
      rw [List.drop_eq_getElem_cons hn]
      obtain ⟨_, e⟩ := List.getElem?_eq_some_iff.1 hy
      rw [e]
    rw [hd] at h4
    simp only [List.map_cons, List.cons.injEq] at h4
    obtain ⟨e1, e2⟩ := h4
    obtain ⟨y1, y2, y3⟩ := h6 y (List.mem_of_getElem? hy)
    rw [bytesF_cons] at h2
    simp only [List.length_cons] at h3
    have hl0 : 0 < t.bs.length := by rw [e1]; exact y2
    have hl1 : t.bs.length ≤ 1000 := by rw [e1]; exact y3
    rcases Nat.lt_or_ge g t.bs.length with hlt | hge
    · refine (ebuild_grant (g : Int) h8 h1 (by omega) (by omega) (by omega) hl0 (by omega) (by omega)).mono ?_
      rintro e w' ⟨rfl, hb⟩
      exact .inl ⟨16, rfl, by omega, ⟨last, t :: r, h1.later hb, by rw [bytesF_cons]; exact h2, by simp; omega, by rw [hd]; simp [e1, e2], own_later2 h5 hb, h6, h7, h8.later hb, bl_step h9 hb, h10⟩, .inr ⟨y, hy, by rw [← e1]; exact hlt⟩⟩
    · refine (ebuild_ok (g : Int) h8 h1 (by omega) (by omega) hl0 (by omega) (by omega) (by omega)).mono ?_
      rintro e w' ⟨g', rfl, k1, k2, k3, k4⟩
      refine .inr ⟨y, g', t.id, hy, by rw [e1], by rw [← e1]; exact k2, by rw [← e1]; exact hge, last, r, k4, by omega, by omega, e2, own_q h5 (by decide) (by decide) k3, h6, by omega, k3.row h8 (by decide) (by decide), h9.trans ((k3.below h1.2.1).mono h10), h10⟩
theorem POrd2.later {W w v : World} {B x q n : Nat} {rows : List RowB} {kv : Value} (h : POrd2 W B x q n rows kv w) (hb : Below w.heap.size w v) : POrd2 W B x q n rows kv v := by
  obtain ⟨last, ts, h1, h2, h3, h4, h5, h6, h7, h8, h9, h10⟩ := h
  exact ⟨last, ts, h1.later hb, h2, h3, h4, own_later2 h5 hb, h6, h7, h8.later hb, bl_step h9 hb, h10⟩
theorem POrd2.hear {W w : World} {B x q n : Nat} {rows : List RowB} {kv : Value} {A : Option Addr} {bs : List Nat} (h : POrd2 W B x q n rows kv w) (k c : Nat) (hk : bs.length = k) (h0 : 0 < k) (h1 : k ≤ 1000) (hs : Src w A (bts bs)) (hb : ∀ b ∈ bs, b < 256) :
    Calls Try.prog 69 #[.pointer (some ⟨x, 0, none⟩), .slice A k c] w fun e w' => ∃ g, e = .returned (.tuple #[.slice (some ⟨g, 0, none⟩) k k, .int .i64 0]) ∧ QBytes w' g bs ∧ Below w.heap.size w w' := by
  obtain ⟨last, ts, _, _, _, _, _, _, _, h8, _⟩ := h
  exact hear0 k c w h8 hk h0 h1 hs hb
theorem POrd2.empty {W w : World} {B x q n : Nat} {rows : List RowB} {kv : Value} (h : POrd2 W B x q n rows kv w) :
    Calls Try.prog 71 #[.pointer (some ⟨x, 0, none⟩)] w fun e w' => (∃ b : Nat, e = .returned (.int .i64 b) ∧ (n = rows.length → b = 0)) ∧ Below w.heap.size w w' := by
  obtain ⟨last, ts, h1, h2, h3, h4, h5, h6, h7, h8, h9, h10⟩ := h
  refine (ebytes_any h8 h1 (by omega) (by omega)).mono ?_
  rintro e w' ⟨rfl, hb⟩
  refine ⟨⟨bytesF ts, rfl, fun hn => ?_⟩, hb⟩
  rw [hn, List.drop_length] at h4
  have : ts = [] := by simpa using h4
  rw [this]
  rfl
end Go.Proofs.Ytjobgnemklpiaaa
namespace Go.Proofs.Ytjobgnemklpiaaa
open Go.ChangeShapes Go.WideShapes Go.ChangeAt Go.RowKit Go.Deep


theorem Try.cells5 : Try.prog.cellsOf 5 = 1 := by kernel_rfl
theorem Try.cells61 : Try.prog.cellsOf 61 = 1 := by kernel_rfl
theorem nums_src {W : World} {a : Addr} {cap len : Nat} {zs : List Int} (hl : len ≤ cap) (hz : zs.length = cap) (hc : ∀ j, j < cap → W.cell? (a.add j) = some (.int .u8 (zs.getD j 0))) (hw : ∀ n ∈ zs, (Lit.int .u8 n).wf = true) :
    ((zs.take len).map Int.toNat).length = len ∧ Src W (some a) (bts ((zs.take len).map Int.toNat)) ∧ ∀ b ∈ (zs.take len).map Int.toNat, b < 256 := by
  have hlen : ((zs.take len).map Int.toNat).length = len := by rw [List.length_map, List.length_take]; omega
  refine ⟨hlen, fun h0 => ⟨a, rfl, fun j u hu => ?_⟩, fun b hb => ?_⟩
  · have hj : j < len := by
      have h1 := (List.getElem?_eq_some_iff.1 hu).1
      rw [length_bts, hlen] at h1
      exact h1
    have h2 := hc j (by omega)
    rw [h2]
    have hjz : j < zs.length := by omega
    have hww := bounds_u8 (hw zs[j] (List.getElem_mem hjz))
    have h3 : ((zs.take len).map Int.toNat)[j]? = some zs[j].toNat := by
      rw [List.getElem?_map, List.getElem?_take, if_pos hj, List.getElem?_eq_getElem hjz]
      rfl
    have h4 := bts_at h3
    rw [h4] at hu
    injection hu with hu
    rw [← hu, List.getD_eq_getElem?_getD, List.getElem?_eq_getElem hjz]
    simp only [Option.getD_some]
    rw [Int.toNat_of_nonneg hww.1]
  · rw [List.mem_map] at hb
    obtain ⟨z, hz2, rfl⟩ := hb
    have hww := bounds_u8 (hw z (List.mem_of_mem_take hz2))
    omega
set_option maxRecDepth 100000 in
theorem bytes_arg {H : Type} {enc : TypeId × Value → H} {W : World} {base : Nat} {v : Value} {d : DataW H} {p : List MemPlace} (hok : Value.okWide Try.prog W .any base 61 v)
    (h : DataW.Trod enc Try.prog W 0 (fun _ => true) true 61 v d p) : ∃ (A : Option Addr) (cap : Nat) (l : List Nat), v = .slice A l.length cap ∧ l.length ≤ cap ∧ cap ≤ 9223372036854775807 ∧ Src W A (bts l) ∧ ∀ b ∈ l, b < 256 := by
  obtain ⟨a0, len, cap, rfl⟩ := okWide_slice Try.underlying61 hok
  obtain ⟨fuel, hf⟩ := h
  rcases open_ints Try.underlying61 Try.underlying5 Try.cells5 hf with ⟨hcs, _⟩ | ⟨a, len', cap', zs, hcs, _, hl, hm, hz, _, hcell, hwz⟩
  · simp only [Value.cells] at hcs
    have e : Value.slice a0 len cap = .slice none 0 0 := by simpa using hcs
    rw [e]
    exact ⟨none, 0, [], rfl, Nat.le_refl _, by omega, fun h0 => absurd h0 (by simp [bts]), fun b hb => by cases hb⟩
  · have e : Value.slice a0 len cap = .slice (some a) len' cap' := by simpa [Value.cells] using hcs
    rw [e]
    have hz' : zs.length = cap' := by simpa using hz
    obtain ⟨h1, h2, h3⟩ := nums_src (W := W) (a := a) hl hz' (fun j hj => hcell j (by omega)) hwz
    exact ⟨some a, cap', _, by rw [h1], by omega, by unfold maxLen at hm; exact hm, h2, h3⟩
set_option maxRecDepth 100000 in
theorem rows_cells {H : Type} {enc : TypeId × Value → H} {W : World} {fuel : Nat} {v : Value} {y : DataW H × List MemPlace} (hf : DataW.trod enc Try.prog W 0 (fun _ => true) true fuel 57 [v] = some y) :
    ∃ (A : Option Addr) (cap : Nat) (L : List RowB), v = .slice A L.length cap ∧ L.length ≤ cap ∧ cap ≤ 9223372036854775807 ∧ RSrc W A L ∧ ∀ m ∈ lens L, m ≤ 9223372036854775807 := by
  rcases open_int_rows Try.underlying57 Try.underlying61 Try.underlying5 Try.cells61 Try.cells5 hf with ⟨hcs, _⟩ | ⟨a, len', cap', A, L, C, Z, hcs, _, hl, hm, _, hx⟩
  · have e : v = .slice none 0 0 := by simpa [Value.cells] using hcs
    rw [e]
    exact ⟨none, 0, [], rfl, Nat.le_refl _, by omega, fun h0 => absurd h0 (by simp), fun m hm => by cases hm⟩
  · have e : v = .slice (some a) len' cap' := by simpa [Value.cells] using hcs
    rw [e]
    have hlen : ((List.range len').map fun k => (⟨A k, C k, ((Z k).take (L k)).map Int.toNat⟩ : RowB)).length = len' := by simp
    have hrow : ∀ k r, ((List.range len').map fun k => (⟨A k, C k, ((Z k).take (L k)).map Int.toNat⟩ : RowB))[k]? = some r → W.cell? (a.add k) = some r.v ∧ r.ok W := by
      intro k r hr
      have hk : k < len' := by
        have h1 := (List.getElem?_eq_some_iff.1 hr).1
        rw [hlen] at h1
        exact h1
      have hr' : r = ⟨A k, C k, ((Z k).take (L k)).map Int.toNat⟩ := by
        rw [List.getElem?_map, List.getElem?_range hk] at hr
        simp only [Option.map_some, Option.some.injEq] at hr
        exact hr.symm
      subst hr'
      obtain ⟨h1, h2, h3, h4, h5, h6, h7⟩ := hx k (by omega)
      unfold maxLen at h3
      have hll : (((Z k).take (L k)).map Int.toNat).length = L k := by rw [List.length_map, List.length_take]; omega
      refine ⟨by rw [h1]; show _ = some (Value.slice (A k) (((Z k).take (L k)).map Int.toNat).length (C k)); rw [hll], ?_⟩
      cases hA : A k with
      | none =>
        have hc0 := h6 hA
        have hl0 : L k = 0 := by omega
        refine ⟨fun h0 => ?_, by rw [hll]; exact h2, h3, fun b hb => ?_⟩
        · rw [length_bts, hll] at h0; omega
        · rw [hl0] at hb; simp at hb
      | some a' =>
        obtain ⟨_, hc⟩ := h7 a' hA
        obtain ⟨_, g2, g3⟩ := nums_src (W := W) h2 h4 hc h5
        exact ⟨g2, by rw [hll]; exact h2, h3, g3⟩
    refine ⟨some a, cap', (List.range len').map fun k => ⟨A k, C k, ((Z k).take (L k)).map Int.toNat⟩, by rw [hlen], by omega, by unfold maxLen at hm; exact hm, fun h0 => ⟨a, rfl, hrow⟩, fun m hm2 => ?_⟩
    obtain ⟨k, hk⟩ := List.getElem?_of_mem hm2
    simp only [lens, List.getElem?_map, Option.map_eq_some_iff] at hk
    obtain ⟨r, hr, rfl⟩ := hk
    have h9 := (hrow k r (by rw [List.getElem?_map, Option.map_eq_some_iff]; exact hr)).2
    have := h9.2.1
    have := h9.2.2.1
    omega
set_option maxRecDepth 100000 in
/-- a packet of umd as it came in -/
theorem upack_arg {H : Type} {enc : TypeId × Value → H} {W : World} {base : Nat} {v : Value} {d : DataW H} {p : List MemPlace} (hok : Value.okWide Try.prog W .any base 152 v)
    (h : DataW.Trod enc Try.prog W 0 (fun _ => true) true 152 v d p) : ∃ (fi sn : Int) (A : Option Addr) (cap : Nat) (L : List RowB), v = .agg #[.int .i64 fi, .int .i64 sn, .slice A L.length cap] ∧ L.length ≤ cap ∧ cap ≤ 9223372036854775807 ∧ RSrc W A L ∧ ∀ m ∈ lens L, m ≤ 9223372036854775807 := by
  obtain ⟨v0, v1, v2, y0, y1, y2, k, rfl, _, _, h0, h1, h2⟩ := Joins.open_agg3 Try.underlying152 (by kernel_rfl) (by kernel_rfl) hok h
  obtain ⟨A, cap, L, rfl, g1, g2, g3, g4⟩ := rows_cells h2
  obtain ⟨fi, rfl⟩ : ∃ fi, v0 = .int .i64 fi := by
    obtain ⟨n, h9, _⟩ := DataW.trod_int Try.underlying3 h0
    exact ⟨n, by simpa using h9⟩
  obtain ⟨sn, rfl⟩ : ∃ sn, v1 = .int .i64 sn := by
    obtain ⟨n, h9, _⟩ := DataW.trod_int Try.underlying3 h1
    exact ⟨n, by simpa using h9⟩
  exact ⟨fi, sn, A, cap, L, rfl, g1, g2, g3, g4⟩
end Go.Proofs.Ytjobgnemklpiaaa
namespace Go.Proofs.Ytjobgnemklpiaaa
open Go.ChangeShapes Go.WideShapes Go.ChangeAt Go.RowKit Go.Deep

theorem Try.cells101 : Try.prog.cellsOf 101 = 1 := by kernel_rfl
/-- numbers of 16 bits as values -/
def u16v (l : List Nat) : List Value := l.map fun b : Nat => .int .u16 b
theorem length_u16v (l : List Nat) : (u16v l).length = l.length := by simp [u16v]
theorem u16v_at {l : List Nat} {i b : Nat} (h : l[i]? = some b) : (u16v l)[i]? = some (.int .u16 b) := by simp [u16v, h]
theorem nums_src16 {W : World} {a : Addr} {cap len : Nat} {zs : List Int} (hl : len ≤ cap) (hz : zs.length = cap) (hc : ∀ j, j < cap → W.cell? (a.add j) = some (.int .u16 (zs.getD j 0))) (hw : ∀ n ∈ zs, (Lit.int .u16 n).wf = true) :
    ((zs.take len).map Int.toNat).length = len ∧ Src W (some a) (u16v ((zs.take len).map Int.toNat)) ∧ ∀ b ∈ (zs.take len).map Int.toNat, b < 65536 := by
  have hlen : ((zs.take len).map Int.toNat).length = len := by rw [List.length_map, List.length_take]; omega
  refine ⟨hlen, fun h0 => ⟨a, rfl, fun j u hu => ?_⟩, fun b hb => ?_⟩
  · have hj : j < len := by
      have h1 := (List.getElem?_eq_some_iff.1 hu).1
      rw [length_u16v, hlen] at h1
      exact h1
    have h2 := hc j (by omega)
    rw [h2]
    have hjz : j < zs.length := by omega
    have hww := bounds_u16 (hw zs[j] (List.getElem_mem hjz))
    have h3 : ((zs.take len).map Int.toNat)[j]? = some zs[j].toNat := by
      rw [List.getElem?_map, List.getElem?_take, if_pos hj, List.getElem?_eq_getElem hjz]
      rfl
    have h4 := u16v_at h3
    rw [h4] at hu
    injection hu with hu
    rw [← hu, List.getD_eq_getElem?_getD, List.getElem?_eq_getElem hjz]
    simp only [Option.getD_some]
    rw [Int.toNat_of_nonneg hww.1]
  · rw [List.mem_map] at hb
    obtain ⟨z, hz2, rfl⟩ := hb
    have hww := bounds_u16 (hw z (List.mem_of_mem_take hz2))
    omega
set_option maxRecDepth 100000 in
theorem u16s_arg {H : Type} {enc : TypeId × Value → H} {W : World} {base : Nat} {v : Value} {d : DataW H} {p : List MemPlace} (hok : Value.okWide Try.prog W .any base 100 v)
    (h : DataW.Trod enc Try.prog W 0 (fun _ => true) true 100 v d p) : ∃ (A : Option Addr) (cap : Nat) (l : List Nat), v = .slice A l.length cap ∧ l.length ≤ cap ∧ cap ≤ 9223372036854775807 ∧ Src W A (u16v l) ∧ ∀ b ∈ l, b < 65536 := by
  obtain ⟨a0, len, cap, rfl⟩ := okWide_slice Try.underlying100 hok
  obtain ⟨fuel, hf⟩ := h
  rcases open_ints Try.underlying100 Try.underlying101 Try.cells101 hf with ⟨hcs, _⟩ | ⟨a, len', cap', zs, hcs, _, hl, hm, hz, _, hcell, hwz⟩
  · simp only [Value.cells] at hcs
    have e : Value.slice a0 len cap = .slice none 0 0 := by simpa using hcs
    rw [e]
    exact ⟨none, 0, [], rfl, Nat.le_refl _, by omega, fun h0 => absurd h0 (by simp [u16v]), fun b hb => by cases hb⟩
  · have e : Value.slice a0 len cap = .slice (some a) len' cap' := by simpa [Value.cells] using hcs
    rw [e]
    have hz' : zs.length = cap' := by simpa using hz
    obtain ⟨h1, h2, h3⟩ := nums_src16 (W := W) (a := a) hl hz' (fun j hj => hcell j (by omega)) hwz
    exact ⟨some a, cap', _, by rw [h1], by omega, by unfold maxLen at hm; exact hm, h2, h3⟩
end Go.Proofs.Ytjobgnemklpiaaa
