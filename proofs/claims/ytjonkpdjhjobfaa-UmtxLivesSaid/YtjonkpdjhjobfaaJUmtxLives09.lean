/-
  A text is pushed: whatever comes of it. A law's own lists beside a queue: what the queue's calls do leaves them as they are, and what is appended to them leaves the queue as it is. Fields' bytes, one behind the other. Bytes cut into fields: plain lists. Bytes cut into fields of a call's own. cut: which queue may be; fields and numbers of texts in memory while a piece is built. Bytes cut into fields of a call's own: the loop. The fields behind a head, read.
-/
import Derived.Test.YtjonkpdjhjobfaaJUmtxLives08
import Derived.Test.YtjonkpdjhjobfaaJUmtxLives05
import Derived.Test.YtjonkpdjhjobfaaJUmtxLives06
import Derived.Test.YtjonkpdjhjobfaaJUmtxLives03
import Derived.Test.YtjonkpdjhjobfaaJUmtxLives02
import Derived.Test.YtjonkpdjhjobfaaJUmtxLives07
import Derived.DataElems
namespace Go.Proofs.Ytjonkpdjhjobfaa
open Go.RowKit

theorem src_qsrc {W : World} {A : Option Addr} {l : List Nat} (h : Src W A (bts l)) : QSrcB W A (qbts l) := by
  intro h0
  obtain ⟨ad, rfl, hc⟩ := h h0
  obtain ⟨b, off, spot⟩ := ad
  have hspot : spot = none := by
    have h1 := hc 0 _ (List.getElem?_eq_getElem h0)
    simpa [Addr.add] using World.cell?_spot h1
  subst hspot
  refine ⟨b, off, rfl, fun j u hu => ?_⟩
  have h2 := hc j u hu
  have e : (⟨b, off, none⟩ : Addr).add j = ⟨b, off + j, none⟩ := by
    unfold Addr.add
    split
    · rename_i h; rw [h]; rfl
    · rfl
  rwa [e] at h2
theorem qsrc_src {W : World} {A : Option Addr} {l : List Nat} (h : QSrcB W A (qbts l)) : Src W A (bts l) := by
  intro h0
  obtain ⟨b, off, rfl, hc⟩ := h h0
  refine ⟨_, rfl, fun j u hu => ?_⟩
  have e : (⟨b, off, none⟩ : Addr).add j = ⟨b, off + j, none⟩ := by
    unfold Addr.add
    split
    · rename_i h; rw [h]; rfl
    · rfl
  rw [e]
  exact hc j u hu
/-- the same; the text lies in new memory -/
def PushAnyG (B p last : Nat) (room : Int) (ts : List Txt) (l : List Nat) (w : World) (e : Ending) (w' : World) : Prop :=
  ∃ (nid : Nat) (er : Int), e = .returned (.tuple #[.int .u64 nid, .int .i64 er]) ∧ QOnly B w w' ∧
    ((er = 0 ∧ nid = last + 1 ∧ 0 < l.length ∧ l.length ≤ 1000 ∧ ts.length < 64 ∧ (bytesF ts : Int) + l.length ≤ room ∧ ∃ t : Txt, t.id = last + 1 ∧ t.bs = l ∧ t.bg = false ∧ w.heap.size ≤ t.g ∧ QRep B w' p room (last + 1) (ts ++ [t])) ∨
     (er ≠ 0 ∧ nid = 0 ∧ QRep B w' p room last ts ∧ (er = if l.length = 0 then 1 else if 1000 < l.length then 2 else 5) ∧ (0 < l.length → l.length ≤ 1000 → ts.length = 64 ∨ room < (bytesF ts : Int) + l.length)))
theorem push_allg {B p last : Nat} {room : Int} {ts : List Txt} {w : World} (A : Option Addr) (l : List Nat) (c : Nat) (h : QRep B w p room last ts) (hr : 0 < room) (hr2 : room ≤ 20000) (hb : (bytesF ts : Int) ≤ room) (hts : ts.length ≤ 64) (hll : l.length ≤ 9223372036854775807) (hlast : last ≤ 1000000000)
    (hsrc : ∀ W, QOnly B w W → QSrcB W A (qbts l)) :
    Calls Try.prog 82 #[.pointer (some ⟨p, 0, none⟩), .slice A l.length c] w (PushAnyG B p last room ts l w) := by
  rcases Nat.eq_zero_or_pos l.length with h0 | h0
  · rw [h0]
    refine (push_arg A c h hr).mono ?_
    rintro e w' ⟨rfl, rfl⟩
    exact ⟨0, 1, rfl, QOnly.refl _ _, .inr ⟨by omega, rfl, h, by rw [if_pos h0], fun _ _ => by omega⟩⟩
  · rcases Nat.lt_or_ge 1000 l.length with h1 | h1
    · refine (push_long A l.length c h hr h1 hll).mono ?_
      rintro e w' ⟨rfl, rfl⟩
      exact ⟨0, 2, rfl, QOnly.refl _ _, .inr ⟨by omega, rfl, h, by rw [if_neg (by omega), if_pos h1], fun _ _ => by omega⟩⟩
    · by_cases hf : ts.length = 64 ∨ room < (bytesF ts : Int) + l.length
      · refine (push_full A l.length c h hr hr2 hb h0 h1 hts hf).mono ?_
        rintro e w' ⟨rfl, hbl⟩
        exact ⟨0, 5, rfl, QOnly.of_below hbl, .inr ⟨by omega, rfl, h.later hbl, by rw [if_neg (by omega), if_neg (by omega)], fun _ _ => hf⟩⟩
      · refine (push_okg A l c h hr hr2 h0 h1 (by omega) (by omega) hlast hsrc).mono ?_
        rintro e w' ⟨rfl, ⟨t, h2, h3, h4, h45, h5⟩, h6⟩
        exact ⟨last + 1, 0, by simp, h6, .inl ⟨rfl, rfl, h0, h1, by omega, by omega, t, h2, h3, h4, h45, h5⟩⟩
end Go.Proofs.Ytjonkpdjhjobfaa
namespace Go.Proofs.Ytjonkpdjhjobfaa
open Go.RowKit

theorem qrow_same {w : World} {k : Nat} {t u : TypeId} {cs ds : Array Value} (h : Row w k t cs) (h' : Row w k u ds) : t = u := by
  unfold Row at h h'
  rw [h] at h'
  injection h' with h'
  injection h' with _ h'

theorem OwnX.q {w w' : World} {B B' e size : Nat} {v : Value} {n : Nat} {xs : List Value} (h : OwnX w B' e size v n xs) (h1 : e ≠ 214) (h2 : e ≠ 217) (ho : QOnly B w w') : OwnX w' B' e size v n xs :=
  h.only ho fun k hk ⟨_, t, cs, hr, ht⟩ => by
    refine h.apart hr (fun e => ?_) hk
    subst e
    rcases ht with ht | ht
    · exact h1 ht
    · exact h2 ht

/-- blocks of one type that a queue has not -/
theorem QRep.apart {B : Nat} {w v : World} {p : Nat} {room : Int} {last : Nat} {ts : List Txt} {S : Nat → Prop} (h : QRep B w p room last ts) (ho : Only S w v) (hS : ∀ k, S k → ∀ t cs, Row w k t cs → t ≠ 214 ∧ t ≠ 217 ∧ t ≠ 5) : QRep B v p room last ts := by
  obtain ⟨h1, h2, sv, h3, h4, h5⟩ := h
  refine ⟨h1, by have := ho.size; omega, sv, h3.only ho (fun hk => (hS _ hk _ _ h3).1 rfl), h4.only ho (fun k hk hk' => ?_), fun t ht => ?_⟩
  · rcases h4.2 with ⟨rfl, _⟩ | ⟨g, cap, cur, rfl, _, hh, _⟩
    · simp [Value.ownBlock] at hk
    · have e : g = k := by simpa [Value.ownBlock] using hk
      subst e
      exact (hS _ hk' _ _ hh).2.1 rfl
  · obtain ⟨g1, g2, g3, cs, g4, g5⟩ := h5 t ht
    exact ⟨g1, g2, g3, cs, g4.only ho (fun hk => (hS _ hk _ _ g4).2.2 rfl), g5⟩
end Go.Proofs.Ytjonkpdjhjobfaa
namespace Go.Proofs.Ytjonkpdjhjobfaa
open Go.RowKit


theorem own_later2 {B : Nat} {e : TypeId} {size n : Nat} {w v : World} {x : Value} {xs : List Value} (h : w.ownsRow B e size x n xs) (hb : Below w.heap.size w v) : v.ownsRow B e size x n xs :=
  own_only h (S := fun _ => False) (.of_below hb) (fun _ _ h => h)
/-- bytes of the call's own -/
def OwnY (B : Nat) (w : World) (v : Value) (l : List Nat) : Prop := w.ownsRow B 5 1 v l.length (bts l)
section
variable {B : Nat} {w w' : World} {v : Value} {l : List Nat}
theorem OwnY.form (h : OwnY B w v l) : ∃ A c, v = .slice A l.length c ∧ l.length ≤ c ∧ c ≤ maxLen := by
  rcases h.2 with ⟨rfl, h0⟩ | ⟨g, cap, cur, rfl, _, _, h1, h2, _⟩
  · exact ⟨none, 0, by rw [h0], by omega, by simp [maxLen]⟩
  · exact ⟨_, cap, rfl, h1, h2⟩
theorem OwnY.src {A : Option Addr} {n c : Nat} (h : OwnY B w (.slice A n c) l) : Src w A (bts l) := by
  obtain ⟨A', c', e, _⟩ := h.form
  injection e with e1 e2 e3
  subst e1 e2 e3
  exact src_own h
theorem OwnY.only {S : Nat → Prop} (h : OwnY B w v l) (ho : Only S w w') (hS : ∀ k, v.ownBlock = some k → ¬ S k) : OwnY B w' v l := own_only h ho hS
theorem OwnY.later (h : OwnY B w v l) (hb : Below w.heap.size w w') : OwnY B w' v l := own_later2 h hb
theorem OwnY.down {B' : Nat} (h : OwnY B w v l) (hb : B' ≤ B) : OwnY B' w v l := own_down h hb
theorem OwnY.conv (h : OwnY B w v l) (hb : ∀ b ∈ l, b < 256) : (convert 38 9 v).run Try.prog w = .ok (.string (strOf l)) w := conv_own h hb
end
theorem own_only_below {B : Nat} {w w' : World} {v : Value} {e n : Nat} {xs : List Value} (h : w.ownsRow B e 1 v n xs) (ho : Only (fun k => v.ownBlock = some k) w w') (hB : B ≤ w.heap.size) : Below B w w' :=
  ho.below hB fun k hk hk' => by have := (h.lt k hk').1; omega

set_option maxRecDepth 100000 in
theorem app_bytes {B : Nat} {W : World} {v : Value} {l y : List Nat} {A : Option Addr} (m c : Nat) (hv : OwnY B W v l) (hB : B ≤ W.heap.size) (hs : Src W A (bts y)) (hm : y.length = m) (hlm : l.length + m ≤ 1000000000) :
    ∃ A' c' W', (Builtin.append_ #[38, 38] 38 #[v, .slice A m c]).run Try.prog W = .ok (.slice A' (l.length + m) c') W' ∧ OwnY B W' (.slice A' (l.length + m) c') (l ++ y) ∧ Below B W W' ∧ Only (fun k => v.ownBlock = some k) W W' ∧ ((Value.slice A' (l.length + m) c').ownBlock = v.ownBlock ∨ (Value.slice A' (l.length + m) c').ownBlock = some W.heap.size) := by
  obtain ⟨i0, hi, hi0, hi1, hi2⟩ := info5_parts
  subst hm
  have key : ∃ v' W', (Builtin.append_ #[38, 38] 38 #[v, .slice A y.length c]).run Try.prog W = .ok v' W' ∧ W'.ownsRow B 5 1 v' (l.length + y.length) (bts l ++ bts y) ∧ W.grownBy W' v.ownBlock ∧ (v'.ownBlock = v.ownBlock ∨ v'.ownBlock = some W.heap.size) := by
    cases A with
    | none =>
      have h0 : y.length = 0 := by
        rcases Nat.eq_zero_or_pos y.length with h0 | h0
        · exact h0
        · obtain ⟨ad, h1, _⟩ := hs (by rw [length_bts]; exact h0)
          cases h1
      have e : y = [] := List.eq_nil_of_length_eq_zero h0
      subst e
      refine ⟨v, W, ?_, (by have h := hv; unfold OwnY at h; simpa [bts] using h), World.grownBy.refl _ _, .inl rfl⟩
      rcases hv.2 with ⟨rfl, h9⟩ | ⟨g, cap, cur, rfl, _, _, hnc, _⟩
      · rw [h9] at *
        simp [Builtin.append_, run_underlying Try.underlying38, sizeOf, typeInfo, hi, Builtin.lenOf, Builtin.firstCells]
      · simp [Builtin.append_, run_underlying Try.underlying38, sizeOf, typeInfo, hi, Builtin.lenOf, Builtin.firstCells, hnc, storeCells]
    | some ad =>
      obtain ⟨v', w', hrun, h2, h3, _, h5⟩ := run_append_own_at (P := Try.prog) W B 38 38 5 i0 _ 1 1 Try.underlying38 hi hi0 hi1 hi2 rfl (by omega) v l.length (bts l) hv ad y.length c (bts y) (by rw [length_bts, Nat.mul_one]) (fun j u hu => by
        have h0 : 0 < (bts y).length := by have := (List.getElem?_eq_some_iff.1 hu).1; omega
        obtain ⟨ad2, h1, h2⟩ := hs h0
        injection h1 with h1
        subst h1
        exact h2 j u hu) (bts_one y) (by unfold maxLen; omega) (by omega) hB
      exact ⟨v', w', hrun, h2, h3, h5⟩
  obtain ⟨v', W', h1, h2, h3, h4⟩ := key
  have hon := (Only.refl (fun k => v.ownBlock = some k) W).grown h3 (fun k hk => .inl hk)
  have ho : OwnY B W' v' (l ++ y) := by unfold OwnY; rw [List.length_append, bts_append]; exact h2
  obtain ⟨A', c', rfl, _⟩ := ho.form
  rw [List.length_append] at *
  exact ⟨A', c', W', h1, ho, own_only_below hv hon hB, hon, h4⟩

set_option maxRecDepth 100000 in
set_option maxHeartbeats 400000 in
theorem behind1_any {B pb : Nat} {v : Value} {l y : List Nat} {A : Option Addr} (k : Int) (m c : Nat) (w : World) (hp : Row w pb 38 #[v]) (hpb : B ≤ pb) (hv : OwnY B w v l) (hB : B ≤ w.heap.size) (hs : Src w A (bts y)) (hm : y.length = m) (hlm : l.length + m ≤ 1000000000) :
    Calls Try.prog 212 #[.int .i64 k, .slice A m c, .pointer (some ⟨pb, 0, none⟩)] w fun e w' => e = .returned (.bool true) ∧ ∃ v', Row w' pb 38 #[v'] ∧ OwnY B w' v' (l ++ y) ∧ Below B w w' := by
  obtain ⟨A', c', W', hrun, hown, hbl, hon, hat⟩ := app_bytes m c hv hB hs hm hlm
  obtain ⟨A0, c0, rfl, _⟩ := hv.form
  have hap := own_apart hv hp (by decide)
  have hcp : w.cell? ⟨pb, 0, none⟩ = some (.slice A0 l.length c0) := hp.read rfl
  have hp2 : Row W' pb 38 #[.slice A0 l.length c0] := hp.only hon hap
  have hcp2 := hp2.free 0
  have hcp3 : W'.cell? ⟨pb, 0, none⟩ = some (.slice A0 l.length c0) := hp2.read rfl
  have hap2 := own_apart hown hp2 (by decide)
  have HE := Lib.hid (show ∃ v', Row (W'.setCell ⟨pb, 0, none⟩ (.slice A' (l.length + m) c')) pb 38 #[v'] ∧ OwnY B (W'.setCell ⟨pb, 0, none⟩ (.slice A' (l.length + m) c')) v' (l ++ y) ∧ Below B w (W'.setCell ⟨pb, 0, none⟩ (.slice A' (l.length + m) c')) from
    ⟨_, hp2.written 0 _, hown.only ((Only.refl (fun k => k = pb) W').set (p := ⟨pb, 0, none⟩) (.inl rfl) _) (fun k hk e => by subst e; exact hap2 hk), hbl.trans ((Below.refl _ _).setCell hpb _)⟩)
  clear hown hbl hon hat hap hp2 hap2 hp hv hs hm
  generalize l.length + m = n2 at *
  generalize l.length = n1 at *
  go_enter Try.func212, Try.ntmps212
  go_wp2_with (at_builtin; refine wpList_run rfl (.tmp 6) (.tmp 7) 38 rfl (.slice A0 n1 c0) (.slice A m c) (by rfl) (by rfl) hrun ?_)
  go_ret
  exact ⟨rfl, HE.out⟩

/-- the first k fields' bytes -/
def flatTo (L : List RowB) (k : Nat) : List Nat := ((texts L).take k).flatten
def flat (L : List RowB) : List Nat := (texts L).flatten
theorem flatTo_zero (L : List RowB) : flatTo L 0 = [] := by simp [flatTo]
theorem flatTo_all {L : List RowB} {n : Nat} (h : L.length = n) : flatTo L n = flat L := by
  unfold flatTo flat
  rw [List.take_of_length_le (by rw [length_texts]; omega)]
theorem flatTo_succ {L : List RowB} {k : Nat} {r : RowB} (h : L[k]? = some r) : flatTo L (k + 1) = flatTo L k ++ r.bs := by
  have h1 := texts_at h
  obtain ⟨hk, h2⟩ := List.getElem?_eq_some_iff.1 h1
  unfold flatTo
  rw [List.take_succ_eq_append_getElem hk, List.flatten_append, h2]
  simp
theorem length_flatTo (L : List RowB) (k : Nat) : (flatTo L k).length = sumTo (lens L) k := by
  induction k with
  | zero => simp [flatTo, sumTo]
  | succ k ih =>
    rcases Nat.lt_or_ge k L.length with h | h
    · have h1 : L[k]? = some L[k] := List.getElem?_eq_getElem h
      rw [flatTo_succ h1, sumTo_succ (lens_at h1), List.length_append, ih]
    · have h2 : flatTo L (k + 1) = flatTo L k := by
        unfold flatTo
        rw [List.take_of_length_le (by rw [length_texts]; omega), List.take_of_length_le (by rw [length_texts]; omega)]
      have h3 : sumTo (lens L) (k + 1) = sumTo (lens L) k := by
        unfold sumTo
        rw [List.take_of_length_le (by rw [length_lens]; omega), List.take_of_length_le (by rw [length_lens]; omega)]
      rw [h2, h3, ih]
theorem each_behind {B pb n cap : Nat} {v : Value} {l : List Nat} {A : Option Addr} {L : List RowB} (w : World) (hL : L.length = n) (hn : n ≤ 9223372036854775807) (hs : ∀ W, Below B w W → RSrc W A L) (hp : Row w pb 38 #[v]) (hpb : B ≤ pb) (hv : OwnY B w v l) (hB : B ≤ w.heap.size) (hm : l.length + (lens L).sum ≤ 1000000000) :
    Calls Try.prog 182 #[.slice A n cap, .func (.func 212) #[] #[.pointer (some ⟨pb, 0, none⟩)]] w fun e w' => e = .returned (.bool true) ∧ ∃ v', Row w' pb 38 #[v'] ∧ OwnY B w' v' (l ++ flat L) ∧ Below B w w' := by
  refine (each_any (K := 212) (caps := #[.pointer (some ⟨pb, 0, none⟩)]) n cap (fun a W => enters Try.func212 (by kernel_rfl) rfl a W) (fun k W => ∃ v', Row W pb 38 #[v'] ∧ OwnY B W v' (l ++ flatTo L k) ∧ Below B w W) (fun _ => False) w hL hn
    ⟨v, hp, by rw [flatTo_zero, List.append_nil]; exact hv, Below.refl _ _⟩ (fun k W h => by obtain ⟨_, _, _, h⟩ := h; exact hs W h) (fun k W r hr h => ?_)).mono ?_
  · obtain ⟨v1, h1, h2, h3⟩ := h
    have hk : k < n := by rw [← hL]; exact (List.getElem?_eq_some_iff.1 hr).1
    obtain ⟨ad, rfl, hc⟩ := hs W h3 (by omega)
    have hle := sumTo_le (lens L) (k + 1)
    rw [sumTo_succ (lens_at hr)] at hle
    refine (behind1_any (k : Int) r.bs.length r.cap W h1 hpb h2 (Nat.le_trans hB h3.size) (hc k r hr).2.1 rfl (by rw [List.length_append, length_flatTo]; omega)).mono ?_
    rintro e W2 ⟨rfl, v2, g1, g2, g3⟩
    exact .inl ⟨rfl, v2, g1, by rw [flatTo_succ hr, ← List.append_assoc]; exact g2, h3.trans g3⟩
  · rintro e W (⟨rfl, v', h1, h2, h3⟩ | ⟨_, h⟩)
    · rw [flatTo_all hL] at h2
      exact ⟨rfl, v', h1, h2, h3⟩
    · exact h.elim
set_option maxHeartbeats 400000 in
theorem behind_any {B : Nat} {v : Value} {l : List Nat} {A : Option Addr} {L : List RowB} (n cap : Nat) (w : World) (hL : L.length = n) (hn : n ≤ 9223372036854775807) (hs : ∀ W, Below B w W → RSrc W A L) (hv : OwnY B w v l) (hB : B ≤ w.heap.size) (hm : l.length + (lens L).sum ≤ 1000000000) :
    Calls Try.prog 184 #[v, .slice A n cap] w fun e w' => ∃ v', e = .returned v' ∧ OwnY B w' v' (l ++ flat L) ∧ Below B w w' := by
  obtain ⟨A0, c0, rfl, _⟩ := hv.form
  have HE := Lib.hid (fun W (hb : Below w.heap.size w W) (x : Row W w.heap.size 38 #[.slice A0 l.length c0]) => each_behind (B := B) (cap := cap) W hL hn (fun W' hb' => hs W' ((hb.mono hB).trans hb')) x hB (hv.later hb) (Nat.le_trans hB hb.size) hm)
  clear hL hs hv hm
  generalize l.length = n1 at *
  go_enter Try.func184, Try.ntmps184
  go_wp2_with (go_at_call 182; refine (HE.out _ (bl_alloc (Below.refl _ _) _) (Row.made _ _ _)).mono ?_; rintro e w2 ⟨rfl, v', h1, h2, h3⟩; have hc := h1.read (i := 0) rfl; obtain ⟨A2, c2, hv2, _⟩ := h2.form; generalize (l ++ flat L).length = n2 at hv2; subst hv2; (have H2 := Lib.hid h2; have H3 := Lib.hid h3; clear h2 h3))
  go_ret
  exact ⟨_, rfl, H2.out, ((bl_alloc (Below.refl _ _) _).mono hB).trans H3.out⟩

theorem make_cap (n : Nat) (h : n ≤ 1000000) (w : World) :
    (Instr.makeSlice 38 (.int .i64 0) (.int .i64 (n : Int))).run Try.prog w = .ok (.slice (some ⟨w.heap.size, 0, none⟩) 0 n) (w.alloc (.cells (zeros n).toArray 5)) := by
  obtain ⟨i, hi, hz, hs, hb⟩ := info5_parts
  have h := run_make (P := Try.prog) w 38 5 i _ Try.underlying38 hi hz .i64 .i64 0 n (Int.le_refl _) (by omega) (by rw [hb]; omega) (by omega)
  rw [h, hs, Nat.mul_one, Int.toNat_natCast, ← made_zeros]
  rfl
theorem own_cap (n : Nat) (h : n ≤ 1000000) (w : World) (B : Nat) (hB : B ≤ w.heap.size) : OwnY B (w.alloc (.cells (zeros n).toArray 5)) (.slice (some ⟨w.heap.size, 0, none⟩) 0 n) [] :=
  ⟨by simp [bts], .inr ⟨w.heap.size, n, _, rfl, hB, heap_alloc_new _ _, Nat.zero_le _, by unfold maxLen; omega, by simp [zeros], by simp [bts]⟩⟩

end Go.Proofs.Ytjonkpdjhjobfaa
namespace Go.Proofs.Ytjonkpdjhjobfaa


/-- bytes cut into fields of these lengths, and a last one of what is left -/
def cutF : List Nat → List Nat → Option (List (List Nat))
  | bs, [] => if bs = [] then none else some [bs]
  | bs, m :: r => if m ≤ bs.length then (cutF (bs.drop m) r).map (bs.take m :: ·) else none
/-- behind fields that were cut the rest comes to what all comes to -/
def CInv (bs ls : List Nat) (acc : List (List Nat)) (c : Nat) : Prop := acc.length ≤ ls.length ∧ c ≤ bs.length ∧ cutF bs ls = (cutF (bs.drop c) (ls.drop acc.length)).map (acc ++ ·)
theorem CInv.start (bs ls : List Nat) : CInv bs ls [] 0 := ⟨Nat.zero_le _, Nat.zero_le _, by
  simp only [List.length_nil, List.drop_zero, List.nil_append]
  cases cutF bs ls <;> rfl⟩
section
variable {bs ls : List Nat} {acc : List (List Nat)} {c m : Nat}
theorem CInv.next (h : CInv bs ls acc c) (hm : ls[acc.length]? = some m) (h2 : m ≤ bs.length - c) : CInv bs ls (acc ++ [(bs.drop c).take m]) (c + m) := by
  obtain ⟨h0, h1, h⟩ := h
  obtain ⟨hk, rfl⟩ := List.getElem?_eq_some_iff.1 hm
  refine ⟨by simp; omega, by omega, ?_⟩
  rw [h, List.drop_eq_getElem_cons hk, cutF, if_pos (by rw [List.length_drop]; omega), List.drop_drop, List.length_append, List.length_singleton]
  cases cutF (bs.drop (c + ls[acc.length])) (ls.drop (acc.length + 1)) <;> simp
theorem CInv.last (h : CInv bs ls acc c) (hm : acc.length = ls.length) (h2 : bs.length - c ≠ 0) : cutF bs ls = some (acc ++ [bs.drop c]) := by
  obtain ⟨h0, h1, h⟩ := h
  have h3 : bs.drop c ≠ [] := fun e => h2 (by rw [← List.length_drop, e]; rfl)
  have h4 : cutF (bs.drop c) [] = some [bs.drop c] := by unfold cutF; rw [if_neg h3]
  rw [h, List.drop_of_length_le (l := ls) (by omega), h4]
  rfl
end
end Go.Proofs.Ytjonkpdjhjobfaa
namespace Go.Proofs.Ytjonkpdjhjobfaa
open Go.RowKit


/-- bytes in a block of the call's own -/
def RowB.mine (B : Nat) (w : World) (r : RowB) : Prop := (∃ g cs, r.A = some ⟨g, 0, none⟩ ∧ B ≤ g ∧ Row w g 5 cs ∧ ∀ (j b : Nat), r.bs[j]? = some b → cs[j]? = some (Value.int .u8 b)) ∧ r.bs.length ≤ r.cap ∧ r.cap ≤ 9223372036854775807 ∧ ∀ b ∈ r.bs, b < 256
theorem RowB.mine.ok {B : Nat} {w : World} {r : RowB} (h : r.mine B w) : r.ok w := by
  obtain ⟨⟨g, cs, h1, h2, h3, h4⟩, h5⟩ := h
  refine ⟨fun _ => ⟨_, h1, fun j u hu => ?_⟩, h5⟩
  rw [add_zero_addr]
  simp only [bts, List.getElem?_map, Option.map_eq_some_iff] at hu
  obtain ⟨b, hb, rfl⟩ := hu
  exact h3.read (h4 j b hb)
theorem RowB.mine.only {B : Nat} {w v : World} {r : RowB} {S : Nat → Prop} (h : r.mine B w) (ho : Only S w v) (hS : ∀ k cs, Row w k 5 cs → B ≤ k → ¬ S k) : r.mine B v := by
  obtain ⟨⟨g, cs, h1, h2, h3, h4⟩, h5⟩ := h
  exact ⟨⟨g, cs, h1, h2, h3.only ho (hS g cs h3 h2), h4⟩, h5⟩
theorem RowB.mine.down {B B' : Nat} {w : World} {r : RowB} (h : r.mine B w) (hb : B' ≤ B) : r.mine B' w := by
  obtain ⟨⟨g, cs, h1, h2, h3, h4⟩, h5⟩ := h
  exact ⟨⟨g, cs, h1, by omega, h3, h4⟩, h5⟩
theorem Try.info38 : (Try.prog.info? 38).map (fun i => (i.zero, i.size, i.bytes)) = some (some (.slice none 0 0), 1, 24) := by kernel_rfl
set_option maxRecDepth 100000 in
/-- one row more -/
theorem app_row {B n : Nat} {w : World} {v : Value} {xs : List Value} (h : w.ownsRow B 38 1 v n xs) (hB : B ≤ w.heap.size) (r : RowB) (hl : n ≤ 1000000) :
    ∃ g c w3, (Builtin.append_ #[48, 48] 48 #[v, .slice (some ⟨w.heap.size, 0, none⟩) 1 1]).run Try.prog (w.alloc (.cells #[.slice r.A r.bs.length r.cap] 38)) = .ok (.slice (some ⟨g, 0, none⟩) (n + 1) c) w3 ∧
      w3.ownsRow B 38 1 (.slice (some ⟨g, 0, none⟩) (n + 1) c) (n + 1) (xs ++ [r.v]) ∧ Only (fun k => v.ownBlock = some k) w w3 := by
  obtain ⟨i0, hi, hi0, hi1, hi2⟩ := info_parts Try.info38
  obtain ⟨g, cap, w3, hr3, h2, h3, _, _⟩ := run_append_lies (P := Try.prog) (w.alloc (.cells #[r.v] 38)) 48 48 B 38 i0 _ 1 24 Try.underlying48 hi hi0 hi1 hi2 rfl (by omega) v n _ (h.alloc _) ⟨w.heap.size, 0, none⟩ 1 1 [r.v] rfl
    (World.news_of_block (cs := #[r.v]) (heap_alloc_new w _)) (by intro u hu; simp at hu; rw [hu]; rfl) (by omega) (by unfold maxLen; omega) (by omega) (by simp; omega) _ rfl
  exact ⟨g, cap, w3, hr3, h2, ((Only.refl (fun k => v.ownBlock = some k) w).alloc (.cells #[r.v] 38)).grown h3 (fun k hk => .inl hk)⟩
/-- a list of rows of the call's own, while it grows -/
structure OwnR (B : Nat) (w : World) (v : Value) (L : List RowB) : Prop where
  own : w.ownsRow B 38 1 v L.length (L.map RowB.v)
  mine : ∀ r ∈ L, r.mine B w
section
variable {B : Nat} {w w' : World} {v : Value} {L : List RowB}
theorem OwnR.only {S : Nat → Prop} (h : OwnR B w v L) (ho : Only S w w') (h1 : ∀ k, v.ownBlock = some k → ¬ S k) (h2 : ∀ k cs, Row w k 5 cs → B ≤ k → ¬ S k) : OwnR B w' v L :=
  ⟨own_only h.own ho h1, fun r hr => (h.mine r hr).only ho h2⟩
theorem OwnR.later (h : OwnR B w v L) (hb : Below w.heap.size w w') : OwnR B w' v L := h.only (S := fun _ => False) (.of_below hb) (fun _ _ h => h) (fun _ _ _ _ h => h)
theorem OwnR.form (h : OwnR B w v L) : ∃ A c, v = .slice A L.length c ∧ L.length ≤ c ∧ c ≤ 9223372036854775807 := by
  rcases h.own.2 with ⟨rfl, h0⟩ | ⟨g, cap, cur, rfl, _, _, h1, h2, _⟩
  · exact ⟨none, 0, by rw [h0], by omega, by omega⟩
  · exact ⟨_, cap, rfl, h1, by unfold maxLen at h2; exact h2⟩
theorem OwnR.src {A : Option Addr} {n c : Nat} (h : OwnR B w (.slice A n c) L) : RSrc w A L := by
  intro h0
  obtain ⟨g, cap, hv, _, _⟩ := h.own.form h0
  injection hv with h1 h2 h3
  subst h1
  refine ⟨_, rfl, fun k r hr => ⟨?_, (h.mine r (List.mem_of_getElem? hr)).ok⟩⟩
  exact h.own.cells (g := g) rfl k _ (by rw [List.getElem?_map, hr]; rfl)
theorem OwnR.next (h : OwnR B w v L) (hB : B ≤ w.heap.size) (r : RowB) (hr : r.mine B w) (hl : L.length ≤ 1000000) :
    ∃ g c w3, (Builtin.append_ #[48, 48] 48 #[v, .slice (some ⟨w.heap.size, 0, none⟩) 1 1]).run Try.prog (w.alloc (.cells #[.slice r.A r.bs.length r.cap] 38)) = .ok (.slice (some ⟨g, 0, none⟩) (L.length + 1) c) w3 ∧
      OwnR B w3 (.slice (some ⟨g, 0, none⟩) (L.length + 1) c) (L ++ [r]) ∧ Below B w w3 := by
  obtain ⟨g, c, w3, h1, h2, h3⟩ := app_row h.own hB r hl
  have hne : ∀ k cs, Row w k 5 cs → B ≤ k → ¬ v.ownBlock = some k := fun k cs hk _ => own_apart h.own hk (by decide)
  refine ⟨g, c, w3, h1, ⟨by rw [List.length_append, List.map_append]; exact h2, fun x hx => ?_⟩, own_only_below h.own h3 hB⟩
  rw [List.mem_append, List.mem_singleton] at hx
  rcases hx with hx | rfl
  · exact (h.mine x hx).only h3 hne
  · exact hr.only h3 hne
end
end Go.Proofs.Ytjonkpdjhjobfaa
namespace Go.Proofs.Ytjonkpdjhjobfaa
open Go.RowKit

/-- no text has the number 0 -/
theorem disc_zero {ts : List Txt} (h : ∀ t ∈ ts, 1 ≤ t.id) : discE 0 ts = 4 ∧ discF 0 ts = ts := by
  have hp : placeF 0 ts = ts.length := by
    unfold placeF
    rw [List.findIdx_eq_length]
    intro y hy
    have := h y hy
    simp
    omega
  unfold discE discF
  rw [hp, List.getElem?_eq_none (Nat.le_refl _)]
  exact ⟨rfl, rfl⟩
section
variable {B p last : Nat} {R : Int} {ts : List Txt} {w : World}
set_option maxHeartbeats 400000 in
theorem cmade_any (h : QRep B w p R last ts) (hr : 0 < R) (hn : ts.length ≤ 900) (hid : ∀ t ∈ ts, 1 ≤ t.id) :
    Calls Try.prog 197 #[.pointer (some ⟨p, 0, none⟩)] w fun e w' => e = .returned (.bool true) ∧ QRep B w' p R last ts ∧ QOnly B w w' := by
  have HD := discard_any 0 h hr hn
  obtain ⟨e1, e2⟩ := disc_zero hid
  rw [e1, e2] at HD
  have HD : Hid (Calls Try.prog 88 #[.pointer (some ⟨p, 0, none⟩), .int .u64 0] w fun e w' => e = .returned (.int .i64 4) ∧ QRep B w' p R last ts ∧ QOnly B w w') := Lib.hid HD
  clear h hid e1 e2
  go_enter Try.func197, Try.ntmps197
  go_wp2_with (go_at_call 88; (with_reducible refine HD.out.mono ?_); rintro e w1 ⟨rfl, hq, ho⟩; (have H1 := Lib.hid hq; have H2 := Lib.hid ho; clear hq ho))
  go_ret
  exact ⟨rfl, H1.out, H2.out⟩
/-- what is wrong with a room and a width -/
def faultC (room x : Int) : Int := if 0 < sizeF 1 x then (if room < 0 ∨ 4000 < room then 1 else 0) else 9
set_option maxHeartbeats 800000 in
theorem cfault_any (room x : Int) (h : QRep B w p R last ts) (hr : 0 < R) (hn : ts.length ≤ 900) (hid : ∀ t ∈ ts, 1 ≤ t.id) :
    Calls Try.prog 149 #[.pointer (some ⟨p, 0, none⟩), .int .i64 room, .int .i64 x] w fun e w' => e = .returned (.int .i64 (faultC room x)) ∧ QRep B w' p R last ts ∧ QOnly B w w' := by
  have HM := Lib.hid (cmade_any h hr hn hid)
  have HB := Lib.hid (fun W => cutmay_any x W)
  clear h hid
  by_cases hp : 0 < sizeF 1 x
  · have HB2 := Lib.hid (fun W => (by have h := HB.out W; rw [decide_eq_true hp] at h; exact h : Calls Try.prog 198 #[.int .i64 x] W fun e w' => e = .returned (.bool true) ∧ W = w'))
    have HF := Lib.hid (show faultC room x = if room < 0 ∨ 4000 < room then 1 else 0 by unfold faultC; rw [if_pos hp])
    rw [HF.out]
    clear HB hp HF
    by_cases h0 : room < 0
    · rw [if_pos (.inl h0)]
      go_enter Try.func149, Try.ntmps149
      go_wp2_with (first
        | (go_at_call 197; (with_reducible refine HM.out.mono ?_); rintro e w1 ⟨rfl, hq, ho⟩; (have H1 := Lib.hid hq; have H2 := Lib.hid ho; clear hq ho))
        | (go_at_call 198; (with_reducible refine (HB2.out _).mono ?_); rintro e w2 ⟨rfl, rfl⟩))
      go_ret
      exact ⟨rfl, H1.out, H2.out⟩
    · by_cases h1 : 4000 < room
      · rw [if_pos (.inr h1)]
        go_enter Try.func149, Try.ntmps149
        go_wp2_with (first
          | (go_at_call 197; (with_reducible refine HM.out.mono ?_); rintro e w1 ⟨rfl, hq, ho⟩; (have H1 := Lib.hid hq; have H2 := Lib.hid ho; clear hq ho))
          | (go_at_call 198; (with_reducible refine (HB2.out _).mono ?_); rintro e w2 ⟨rfl, rfl⟩))
        go_ret
        exact ⟨rfl, H1.out, H2.out⟩
      · rw [if_neg (by omega)]
        go_enter Try.func149, Try.ntmps149
        go_wp2_with (first
          | (go_at_call 197; (with_reducible refine HM.out.mono ?_); rintro e w1 ⟨rfl, hq, ho⟩; (have H1 := Lib.hid hq; have H2 := Lib.hid ho; clear hq ho))
          | (go_at_call 198; (with_reducible refine (HB2.out _).mono ?_); rintro e w2 ⟨rfl, rfl⟩))
        go_ret
        exact ⟨rfl, H1.out, H2.out⟩
  · have HB2 := Lib.hid (fun W => (by have h := HB.out W; rw [decide_eq_false hp] at h; exact h : Calls Try.prog 198 #[.int .i64 x] W fun e w' => e = .returned (.bool false) ∧ W = w'))
    have HF := Lib.hid (show faultC room x = 9 by unfold faultC; rw [if_neg hp])
    rw [HF.out]
    clear HB hp HF
    go_enter Try.func149, Try.ntmps149
    go_wp2_with (first
      | (go_at_call 197; (with_reducible refine HM.out.mono ?_); rintro e w1 ⟨rfl, hq, ho⟩; (have H1 := Lib.hid hq; have H2 := Lib.hid ho; clear hq ho))
      | (go_at_call 198; (with_reducible refine (HB2.out _).mono ?_); rintro e w2 ⟨rfl, rfl⟩))
    go_ret
    exact ⟨rfl, H1.out, H2.out⟩
end
theorem cclipu_any {A : Option Addr} (n c : Nat) (w : World) (hc : n ≤ c) : Calls Try.prog 154 #[.slice A n c] w fun e w' => e = .returned (.slice A n n) ∧ w = w' := by
  cases A with
  | none =>
    go_enter Try.func154, Try.ntmps154
    go_wp2
    go_ret
    exact ⟨rfl, rfl⟩
  | some a =>
    go_enter Try.func154, Try.ntmps154
    go_wp2
    go_ret
    exact ⟨rfl, rfl⟩
theorem cclipr_any {A : Option Addr} (n c : Nat) (w : World) (hc : n ≤ c) : Calls Try.prog 153 #[.slice A n c] w fun e w' => e = .returned (.slice A n n) ∧ w = w' := by
  cases A with
  | none =>
    go_enter Try.func153, Try.ntmps153
    go_wp2
    go_ret
    exact ⟨rfl, rfl⟩
  | some a =>
    go_enter Try.func153, Try.ntmps153
    go_wp2
    go_ret
    exact ⟨rfl, rfl⟩
/-- fields in memory that is not older than block m -/
def RowNew (m : Nat) (w : World) (r : RowB) : Prop := ∃ g, r.A = some ⟨g, 0, none⟩ ∧ m ≤ g ∧ QBytes w g r.bs ∧ r.cap = r.bs.length ∧ 0 < r.bs.length ∧ r.bs.length ≤ 100000 ∧ ∀ b ∈ r.bs, b < 256
def NewRows (m : Nat) (w : World) (v : Value) (L : List RowB) : Prop := w.ownsRow m 38 1 v L.length (L.map RowB.v) ∧ ∀ r ∈ L, RowNew m w r
def idsV (l : List Nat) : List Value := l.map fun i : Nat => .int .u64 i
def NewIds (m : Nat) (w : World) (v : Value) (l : List Nat) : Prop := w.ownsRow m 35 1 v l.length (idsV l)
section
variable {m : Nat} {w v : World} {x : Value} {L : List RowB} {l : List Nat}
theorem QBytes.inside {g : Nat} {l : List Nat} (h : QBytes w g l) : g < w.heap.size := by
  obtain ⟨cs, h1, _⟩ := h
  exact h1.inside
theorem QBytes.only {S : Nat → Prop} {g : Nat} {l : List Nat} (h : QBytes w g l) (ho : Only S w v) (hg : ¬ S g) : QBytes v g l := by
  obtain ⟨cs, h1, h2⟩ := h
  exact ⟨cs, h1.only ho hg, h2⟩
theorem QBytes.srcb {g : Nat} {l : List Nat} (h : QBytes w g l) : Src w (some ⟨g, 0, none⟩) (bts l) := by
  obtain ⟨cs, h1, h2⟩ := h
  refine fun _ => ⟨_, rfl, fun j u hu => ?_⟩
  rw [add_zero_q]
  have hj : j < l.length := by have := (List.getElem?_eq_some_iff.1 hu).1; rw [length_bts] at this; exact this
  have hb := bts_at (List.getElem?_eq_getElem hj)
  rw [hu] at hb
  injection hb with hb
  rw [hb]
  exact h1.read (h2 j _ (List.getElem?_eq_getElem hj))
theorem RowNew.ok {r : RowB} (h : RowNew m w r) : r.ok w := by
  obtain ⟨g, h1, h2, h3, h4, h5, h6, h7⟩ := h
  exact ⟨by rw [h1]; exact h3.srcb, by omega, by omega, h7⟩
theorem RowNew.only {S : Nat → Prop} {r : RowB} (h : RowNew m w r) (ho : Only S w v) (hS : ∀ g cs, Row w g 5 cs → m ≤ g → ¬ S g) : RowNew m v r := by
  obtain ⟨g, h1, h2, h3, h4⟩ := h
  obtain ⟨cs, k1, k2⟩ := id h3
  exact ⟨g, h1, h2, h3.only ho (hS g cs k1 h2), h4⟩
theorem NewRows.only {S : Nat → Prop} (h : NewRows m w x L) (ho : Only S w v) (hS : ∀ g t cs, Row w g t cs → (t = 5 ∨ t = 38) → m ≤ g → ¬ S g) : NewRows m v x L := by
  refine ⟨own_only h.1 ho (fun k hk => ?_), fun r hr => (h.2 r hr).only ho (fun g cs hc hg => hS g 5 cs hc (.inl rfl) hg)⟩
  rcases h.1.2 with ⟨rfl, _⟩ | ⟨g, cap, cur, rfl, hb, hh, _⟩
  · simp [Value.ownBlock] at hk
  · have e : g = k := by simpa [Value.ownBlock] using hk
    subst e
    exact hS g _ cur hh (.inr rfl) hb
theorem NewIds.only {S : Nat → Prop} (h : NewIds m w x l) (ho : Only S w v) (hS : ∀ g cs, Row w g 35 cs → m ≤ g → ¬ S g) : NewIds m v x l := by
  refine own_only h ho (fun k hk => ?_)
  rcases h.2 with ⟨rfl, _⟩ | ⟨g, cap, cur, rfl, hb, hh, _⟩
  · simp [Value.ownBlock] at hk
  · have e : g = k := by simpa [Value.ownBlock] using hk
    subst e
    exact hS g cur hh hb
theorem NewRows.later (h : NewRows m w x L) (hb : Below w.heap.size w v) : NewRows m v x L := h.only (S := fun _ => False) (.of_below hb) (fun _ _ _ _ _ _ h => h)
theorem NewIds.later (h : NewIds m w x l) (hb : Below w.heap.size w v) : NewIds m v x l := h.only (S := fun _ => False) (.of_below hb) (fun _ _ _ _ h => h)
theorem NewRows.q {B : Nat} (h : NewRows m w x L) (ho : QOnly B w v) : NewRows m v x L :=
  h.only ho (fun g t cs hr ht _ hq => by
    obtain ⟨_, t', cs', h1, h2⟩ := hq
    have e := qrow_same hr h1
    subst e
    rcases ht with rfl | rfl <;> rcases h2 with h2 | h2 <;> revert h2 <;> decide)
theorem NewIds.q {B : Nat} (h : NewIds m w x l) (ho : QOnly B w v) : NewIds m v x l :=
  h.only ho (fun g cs hr _ hq => by
    obtain ⟨_, t', cs', h1, h2⟩ := hq
    have e := qrow_same hr h1
    subst e
    rcases h2 with h2 | h2 <;> revert h2 <;> decide)
/-- memory older than block m changes -/
theorem NewRows.older {S : Nat → Prop} (h : NewRows m w x L) (ho : Only S w v) (hS : ∀ k, S k → k < m) : NewRows m v x L :=
  h.only ho (fun g _ _ _ _ hg hs => by have := hS g hs; omega)
theorem NewIds.older {S : Nat → Prop} (h : NewIds m w x l) (ho : Only S w v) (hS : ∀ k, S k → k < m) : NewIds m v x l :=
  h.only ho (fun g _ _ hg hs => by have := hS g hs; omega)
/-- one block of another type changes -/
theorem NewRows.at {g : Nat} {t : TypeId} {cs : Array Value} (h : NewRows m w x L) (hr : Row w g t cs) (h1 : t ≠ 5) (h2 : t ≠ 38) (ho : Only (fun k => k = g) w v) : NewRows m v x L :=
  h.only ho (fun k t' cs' hr' ht _ hk => by
    subst hk
    have e := qrow_same hr hr'
    subst e
    rcases ht with ht | ht
    · exact h1 ht
    · exact h2 ht)
theorem NewIds.at {g : Nat} {t : TypeId} {cs : Array Value} (h : NewIds m w x l) (hr : Row w g t cs) (h1 : t ≠ 35) (ho : Only (fun k => k = g) w v) : NewIds m v x l :=
  h.only ho (fun k cs' hr' _ hk => by
    subst hk
    have e := qrow_same hr hr'
    exact h1 e)
theorem NewRows.form (h : NewRows m w x L) : ∃ A c, x = .slice A L.length c ∧ L.length ≤ c ∧ c ≤ 9223372036854775807 := by
  rcases h.1.2 with ⟨rfl, e⟩ | ⟨g, cap, cur, rfl, _, _, h1, h2, _⟩
  · exact ⟨none, 0, by rw [e], by omega, by omega⟩
  · exact ⟨_, cap, rfl, h1, by unfold maxLen at h2; exact h2⟩
theorem NewIds.form (h : NewIds m w x l) : ∃ A c, x = .slice A l.length c ∧ l.length ≤ c ∧ c ≤ 9223372036854775807 := by
  rcases h.2 with ⟨rfl, e⟩ | ⟨g, cap, cur, rfl, _, _, h1, h2, _⟩
  · exact ⟨none, 0, by rw [e], by omega, by omega⟩
  · exact ⟨_, cap, rfl, h1, by unfold maxLen at h2; exact h2⟩
theorem NewRows.cap_le {A : Option Addr} {n c : Nat} (h : NewRows m w (.slice A n c) L) : n = L.length ∧ n ≤ c := by
  obtain ⟨A', c', e, h1, _⟩ := h.form
  injection e with e1 e2 e3
  omega
theorem NewIds.cap_le {A : Option Addr} {n c : Nat} (h : NewIds m w (.slice A n c) l) : n = l.length ∧ n ≤ c := by
  obtain ⟨A', c', e, h1, _⟩ := h.form
  injection e with e1 e2 e3
  omega
theorem NewRows.src {A : Option Addr} {n c : Nat} (h : NewRows m w (.slice A n c) L) : RSrc w A L := by
  rcases h.1.2 with ⟨e, h0⟩ | ⟨g, cap, cur, e, _, _, _⟩
  · intro h9
    omega
  · injection e with e1 e2 e3
    subst e1
    exact fun _ => ⟨_, rfl, fun k r hr => ⟨h.1.cells (g := g) rfl k _ (by rw [List.getElem?_map, hr]; rfl), (h.2 r (List.mem_of_getElem? hr)).ok⟩⟩
/-- one more field -/
theorem NewRows.next (h : NewRows m w x L) (r : RowB) (hm : m ≤ w.heap.size) (hL : L.length ≤ 1000) (hr : RowNew m w r) :
    ∃ A' c' w2, (Builtin.append_ #[48, 48] 48 #[x, .slice (some ⟨w.heap.size, 0, none⟩) 1 1]).run Try.prog (w.alloc (.cells #[r.v] 38)) = .ok (.slice A' (L.length + 1) c') w2 ∧
      NewRows m w2 (.slice A' (L.length + 1) c') (L ++ [r]) ∧ Only (fun k => x.ownBlock = some k) w w2 := by
  obtain ⟨i0, hi, hi0, hi1, hi2⟩ := info_parts Try.info38
  have hbA := bl_alloc (Below.refl w.heap.size w) (.cells #[r.v] 38)
  have a4' := own_later2 h.1 hbA
  obtain ⟨v', w2, hrun, hown, hgr, _, hat⟩ := run_append_own_at (P := Try.prog) (w := w.alloc (.cells #[r.v] 38)) m 48 48 38 i0 _ 1 24 Try.underlying48 hi hi0 hi1 hi2 rfl (by omega) x L.length (L.map RowB.v) a4' ⟨w.heap.size, 0, none⟩ 1 1 [r.v] rfl
    (fun j u hu => by
      match j, hu with
      | 0, hu =>
        simp only [List.getElem?_cons_zero, Option.some.injEq] at hu
        subst hu
        rw [add_zero_q]
        exact (Row.made w 38 #[r.v]).read rfl
      | j + 1, hu => simp at hu) (by intro u hu; simp at hu; subst hu; rfl) (by unfold maxLen; omega) (by omega) (by have := hbA.size; omega)
  have hon : Only (fun k => x.ownBlock = some k) w w2 := (Only.of_below hbA).andThen ((Only.refl _ _).grown hgr (fun k hk => .inl hk) : Only (fun k => x.ownBlock = some k) _ _) (fun k _ hk => hk)
  obtain ⟨A', c', rfl⟩ : ∃ A' c', v' = .slice A' (L.length + 1) c' := by
    rcases hown.2 with ⟨_, e⟩ | ⟨g, cap, cur, e, _⟩
    · omega
    · exact ⟨some ⟨g, 0, none⟩, cap, e⟩
  refine ⟨A', c', w2, hrun, ⟨by rw [List.map_append, List.length_append]; exact hown, fun y hy => ?_⟩, hon⟩
  have key : ∀ y, RowNew m w y → RowNew m w2 y := fun y h9 => h9.only hon (fun g cs hc _ hk => own_apart h.1 hc (by decide) hk)
  rw [List.mem_append, List.mem_singleton] at hy
  rcases hy with hy | rfl
  · exact key y (h.2 y hy)
  · exact key y hr
/-- one more number -/
theorem NewIds.next (h : NewIds m w x l) (i : Nat) (hm : m ≤ w.heap.size) (hL : l.length ≤ 1000) :
    ∃ A' c' w2, (Builtin.append_ #[39, 39] 39 #[x, .slice (some ⟨w.heap.size, 0, none⟩) 1 1]).run Try.prog (w.alloc (.cells #[.int .u64 i] 35)) = .ok (.slice A' (l.length + 1) c') w2 ∧
      NewIds m w2 (.slice A' (l.length + 1) c') (l ++ [i]) ∧ Only (fun k => x.ownBlock = some k) w w2 := by
  obtain ⟨i0, hi, hi0, hi1, hi2⟩ := info_parts (show (Try.prog.info? 35).map (fun i => (i.zero, i.size, i.bytes)) = some (some (.int .u64 0), 1, 8) by kernel_rfl)
  have hbA := bl_alloc (Below.refl w.heap.size w) (.cells #[.int .u64 i] 35)
  have a4' := own_later2 h hbA
  obtain ⟨v', w2, hrun, hown, hgr, _, hat⟩ := run_append_own_at (P := Try.prog) (w := w.alloc (.cells #[.int .u64 i] 35)) m 39 39 35 i0 _ 1 8 (show Try.prog.underlying 39 = some (.slice 35) by kernel_rfl) hi hi0 hi1 hi2 rfl (by omega) x l.length (idsV l) a4' ⟨w.heap.size, 0, none⟩ 1 1 [.int .u64 i] rfl
    (fun j u hu => by
      match j, hu with
      | 0, hu =>
        simp only [List.getElem?_cons_zero, Option.some.injEq] at hu
        subst hu
        rw [add_zero_q]
        exact (Row.made w 35 #[.int .u64 i]).read rfl
      | j + 1, hu => simp at hu) (by intro u hu; simp at hu; subst hu; rfl) (by unfold maxLen; omega) (by omega) (by have := hbA.size; omega)
  have hon : Only (fun k => x.ownBlock = some k) w w2 := (Only.of_below hbA).andThen ((Only.refl _ _).grown hgr (fun k hk => .inl hk) : Only (fun k => x.ownBlock = some k) _ _) (fun k _ hk => hk)
  obtain ⟨A', c', rfl⟩ : ∃ A' c', v' = .slice A' (l.length + 1) c' := by
    rcases hown.2 with ⟨_, e⟩ | ⟨g, cap, cur, e, _⟩
    · omega
    · exact ⟨some ⟨g, 0, none⟩, cap, e⟩
  exact ⟨A', c', w2, hrun, by unfold NewIds idsV; rw [List.map_append, List.length_append]; exact hown, hon⟩
end
end Go.Proofs.Ytjonkpdjhjobfaa
namespace Go.Proofs.Ytjonkpdjhjobfaa
open Go.RowKit


/-- like wp_scope_jumps; the first way may go through the label, too -/
theorem wp_scope_through {P : Program} {a : Act} {w : World} {Q : Exit → Act → World → Prop} {c tail : Code} (l : Nat) (J : Act → World → Prop) (μ : Act → World → Nat) (hf : findLabel c l = some (.seq .skip tail))
    (first : (∀ a w, J a w → tail.wp P (Exit.jump l J Q) a w) → c.wp P (Exit.jump l J Q) a w)
    (pass : ∀ a w, J a w → tail.wp P (Exit.jump l (fun a' w' => J a' w' ∧ μ a' w' < μ a w) Q) a w) : (Code.scope c).wp P Q a w := by
  refine wp_scope_jumps l J μ hf (first fun a w h b k cs => ?_) (fun a w h => wp_seq (wp_skip (pass a w h)))
  obtain ⟨e, a', w', hq, harr⟩ := pass a w h b k cs
  refine ⟨e, a', w', ?_, harr⟩
  cases e <;> simp only [Exit.jump] at hq ⊢
  all_goals first | exact hq | exact ⟨hq.1, hq.2.1⟩

/-- at the jump: the fields so far, and what is left -/
structure CutSt (B : Nat) (w0 : World) (bs ls : List Nat) (c : Nat) (L : List RowB) (v : Value) (Ab : Option Addr) (nb cb : Nat) (w : World) : Prop where
  own : OwnR B w v L
  inv : CInv bs ls (texts L) c
  left : nb = bs.length - c
  room : nb ≤ cb
  small : cb ≤ 9223372036854775807
  src : Src w0 Ab (bts (bs.drop c))
  below : Below B w0 w
section
variable {B : Nat} {w0 w : World} {bs ls : List Nat} {c nb cb : Nat} {L : List RowB} {v : Value} {Ab : Option Addr}
theorem CutSt.len (h : CutSt B w0 bs ls c L v Ab nb cb w) : L.length ≤ ls.length := by
  have := h.inv.1
  rwa [length_texts] at this
end
end Go.Proofs.Ytjonkpdjhjobfaa
namespace Go.Proofs.Ytjonkpdjhjobfaa
open Go.RowKit


end Go.Proofs.Ytjonkpdjhjobfaa
