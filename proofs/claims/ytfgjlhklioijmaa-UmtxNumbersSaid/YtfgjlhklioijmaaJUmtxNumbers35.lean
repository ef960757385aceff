/-
  glue: what was told stays; literal fields. plain: an entity is made; a text is heard; what an entity answers to fixed calls. What a plain entity answers to fixed calls. What a sender of UM answers to fixed calls.
-/
import Derived.Test.YtfgjlhklioijmaaJUmtxNumbers34
import Derived.Test.YtfgjlhklioijmaaJUmtxNumbers33
import Derived.Lib.SlBytesConst
import Derived.Test.YtfgjlhklioijmaaJUmtxNumbers32
import Derived.Test.YtfgjlhklioijmaaJUmtxNumbers29
namespace Go.Proofs.Ytfgjlhklioijmaa
open Go.RowKit

theorem GRep.block_lt {B p : Nat} {w : World} {hv : Value} {s : GS} (h : GRep B w p hv s) : ∀ k, GS1 p hv k → k < w.heap.size := by
  intro k hk
  rcases hk with hk | hk
  · subst hk; exact h.1.inside
  · exact (own_block h.2 k hk).2
theorem GRep.block_ge {B p : Nat} {w : World} {hv : Value} {s : GS} (h : GRep B w p hv s) (hB : B ≤ p) : ∀ k, GS1 p hv k → B ≤ k := by
  intro k hk
  rcases hk with hk | hk
  · omega
  · exact (own_block h.2 k hk).1
/-- what was told lies in memory that the glue has left -/
def ToldIs (B : Nat) (w : World) (hv : Value) (A : Option Addr) (L : List RowB) : Prop :=
  (∃ C c, w.ownsRow C 30 1 (.slice A L.length c) L.length (L.map RowB.v)) ∧ ∀ r ∈ L, TOk B w hv r
theorem ToldIs.step {B p : Nat} {w v : World} {hv hv' : Value} {s : GS} {A : Option Addr} {L : List RowB} (h : ToldIs B w hv A L) (hp : GRep B w p hv s) (ho : Only (GS1 p hv) w v) (hg : GNext w hv hv') : ToldIs B v hv' A L := by
  obtain ⟨⟨C, c, a4⟩, a5⟩ := h
  refine ⟨⟨C, c, own_only a4 ho (fun k hk hx => ?_)⟩, fun r hr => (a5 r hr).step ho (fun g cs h6 h7 hx => ?_) hg⟩
  · rcases hx with hx | hx
    · subst hx; exact own_apart a4 hp.1 (by decide) hk
    · exact own_rows_apart a4 hp.2 (by decide) k hk hx
  · rcases hx with hx | hx
    · exact h6.apart hp.1 (by decide) hx
    · exact h7 hx
theorem ToldIs.later {B : Nat} {w v : World} {hv : Value} {A : Option Addr} {L : List RowB} (h : ToldIs B w hv A L) (hb : Below w.heap.size w v) : ToldIs B v hv A L := by
  obtain ⟨⟨C, c, a4⟩, a5⟩ := h
  exact ⟨⟨C, c, own_later2 a4 hb⟩, fun r hr => (a5 r hr).step (S := fun _ => False) (.of_below hb) (fun _ _ _ _ h => h) (GNext.refl _ _)⟩
theorem ToldIs.src {B : Nat} {w : World} {hv : Value} {A : Option Addr} {L : List RowB} (h : ToldIs B w hv A L) (hb : ∀ t ∈ texts L, ∀ x ∈ t, x < 256) : RSrc w A L := by
  obtain ⟨⟨C, c, h4⟩, h5⟩ := h
  have hok : ∀ r ∈ L, r.ok w := fun r hr => by
    have h9 := h5 r hr
    obtain ⟨g, cs, _, _, _, k1, k2, _⟩ := id h9
    exact ⟨h9.src, k1, k2, hb r.bs (List.mem_map.2 ⟨r, hr, rfl⟩)⟩
  rcases h4.2 with ⟨e, h0⟩ | ⟨g, cap, cur, e, _, _, h1, _, _⟩
  · intro h9
    omega
  · injection e with e1 e2 e3
    subst e1
    exact fun _ => ⟨_, rfl, fun k r hr => ⟨h4.cells (g := g) rfl k _ (by rw [List.getElem?_map, hr]; rfl), hok r (List.mem_of_getElem? hr)⟩⟩
theorem texts_one {L : List RowB} {t : List Nat} (h : texts L = [t]) : ∃ r, L = [r] ∧ r.bs = t := by
  match L, h with
  | [r], h =>
    refine ⟨r, rfl, ?_⟩
    simpa [texts] using h
theorem texts_nil {L : List RowB} (h : texts L = []) : L = [] := by
  simpa [texts] using h
/-- one text told -/
theorem PutDone.one {B p : Nat} {hv : Value} {s' : GS} {t : List Nat} {w w' : World} {e : Ending} (h : PutDone B p hv s' [t] w e w') : ∃ hv' ad r, e = .returned (.tuple #[.slice (some ad) 1 1, .int .i64 0]) ∧ r.bs = t ∧ GRep B w' p hv' s' ∧ Only (GS1 p hv) w w' ∧ GNext w hv hv' ∧ ToldIs B w' hv' (some ad) [r] := by
  obtain ⟨hv', L, A, rfl, h1, h2, h3, h4, h5, h6, h7⟩ := h
  obtain ⟨r, rfl, hr⟩ := texts_one h1
  obtain ⟨ad, rfl, _⟩ := h3 (by simp)
  exact ⟨hv', ad, r, rfl, hr, h2, h4, h5, h6, h7⟩
/-- nothing told -/
theorem PutDone.none {B p : Nat} {hv : Value} {s' : GS} {w w' : World} {e : Ending} (h : PutDone B p hv s' [] w e w') : ∃ hv' A, e = .returned (.tuple #[.slice A 0 0, .int .i64 0]) ∧ GRep B w' p hv' s' ∧ Only (GS1 p hv) w w' ∧ GNext w hv hv' := by
  obtain ⟨hv', L, A, rfl, h1, h2, h3, h4, h5, h6, h7⟩ := h
  obtain rfl := texts_nil h1
  exact ⟨hv', A, rfl, h2, h4, h5⟩
theorem fresh_row {B p g : Nat} {t : TypeId} {cs : Array Value} {W0 w W : World} {hv : Value} {s : GS} (h : Row w g t cs) (h0 : GRep B W0 p hv s) (hg : W0.heap.size ≤ g) (ho : Only (GS1 p hv) w W) : Row W g t cs :=
  h.only ho (fun hx => by have := h0.block_lt g hx; omega)
/-- a row, marked or not -/
def RowF (w : World) (g : Nat) (t : TypeId) (cs : Array Value) : Prop := ∃ fr, w.heap[g]? = some (.cells cs t fr)
theorem RowF.of {w : World} {g : Nat} {t : TypeId} {cs : Array Value} (h : Row w g t cs) : RowF w g t cs := ⟨_, h⟩
theorem RowF.inside {w : World} {g : Nat} {t : TypeId} {cs : Array Value} (h : RowF w g t cs) : g < w.heap.size := by
  obtain ⟨fr, h⟩ := h
  rcases Nat.lt_or_ge g w.heap.size with h1 | h1
  · exact h1
  · exfalso
    rw [Array.getElem?_eq_none h1] at h
    cases h
theorem RowF.made (w : World) (t : TypeId) (cs : Array Value) (fr : Nat × Nat) : RowF (w.alloc (.cells cs t fr)) w.heap.size t cs := ⟨fr, heap_alloc_new w _⟩
theorem RowF.made1 (w : World) (o : Obj) (t : TypeId) (cs : Array Value) (fr : Nat × Nat) : RowF ((w.alloc o).alloc (.cells cs t fr)) (w.heap.size + 1) t cs := by
  have h := RowF.made (w.alloc o) t cs fr
  have e : (w.alloc o).heap.size = w.heap.size + 1 := by simp
  rw [e] at h
  exact h
theorem RowF.only {S : Nat → Prop} {w v : World} {g : Nat} {t : TypeId} {cs : Array Value} (h : RowF w g t cs) (ho : Only S w v) (hg : ¬ S g) : RowF v g t cs := by
  have hi := h.inside
  obtain ⟨fr, h⟩ := h
  exact ⟨fr, (ho.same g hi hg).trans h⟩
theorem RowF.later {w v : World} {g : Nat} {t : TypeId} {cs : Array Value} (h : RowF w g t cs) (hb : Below w.heap.size w v) : RowF v g t cs := h.only (S := fun _ => False) (.of_below hb) (fun h => h)
theorem RowF.more {w : World} {g : Nat} {t : TypeId} {cs : Array Value} (h : RowF w g t cs) (o : Obj) : RowF (w.alloc o) g t cs := h.later (bl_alloc (Below.refl _ _) o)
theorem RowF.src {w : World} {g : Nat} {l : List Nat} (h : RowF w g 5 (bts l).toArray) : Src w (some ⟨g, 0, none⟩) (bts l) := fun _ => ⟨_, rfl, fun j u hu => by
  obtain ⟨fr, h⟩ := h
  rw [add_zero_addr]
  exact (cell_of_row w g j _ 5 fr h).trans (by rw [List.getElem?_toArray]; exact hu)⟩
theorem fresh_rowF {B p g : Nat} {t : TypeId} {cs : Array Value} {W0 w W : World} {hv : Value} {s : GS} (h : RowF w g t cs) (h0 : GRep B W0 p hv s) (hg : W0.heap.size ≤ g) (ho : Only (GS1 p hv) w W) : RowF W g t cs :=
  h.only ho (fun hx => by have := h0.block_lt g hx; omega)
theorem g_ok {w : World} {g : Nat} {l : List Nat} (h : RowF w g 5 (bts l).toArray) (hb : ∀ b ∈ l, b < 256) (hl : l.length ≤ 9223372036854775807) : RowB.ok w ⟨some ⟨g, 0, none⟩, l.length, l⟩ := ⟨h.src, Nat.le_refl _, hl, hb⟩
theorem g_rsrc {w : World} {g : Nat} {L : List RowB} (h : Row w g 30 (L.map RowB.v).toArray) (hok : ∀ r ∈ L, r.ok w) : RSrc w (some ⟨g, 0, none⟩) L := fun _ => ⟨_, rfl, fun k r hr => ⟨by
  rw [add_zero_addr]
  exact h.read (by rw [List.getElem?_toArray, List.getElem?_map, hr]; rfl), hok r (List.mem_of_getElem? hr)⟩⟩
theorem gput_lit1 {B p g1 g2 : Nat} {W0 w : World} {hv : Value} {s : GS} (fi : Nat) (gap : Bool) (b : Nat) (h0 : GRep B W0 p hv s) (hb : Below W0.heap.size W0 w) (hg1 : W0.heap.size ≤ g1) (hg2 : W0.heap.size ≤ g2) (hB : B ≤ W0.heap.size)
    (h1 : RowF w g1 5 #[.int .u8 (b : Nat)]) (h2 : Row w g2 30 #[.slice (some ⟨g1, 0, none⟩) 1 1]) (hb1 : b < 256) (hlost : s.lost ≤ 10000) (hheld : s.held.length ≤ 1000) (hby : ∀ x ∈ s.held, x < 256) (hfi : fi ≤ 3) :
    Calls Try.prog 104 #[.pointer (some ⟨p, 0, none⟩), .int .i64 fi, .slice (some ⟨g2, 0, none⟩) 1 1, .bool gap] w (PutDone B p hv (putG fi [[b]] gap s).1 (putG fi [[b]] gap s).2 w) :=
  gput_ok (L := [⟨some ⟨g1, 0, none⟩, 1, [b]⟩]) fi 1 1 gap (h0.later hb) rfl (Nat.le_trans hB hb.size) (fun W ho => g_rsrc (fresh_row h2 h0 hg2 ho) (fun r hr => by
    rw [List.mem_singleton] at hr
    subst hr
    exact g_ok (l := [b]) (fresh_rowF h1 h0 hg1 ho) (by simpa using hb1) (by simp))) (by
    unfold okG
    simp [lens]
    omega) (by
    intro _ r hr
    simp at hr
    subst hr
    simp) hlost hheld hby
theorem gput_lit2 {B p g1 g2 g3 : Nat} {W0 w : World} {hv : Value} {s : GS} (fi : Nat) (gap : Bool) (b c d : Nat) (h0 : GRep B W0 p hv s) (hb : Below W0.heap.size W0 w) (hg1 : W0.heap.size ≤ g1) (hg2 : W0.heap.size ≤ g2) (hg3 : W0.heap.size ≤ g3) (hB : B ≤ W0.heap.size)
    (h1 : RowF w g1 5 #[.int .u8 (b : Nat)]) (h2 : RowF w g2 5 #[.int .u8 (c : Nat), .int .u8 (d : Nat)]) (h3 : Row w g3 30 #[.slice (some ⟨g1, 0, none⟩) 1 1, .slice (some ⟨g2, 0, none⟩) 2 2]) (hb1 : b < 256) (hc1 : c < 256) (hd1 : d < 256) (hlost : s.lost ≤ 10000) (hheld : s.held.length ≤ 1000) (hby : ∀ x ∈ s.held, x < 256) (hfi : fi ≤ 3) :
    Calls Try.prog 104 #[.pointer (some ⟨p, 0, none⟩), .int .i64 fi, .slice (some ⟨g3, 0, none⟩) 2 2, .bool gap] w (PutDone B p hv (putG fi [[b], [c, d]] gap s).1 (putG fi [[b], [c, d]] gap s).2 w) :=
  gput_ok (L := [⟨some ⟨g1, 0, none⟩, 1, [b]⟩, ⟨some ⟨g2, 0, none⟩, 2, [c, d]⟩]) fi 2 2 gap (h0.later hb) rfl (Nat.le_trans hB hb.size) (fun W ho => g_rsrc (fresh_row h3 h0 hg3 ho) (fun r hr => by
    rw [List.mem_cons, List.mem_singleton] at hr
    rcases hr with rfl | rfl
    · exact g_ok (l := [b]) (fresh_rowF h1 h0 hg1 ho) (by simpa using hb1) (by simp)
    · exact g_ok (l := [c, d]) (fresh_rowF h2 h0 hg2 ho) (by simp; omega) (by simp))) (by
    unfold okG
    simp [lens]
    omega) (by
    intro _ r hr
    simp at hr
    subst hr
    simp) hlost hheld hby
end Go.Proofs.Ytfgjlhklioijmaa
namespace Go.Proofs.Ytfgjlhklioijmaa
open Go.RowKit

def UZ (v : Value) : Array Value := #[.int .i64 0, v, .int .i64 0, .int .i64 0, .slice none 0 0, .bool false, .int .i64 0, .int .i64 0, .bool false, .bool false, .int .i64 0, .slice none 0 0, .int .i64 0, .slice none 0 0]
set_option maxRecDepth 100000 in
set_option maxHeartbeats 1600000 in
theorem enew_ok (bits win reo prx pro ppd pby mrx qb : Int) (w : World) (hck : checkF ⟨0, bits, win, reo, prx, pro, ppd, pby, mrx, qb⟩ = 0) (h1 : 1 ≤ qb) (h2 : qb ≤ 20000) :
    Calls Try.prog 81 #[.agg (Cf.a ⟨0, bits, win, reo, prx, pro, ppd, pby, mrx, qb⟩)] w fun e w' => ∃ x q : Nat, e = .returned (.tuple #[.pointer (some ⟨x, 0, none⟩), .int .i64 0]) ∧ Row w' x 135 (ECells ⟨0, bits, win, reo, prx, pro, ppd, pby, mrx, qb⟩ (.pointer (some ⟨q, 0, none⟩))) ∧ QRep w.heap.size w' q qb 0 [] ∧ Below w.heap.size w w' ∧ w.heap.size ≤ x := by
  have HCK := Lib.hid (fun W => pcheck_any ⟨0, bits, win, reo, prx, pro, ppd, pby, mrx, qb⟩ W)
  rw [hck] at HCK
  unfold Cf.a at *
  have ROW := Lib.hid (Row.made w 49 #[.int .i64 0, .int .i64 bits, .int .i64 win, .int .i64 reo, .int .i64 prx, .int .i64 pro, .int .i64 ppd, .int .i64 pby, .int .i64 mrx, .int .i64 qb])
  have HB0 := Lib.hid (bl_alloc (Below.refl w.heap.size w) (.cells #[.int .i64 0, .int .i64 bits, .int .i64 win, .int .i64 reo, .int .i64 prx, .int .i64 pro, .int .i64 ppd, .int .i64 pby, .int .i64 mrx, .int .i64 qb] 49))
  obtain ⟨c0, c1, c2, c3, c4, c5, c6, c7, c8, c9⟩ := cells10 ROW.out
  clear hck
  go_enter Try.func81, Try.ntmps81
  go_wp2_with (first
    | (go_at_call 38; (with_reducible refine (HCK.out _).mono ?_); rintro e w1 ⟨rfl, hb1⟩; (have HB1 := Lib.hid (bl_step HB0.out hb1); have ROW1 := Lib.hid (ROW.out.later hb1); clear hb1 c0 c1 c2 c3 c4 c5 c6 c7 c8 c9; obtain ⟨c0, c1, c2, c3, c4, c5, c6, c7, c8, c9⟩ := cells10 ROW1.out))
    | (go_at_call 58; (with_reducible refine (qnew_any w.heap.size qb w1 HB1.out.size h1 h2).mono ?_); rintro e w2 ⟨rfl, hq, hb2⟩; (have HQ := Lib.hid hq; have HB2 := Lib.hid (bl_step HB1.out hb2); have ROW2 := Lib.hid (ROW1.out.later hb2); clear hq hb2 c0 c1 c2 c3 c4 c5 c6 c7 c8 c9; obtain ⟨c0, c1, c2, c3, c4, c5, c6, c7, c8, c9⟩ := cells10 ROW2.out)))
  go_ret2
  exact ⟨_, w1.heap.size, rfl, Row.made w2 135 _, HQ.out.later (bl_alloc (Below.refl _ _) _), bl_alloc HB2.out _, HB2.out.size⟩
set_option maxRecDepth 100000 in
set_option maxHeartbeats 1600000 in
theorem enew_kind (mode bits win reo prx pro ppd pby mrx qb : Int) (w : World) (hck : checkF ⟨mode, bits, win, reo, prx, pro, ppd, pby, mrx, qb⟩ = 0) (hm : mode ≠ 0) :
    Calls Try.prog 81 #[.agg (Cf.a ⟨mode, bits, win, reo, prx, pro, ppd, pby, mrx, qb⟩)] w fun e w' => e = .returned (.tuple #[.pointer none, .int .i64 9]) ∧ Below w.heap.size w w' := by
  have HCK := Lib.hid (fun W => pcheck_any ⟨mode, bits, win, reo, prx, pro, ppd, pby, mrx, qb⟩ W)
  rw [hck] at HCK
  unfold Cf.a at *
  have ROW := Lib.hid (Row.made w 49 #[.int .i64 mode, .int .i64 bits, .int .i64 win, .int .i64 reo, .int .i64 prx, .int .i64 pro, .int .i64 ppd, .int .i64 pby, .int .i64 mrx, .int .i64 qb])
  have HB0 := Lib.hid (bl_alloc (Below.refl w.heap.size w) (.cells #[.int .i64 mode, .int .i64 bits, .int .i64 win, .int .i64 reo, .int .i64 prx, .int .i64 pro, .int .i64 ppd, .int .i64 pby, .int .i64 mrx, .int .i64 qb] 49))
  obtain ⟨c0, c1, c2, c3, c4, c5, c6, c7, c8, c9⟩ := cells10 ROW.out
  have hne : (mode != 0) = true := by simpa using hm
  clear hck hm
  go_enter Try.func81, Try.ntmps81
  go_wp2_with (first
    | (go_at_call 38; (with_reducible refine (HCK.out _).mono ?_); rintro e w1 ⟨rfl, hb1⟩; (have HB1 := Lib.hid (bl_step HB0.out hb1); have ROW1 := Lib.hid (ROW.out.later hb1); clear hb1 c0 c1 c2 c3 c4 c5 c6 c7 c8 c9; obtain ⟨c0, c1, c2, c3, c4, c5, c6, c7, c8, c9⟩ := cells10 ROW1.out)))
  go_ret2
  exact ⟨rfl, HB1.out⟩
set_option maxRecDepth 100000 in
set_option maxHeartbeats 1600000 in
theorem enew_bad (mode bits win reo prx pro ppd pby mrx qb : Int) (w : World) (hck : checkF ⟨mode, bits, win, reo, prx, pro, ppd, pby, mrx, qb⟩ ≠ 0) :
    Calls Try.prog 81 #[.agg (Cf.a ⟨mode, bits, win, reo, prx, pro, ppd, pby, mrx, qb⟩)] w fun e w' => e = .returned (.tuple #[.pointer none, .int .i64 (checkF ⟨mode, bits, win, reo, prx, pro, ppd, pby, mrx, qb⟩)]) ∧ Below w.heap.size w w' := by
  have HCK := Lib.hid (fun W => pcheck_any ⟨mode, bits, win, reo, prx, pro, ppd, pby, mrx, qb⟩ W)
  generalize checkF ⟨mode, bits, win, reo, prx, pro, ppd, pby, mrx, qb⟩ = er at *
  have hne : (er != 0) = true := by simpa using hck
  unfold Cf.a at *
  have ROW := Lib.hid (Row.made w 49 #[.int .i64 mode, .int .i64 bits, .int .i64 win, .int .i64 reo, .int .i64 prx, .int .i64 pro, .int .i64 ppd, .int .i64 pby, .int .i64 mrx, .int .i64 qb])
  have HB0 := Lib.hid (bl_alloc (Below.refl w.heap.size w) (.cells #[.int .i64 mode, .int .i64 bits, .int .i64 win, .int .i64 reo, .int .i64 prx, .int .i64 pro, .int .i64 ppd, .int .i64 pby, .int .i64 mrx, .int .i64 qb] 49))
  obtain ⟨c0, c1, c2, c3, c4, c5, c6, c7, c8, c9⟩ := cells10 ROW.out
  clear hck
  go_enter Try.func81, Try.ntmps81
  go_wp2_with (first
    | (go_at_call 38; (with_reducible refine (HCK.out _).mono ?_); rintro e w1 ⟨rfl, hb1⟩; (have HB1 := Lib.hid (bl_step HB0.out hb1); clear hb1)))
  go_ret2
  exact ⟨rfl, HB1.out⟩
set_option maxRecDepth 100000 in
set_option maxHeartbeats 3200000 in
theorem ehear_ok {x q : Nat} {A : Option Addr} {bs : List Nat} (bits win reo prx pro ppd pby mrx qb : Int) (n cap : Nat) (w : World) (hE : Row w x 135 (ECells ⟨0, bits, win, reo, prx, pro, ppd, pby, mrx, qb⟩ (.pointer (some ⟨q, 0, none⟩)))) (hck : checkF ⟨0, bits, win, reo, prx, pro, ppd, pby, mrx, qb⟩ = 0)
    (hn : bs.length = n) (h0 : 0 < n) (hm : n ≤ 1000) (hs : Src w A (bts bs)) (hb : ∀ b ∈ bs, b < 256) :
    Calls Try.prog 84 #[.pointer (some ⟨x, 0, none⟩), .slice A n cap] w fun e w' => ∃ g, e = .returned (.tuple #[.slice (some ⟨g, 0, none⟩) n n, .int .i64 0]) ∧ QBytes w' g bs ∧ Below w.heap.size w w' := by
  have HQ := Lib.hid (equeue_any hE)
  have HR := Lib.hid (pread_tm_ok (A := A) (bs := bs) bits win reo prx pro ppd pby mrx qb n cap w hck (fun V hV => by
    have h := pkind_any (A := A) (bs := bs) 0 n cap V hn (src_later hs hV) hb
    exact h) (fun V hV => ptext_ok n cap V hn h0 hm (src_later hs hV)))
  unfold ECells at hE
  have c0 := hE.read (i := 0) (x := .int .i64 0) rfl
  have c1 := hE.read (i := 1) (x := .int .i64 bits) rfl
  have c2 := hE.read (i := 2) (x := .int .i64 win) rfl
  have c3 := hE.read (i := 3) (x := .int .i64 reo) rfl
  have c4 := hE.read (i := 4) (x := .int .i64 prx) rfl
  have c5 := hE.read (i := 5) (x := .int .i64 pro) rfl
  have c6 := hE.read (i := 6) (x := .int .i64 ppd) rfl
  have c7 := hE.read (i := 7) (x := .int .i64 pby) rfl
  have c8 := hE.read (i := 8) (x := .int .i64 mrx) rfl
  have c9 := hE.read (i := 9) (x := .int .i64 qb) rfl
  clear hE hs hb hck
  go_enter Try.func84, Try.ntmps84
  go_wp2_with (first
    | (go_at_call 188; (with_reducible refine HQ.out.mono ?_); rintro e w1 ⟨rfl, rfl⟩)
    | (go_at_call 37; (with_reducible refine HR.out.mono ?_); rintro e w1 ⟨g, cs, rfl, hrw, hpre, hbl⟩; (have HRW := Lib.hid hrw; have HPR := Lib.hid hpre; have HBL := Lib.hid hbl; clear hrw hpre hbl)))
  go_ret2
  exact ⟨g, rfl, ⟨cs, HRW.out.more _, HPR.out⟩, bl_alloc HBL.out _⟩
end Go.Proofs.Ytfgjlhklioijmaa
namespace Go.Proofs.Ytfgjlhklioijmaa
open Go.RowKit

theorem RowF.q {B : Nat} {w v : World} {g : Nat} {t : TypeId} {cs : Array Value} (h : RowF w g t cs) (h1 : t ≠ 114) (h2 : t ≠ 251) (ho : QOnly B w v) : RowF v g t cs :=
  h.only ho (fun ⟨_, t', cs', hr, ht⟩ => by
    obtain ⟨fr, h⟩ := h
    unfold Row at hr
    rw [h] at hr
    injection hr with hr
    injection hr with _ hr
    subst hr
    rcases ht with ht | ht
    · exact h1 ht
    · exact h2 ht)
theorem qb_src {w : World} {g : Nat} {l : List Nat} (h : QBytes w g l) : Src w (some ⟨g, 0, none⟩) (bts l) := by
  obtain ⟨cs, h1, h2⟩ := h
  intro _
  refine ⟨_, rfl, fun j u hu => ?_⟩
  have hj : j < l.length := by have := (List.getElem?_eq_some_iff.1 hu).1; rw [length_bts] at this; exact this
  have hb := bts_at (List.getElem?_eq_getElem hj)
  rw [hu] at hb
  injection hb with hb
  rw [hb, add_zero_addr]
  exact h1.read (h2 j _ (List.getElem?_eq_getElem hj))
theorem qb_conv {w : World} {g : Nat} {l : List Nat} (n c : Nat) (hl : l.length = n) (h : QBytes w g l) (hb : ∀ b ∈ l, b < 256) : (convert 30 9 (.slice (some ⟨g, 0, none⟩) n c)).run Try.prog w = .ok (.string (strOf l)) w := conv_src n c hl (qb_src h) hb
def us0 : Cf := ⟨0, 0, 0, 0, 0, 0, 0, 0, 0, 5000⟩
theorem us0_any (w : World) : Calls Try.prog 39 #[.int .i64 0] w fun e w' => e = .returned (.agg us0.a) ∧ Below w.heap.size w w' := pusual_any 0 w
theorem us0_new (w : World) : Calls Try.prog 81 #[.agg us0.a] w fun e w' => ∃ x q : Nat, e = .returned (.tuple #[.pointer (some ⟨x, 0, none⟩), .int .i64 0]) ∧ Row w' x 135 (ECells us0 (.pointer (some ⟨q, 0, none⟩))) ∧ QRep w.heap.size w' q 5000 0 [] ∧ Below w.heap.size w w' ∧ w.heap.size ≤ x :=
  enew_ok 0 0 0 0 0 0 0 0 5000 w (by decide +kernel) (by omega) (by omega)
def us1 : Cf := ⟨1, 5, 16, 4, 0, 0, 0, 0, 0, 5000⟩
theorem us1_any (w : World) : Calls Try.prog 39 #[.int .i64 1] w fun e w' => e = .returned (.agg us1.a) ∧ Below w.heap.size w w' := pusual_any 1 w
theorem us1_new (w : World) : Calls Try.prog 81 #[.agg us1.a] w fun e w' => e = .returned (.tuple #[.pointer none, .int .i64 9]) ∧ Below w.heap.size w w' :=
  enew_kind 1 5 16 4 0 0 0 0 0 5000 w (by decide +kernel) (by omega)
theorem hear0 {x q : Nat} {A : Option Addr} {bs : List Nat} (n cap : Nat) (w : World) (hE : Row w x 135 (ECells us0 (.pointer (some ⟨q, 0, none⟩)))) (hn : bs.length = n) (h0 : 0 < n) (hm : n ≤ 1000) (hs : Src w A (bts bs)) (hb : ∀ b ∈ bs, b < 256) :
    Calls Try.prog 84 #[.pointer (some ⟨x, 0, none⟩), .slice A n cap] w fun e w' => ∃ g, e = .returned (.tuple #[.slice (some ⟨g, 0, none⟩) n n, .int .i64 0]) ∧ QBytes w' g bs ∧ Below w.heap.size w w' :=
  ehear_ok 0 0 0 0 0 0 0 0 5000 n cap w hE (by decide +kernel) hn h0 hm hs hb
theorem pla1 {x q B : Nat} {w : World} (hE : Row w x 135 (ECells us0 (.pointer (some ⟨q, 0, none⟩)))) (h : QRep B w q 5000 0 []) :
    Calls Try.prog 82 #[.pointer (some ⟨x, 0, none⟩), .slice (some ⟨w.heap.size, 0, none⟩) 2 2] (w.alloc (.cells #[.int .u8 97, .int .u8 98] 5 (2, 3))) fun e w' => e = .returned (.tuple #[.int .u64 1, .int .i64 0]) ∧ Row w' x 135 (ECells us0 (.pointer (some ⟨q, 0, none⟩))) ∧ (∃ t, t.id = 1 ∧ t.bs = [97, 98] ∧ QRep B w' q 5000 1 [t]) ∧ Below B w w' := by
  have hb0 := bl_alloc (Below.refl w.heap.size w) (.cells #[.int .u8 97, .int .u8 98] 5 (2, 3))
  have hB2 : B ≤ w.heap.size := h.2.1
  have hE2 := hE.later hb0
  refine (epush_all (l := [97, 98]) (some ⟨w.heap.size, 0, none⟩) 2 2 rfl hE2 (h.later hb0) (by omega) (by omega) (by simp [bytesF]) (by simp) (by omega) (by omega) (fun V hV => ((RowF.made w 5 #[.int .u8 97, .int .u8 98] (2, 3)).q (by decide) (by decide) hV).src (l := [97, 98]))).mono ?_
  rintro e w' ⟨nid, er, rfl, ho, ⟨h1, h2, _, _, _, _, t, h3, h4, _, h5⟩ | ⟨h1, _, _, _, h2⟩⟩
  · subst h1 h2
    exact ⟨rfl, ho.row hE2 (by decide) (by decide), ⟨t, h3, h4, h5⟩, (hb0.mono hB2).trans (ho.below (Nat.le_trans hB2 hb0.size))⟩
  · have := h2 (by simp) (by simp)
    simp [bytesF] at this
set_option maxRecDepth 100000 in
set_option maxHeartbeats 3200000 in
theorem ealive_any (w : World) : Calls Try.prog 88 #[] w fun e w' => e = .returned (.bool true) ∧ Below w.heap.size w w' := by
  have kc := fun w => Lib.run_convert_bytes_const (P := Try.prog) w 30 5 #[.int .u8 97, .int .u8 98] 2 2 Try.underlying30 Try.underlying5
  have HU0 := Lib.hid us0_any
  have HN0 := Lib.hid us0_new
  have HU1 := Lib.hid us1_any
  have HN1 := Lib.hid us1_new
  generalize us0.a = u0 at *
  generalize us1.a = u1 at *
  go_enter Try.func88, Try.ntmps88
  go_wp2_with (first
    | (go_at_call 39; (with_reducible refine (HU0.out _).mono ?_); rintro e w1 ⟨rfl, hb1⟩; (have HB1 := Lib.hid hb1; clear hb1))
    | (go_at_call 81; (with_reducible refine (HN0.out _).mono ?_); rintro e w2 ⟨x, q, rfl, he2, hq2, hb2, hx2⟩; (have HE2 := Lib.hid he2; have HQ2 := Lib.hid hq2; have HB2 := Lib.hid (bl_step HB1.out hb2); clear he2 hq2 hb2 hx2))
    | (go_at_call 82; (with_reducible refine (pla1 HE2.out HQ2.out).mono ?_); rintro e w3 ⟨rfl, he3, ⟨t, ht1, ht2, hq3⟩, hb3⟩; (have HE3 := Lib.hid he3; have HQ3 := Lib.hid hq3; have HB3 := Lib.hid hb3; have HT := Lib.hid (And.intro ht1 ht2); have HG := Lib.hid (ebuild_grant 1 he3 hq3 (by omega) (by omega) (by omega) (by rw [ht2]; decide) (by rw [ht2]; decide) (by rw [ht2]; decide)); clear he3 hq3 hb3 ht1 ht2))
    | (go_at_call 83; (with_reducible refine HG.out.mono ?_); rintro e w4 ⟨rfl, hb4⟩; (have HE4 := Lib.hid (HE3.out.later hb4); have HQ4 := Lib.hid (HQ3.out.later hb4); have HB4 := Lib.hid hb4; have HG2 := Lib.hid (ebuild_ok 2 (HE3.out.later hb4) (HQ3.out.later hb4) (by omega) (by omega) (by rw [HT.out.2]; decide) (by rw [HT.out.2]; decide) (by rw [HT.out.2]; decide) (by simp)); clear hb4))
    | (go_at_call 83; (with_reducible refine HG2.out.mono ?_); rintro e w5 ⟨g5, rfl, hg5, hby5, ho5, hq5⟩; (rw [HT.out.2] at hby5 ⊢; rw [HT.out.1]; have HE5 := Lib.hid (ho5.row HE4.out (by decide) (by decide)); have HY5 := Lib.hid hby5; have HO5 := Lib.hid ho5; have HH := Lib.hid (hear0 2 2 w5 HE5.out rfl (by omega) (by omega) (qb_src hby5) (by simp)); clear hg5 hby5 ho5 hq5))
    | (go_at_call 84; (with_reducible refine HH.out.mono ?_); rintro e w6 ⟨g6, rfl, hby6, hb6⟩; (have HY6 := Lib.hid hby6; have HY56 := Lib.hid (HY5.out.later hb6); have HB6 := Lib.hid hb6; clear hby6 hb6))
    | (go_at_call 39; (with_reducible refine (HU1.out _).mono ?_); rintro e w7 ⟨rfl, hb7⟩; (have HB7 := Lib.hid hb7; clear hb7))
    | (go_at_call 81; (with_reducible refine (HN1.out _).mono ?_); rintro e w8 ⟨rfl, hb8⟩; (have HB8 := Lib.hid (bl_step HB7.out hb8); clear hb8; have cv5 := qb_conv 2 2 rfl (HY56.out.later HB8.out) (by simp); have cv6 := qb_conv 2 2 rfl (HY6.out.later HB8.out) (by simp); have z2 : strOf [97, 98] = ⟨#[97, 98]⟩ := rfl; rw [z2] at cv5 cv6; clear z2)))
  go_ret
  refine ⟨rfl, ?_⟩
  have s2 := HQ2.out.2.1
  have s3 := HQ3.out.2.1
  have s4 := HQ4.out.2.1
  have s1 := HB1.out.size
  have s5 := HO5.out.size
  have s6 := HB6.out.size
  have b3 := HB2.out.trans (HB3.out.mono s1)
  have b4 := b3.trans (HB4.out.mono (Nat.le_trans s1 s3))
  have b5 := b4.trans ((HO5.out.below s4).mono s1)
  have b6 := b5.trans (HB6.out.mono (Nat.le_trans (Nat.le_trans s1 s4) s5))
  exact b6.trans (HB8.out.mono (Nat.le_trans (Nat.le_trans (Nat.le_trans s1 s4) s5) s6))
end Go.Proofs.Ytfgjlhklioijmaa
namespace Go.Proofs.Ytfgjlhklioijmaa
open Go.RowKit

section
variable {W w v : World} {x q B : Nat} {c : Cf} {sn wd last : Nat} {ts : List Txt}
theorem OwnY.u {y : Value} {l : List Nat} {cs : Array Value} (h : OwnY B w y l) (hx : Row w x 149 cs) {D : Nat} (ho : UOnly D x w v) : OwnY B v y l := h.only ho (fun k hk hq => by
  rcases hq with ⟨_, t, cs', h1, h2⟩ | hq
  · exact own_apart h h1 (by rintro rfl; rcases h2 with h2 | h2 <;> exact absurd h2 (by decide)) hk
  · subst hq
    exact own_apart h hx (by decide) hk)
theorem US.push_const (h : US W w x q c sn wd last ts) (l : List Nat) (n : Nat) (fr : Nat × Nat) (hn : l.length = n) (hlast : last ≤ 1000000) (h0 : 0 < n) (h1 : n ≤ 1000) (hm : ts.length < 64) (hf : (bytesF ts : Int) + n ≤ c.qb) (hb : ∀ b ∈ l, b < 256) :
    Calls Try.prog 92 #[.pointer (some ⟨x, 0, none⟩), .slice (some ⟨w.heap.size, 0, none⟩) n n] (w.alloc (.cells (bts l).toArray 5 fr)) fun e w' => e = .returned (.tuple #[.int .u64 (last + 1 : Nat), .int .i64 0]) ∧ ∃ t : Txt, t.id = last + 1 ∧ t.bs = l ∧ t.bg = false ∧ US W w' x q c sn wd (last + 1) (ts ++ [t]) := by
  have hbl := bl_alloc (Below.refl w.heap.size w) (.cells (bts l).toArray 5 fr)
  have h' := h.later hbl
  refine (upush_all (some ⟨w.heap.size, 0, none⟩) l n n hn h'.snd h'.qs (by have := h.hr; omega) h.hr2 (by omega) (by omega) hb (fun V V' hV hq => csrc_mark w l fr V' ((QOnly.of_below hV).trans hq))).mono ?_
  rintro e w' ⟨w1, hb1, nid, er, rfl, ho, ⟨rfl, h2, h3, h4, h5, h6, t, k1, k2, k3, k4⟩ | ⟨h2, h3, h4, h5⟩⟩
  · have hoo : QOnly W.heap.size _ w' := (QOnly.of_below hb1).trans ho
    subst h2
    exact ⟨rfl, t, k1, k2, k3.1, h'.next (hoo.row h'.snd (by decide) (by decide)) k4 (UOnly.of_q hoo) h.hsn⟩
  · exfalso
    rw [hn] at h5
    omega
theorem US.bld {g room : Int} {k : Nat} {n : Int} (h : US W w x q c sn wd last ts) (hg : min g 4000 - c.bits / 5 = room) (hb : Bld room 11 (lenT ts) k n) (hf : faultU g (bytesF ts : Nat) c.bits = 0) :
    Calls Try.prog 93 #[.pointer (some ⟨x, 0, none⟩), .int .i64 g] w fun e w' => ∃ (f : Nat) (ts' : List Txt) (D : Option Addr) (L : List RowB) (A : Option Addr) (m cp : Nat), e = .returned (.tuple #[.slice A m cp, .slice D k k, .int .i64 0]) ∧ fiT ts n = (f : Int) ∧ (umdBytes f sn L wd).length = m ∧ OwnY w.heap.size w' (.slice A m cp) (umdBytes f sn L wd) ∧ texts L = fieldsT (ts.map Txt.bs) k n ∧ RestT ts k n ts' ∧ US W w' x q c ((sn + 1) % 2 ^ wd) wd last ts' ∧ UOnly W.heap.size x w w' := by
  refine (h.build g hf).mono ?_
  rintro e w' ⟨k2, f, n2, ts', D, L, v, rfl, e2, e3, e4, e5, e6, e7, e8, e9, e10, e11, e12⟩
  rw [hg] at e7
  obtain ⟨rfl, rfl⟩ := e7.only hb (lenT_pos (fun t ht => (h.qs.bytes t ht).1))
  obtain ⟨A, cp, rfl, _⟩ := e3.form
  exact ⟨f, ts', D, L, A, _, cp, rfl, e2, rfl, e3, e6, e8, e10, e12⟩
end
theorem ub1 : Bld 1 11 [2] 0 1 := ⟨by decide, fun i l hi hl => by omega, by decide, by decide⟩
theorem ub2 : Bld 1 11 [1] 1 (-2) := ⟨by decide, fun i l hi hl => by
  match i, hi, hl with
  | 0, _, hl => simp at hl; subst hl; decide, by decide, by decide⟩
def us5 : Cf := ⟨1, 5, 16, 4, 0, 0, 0, 0, 0, 5000⟩
theorem one_text {L : List RowB} {a : Nat} (h : texts L = [[a]]) : lens L = [1] ∧ flat L = [a] ∧ L.length = 1 := by
  refine ⟨by rw [lens_texts, h]; rfl, by unfold flat; rw [h]; rfl, ?_⟩
  have := congrArg List.length h
  simpa [texts] using this
theorem ubytes1 {L : List RowB} (h : texts L = [[97]]) : umdBytes 1 0 L 5 = [64, 97] := by
  obtain ⟨h1, h2, h3⟩ := one_text h
  unfold umdBytes
  rw [h1, h2, h3]
  decide +kernel
theorem ubytes2 {L : List RowB} (h : texts L = [[98]]) : umdBytes 2 1 L 5 = [129, 98] := by
  obtain ⟨h1, h2, h3⟩ := one_text h
  unfold umdBytes
  rw [h1, h2, h3]
  decide +kernel
section
variable {W w v : World} {x q B : Nat} {t : Txt}
theorem ual_b1 (h : US W w x q us5 0 5 1 [t]) (hb : t.bs = [97, 98]) (hg : t.bg = false) : Calls Try.prog 93 #[.pointer (some ⟨x, 0, none⟩), .int .i64 2] w fun e w' => ∃ (D A : Option Addr) (cp : Nat) (t' : Txt), e = .returned (.tuple #[.slice A 2 cp, .slice D 0 0, .int .i64 0]) ∧ OwnY w.heap.size w' (.slice A 2 cp) [64, 97] ∧ t'.bs = [98] ∧ t'.bg = true ∧ US W w' x q us5 1 5 1 [t'] := by
  refine (h.bld (g := 2) (room := 1) (k := 0) (n := 1) (by decide) (by rw [show lenT [t] = [2] by simp [lenT, hb]]; exact ub1) (by simp [bytesF, hb]; decide)).mono ?_
  rintro e w' ⟨f, ts', D, L, A, m, cp, rfl, e2, e3, e4, e5, e6, e7, e8⟩
  have hf : f = 1 := by
    rw [fiT_pos (ts := [t]) (b := false) (n := 1) hg (by omega)] at e2
    simp at e2
    omega
  subst hf
  have hbb := ubytes1 (L := L) (by rw [e5]; simp [fieldsT, hb])
  rw [hbb] at e3 e4
  simp at e3
  subst e3
  rcases e6 with ⟨h9, _⟩ | ⟨_, t0, t', k1, k2, k3, k4, k5⟩
  · omega
  · simp at k1
    subst k1
    simp at k5
    subst k5
    exact ⟨D, A, cp, t', rfl, e4, by rw [k3, hb]; rfl, k4.1, e7⟩
theorem ual_b2 (h : US W w x q us5 1 5 1 [t]) (hb : t.bs = [98]) (hg : t.bg = true) : Calls Try.prog 93 #[.pointer (some ⟨x, 0, none⟩), .int .i64 2] w fun e w' => ∃ (D A : Option Addr) (cp : Nat), e = .returned (.tuple #[.slice A 2 cp, .slice D 1 1, .int .i64 0]) ∧ OwnY w.heap.size w' (.slice A 2 cp) [129, 98] ∧ US W w' x q us5 2 5 1 [] ∧ UOnly W.heap.size x w w' := by
  refine (h.bld (g := 2) (room := 1) (k := 1) (n := -2) (by decide) (by rw [show lenT [t] = [1] by simp [lenT, hb]]; exact ub2) (by simp [bytesF, hb]; decide)).mono ?_
  rintro e w' ⟨f, ts', D, L, A, m, cp, rfl, e2, e3, e4, e5, e6, e7, e8⟩
  have hf : f = 2 := by
    rw [fiT_zero (ts := [t]) (b := true) (n := -2) hg (by omega)] at e2
    simp at e2
    omega
  subst hf
  have hbb := ubytes2 (L := L) (by rw [e5]; simp [fieldsT, hb])
  rw [hbb] at e3 e4
  simp at e3
  subst e3
  rcases e6 with ⟨_, h9⟩ | ⟨h9, _⟩
  · simp at h9
    subst h9
    exact ⟨D, A, cp, rfl, e4, e7, e8⟩
  · omega
theorem ual_b3 (h : US W w x q us5 2 5 1 []) : Calls Try.prog 93 #[.pointer (some ⟨x, 0, none⟩), .int .i64 2] w fun e w' => e = .returned (.tuple #[.slice none 0 0, .slice none 0 0, .int .i64 4]) ∧ Below w.heap.size w w' ∧ US W w' x q us5 2 5 1 [] :=
  (ubuild_bad 2 h.snd h.qs.q (by decide) h.bits (by simp [bytesF]) (by decide)).mono fun _ _ ⟨h1, h2⟩ => ⟨h1, h2, h.later h2⟩
theorem ual_p (h : US W w x q us5 0 5 0 []) : Calls Try.prog 92 #[.pointer (some ⟨x, 0, none⟩), .slice (some ⟨w.heap.size, 0, none⟩) 2 2] (w.alloc (.cells #[.int .u8 97, .int .u8 98] 5 (2, 3))) fun e w' => e = .returned (.tuple #[.int .u64 1, .int .i64 0]) ∧ ∃ t : Txt, t.id = 1 ∧ t.bs = [97, 98] ∧ t.bg = false ∧ US W w' x q us5 0 5 1 [t] :=
  h.push_const [97, 98] 2 (2, 3) rfl (by omega) (by omega) (by omega) (by simp) (by decide) (by simp)
theorem us5_any (w : World) : Calls Try.prog 39 #[.int .i64 1] w fun e w' => e = .returned (.agg us5.a) ∧ Below w.heap.size w w' := pusual_any 1 w
set_option maxRecDepth 100000 in
set_option maxHeartbeats 3200000 in
theorem ualive_any (w : World) : Calls Try.prog 98 #[] w fun e w' => e = .returned (.bool true) ∧ Below w.heap.size w w' := by
  have kc := fun w => Lib.run_convert_bytes_const (P := Try.prog) w 30 5 #[.int .u8 97, .int .u8 98] 2 2 Try.underlying30 Try.underlying5
  have HU := Lib.hid us5_any
  have HN := Lib.hid (fun w => us_new us5 w (by decide +kernel) rfl)
  generalize us5.a = u5 at *
  go_enter Try.func98, Try.ntmps98
  go_wp2_with (first
    | (go_at_call 39; (with_reducible refine (HU.out _).mono ?_); rintro e w1 ⟨rfl, hb1⟩; (have HB1 := Lib.hid hb1; clear hb1))
    | (go_at_call 91; (with_reducible refine (HN.out _).mono ?_); rintro e w2 ⟨x, q, wd, rfl, h2⟩; (obtain rfl : wd = 5 := (by have h9 := h2.hcb; have h8 : us5.bits = 5 := rfl; omega); have H2 := Lib.hid h2; have HPU := Lib.hid (ual_p h2); clear h2))
    | (go_at_call 92; (with_reducible refine HPU.out.mono ?_); rintro e w3 ⟨rfl, t, ht1, ht2, ht3, h3⟩; (have HP1 := Lib.hid (ual_b1 h3 ht2 ht3); clear ht1 ht2 ht3 h3))
    | (go_at_call 93; (with_reducible refine HP1.out.mono ?_); rintro e w4 ⟨D4, A4, c4, t4, rfl, ho4, ht4, hg4, h4⟩; (have HO4 := Lib.hid ho4; have H4 := Lib.hid h4; have HP2 := Lib.hid (ual_b2 h4 ht4 hg4); clear ho4 ht4 hg4 h4))
    | (go_at_call 93; (with_reducible refine HP2.out.mono ?_); rintro e w5 ⟨D5, A5, c5, rfl, ho5, h5, hu5⟩; (have HO45 := Lib.hid (HO4.out.u H4.out.snd hu5); have HO5 := Lib.hid ho5; have HP3 := Lib.hid (ual_b3 h5); clear ho5 h5 hu5))
    | (go_at_call 93; (with_reducible refine HP3.out.mono ?_); rintro e w6 ⟨rfl, hb6, h6⟩; (have cv5 := (HO45.out.later hb6).conv (by simp); have cv6 := (HO5.out.later hb6).conv (by simp); have z2 : strOf [64, 97] = ⟨#[64, 97]⟩ := rfl; have z3 : strOf [129, 98] = ⟨#[129, 98]⟩ := rfl; rw [z2] at cv5; rw [z3] at cv6; have H6 := Lib.hid h6; have HNX := Lib.hid h6.nx; clear z2 z3 h6 hb6))
    | (go_at_call 96; (with_reducible refine HNX.out.mono ?_); rintro e w7 ⟨rfl, rfl⟩))
  go_ret
  exact ⟨rfl, bl_step HB1.out H6.out.bl⟩
end
end Go.Proofs.Ytfgjlhklioijmaa
