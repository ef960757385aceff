/-
  Fields' bytes, one behind the other. Bytes cut into fields of a call's own. pdu: bytes are read: a status.
-/
import Derived.Test.YtbdjgdkafbkdbaaJPduKinds14
import Derived.Test.YtbdjgdkafbkdbaaJPduKinds05
namespace Go.Proofs.Ytbdjgdkafbkdbaa
open Go.RowKit


theorem own_later2 {B : Nat} {e : TypeId} {size n : Nat} {w v : World} {x : Value} {xs : List Value} (h : w.ownsRow B e size x n xs) (hb : Below w.heap.size w v) : v.ownsRow B e size x n xs :=
  own_only h (S := fun _ => False) (.of_below hb) (fun _ _ h => h)
/-- bytes of the call's own -/
def OwnY (B : Nat) (w : World) (v : Value) (l : List Nat) : Prop := w.ownsRow B 5 1 v l.length (bts l)
section
variable {B : Nat} {w w' : World} {v : Value} {l : List Nat}
theorem OwnY.form (h : OwnY B w v l) : ∃ A c, v = .slice A l.length c ∧ l.length ≤ c ∧ c ≤ maxLen := by
  rcases h.2 with ⟨rfl, h0⟩ | ⟨g, cap, cur, rfl, _, _, h1, h2, _⟩
  · exact ⟨none, 0, by rw [h0], by omega, by simp [maxLen]⟩
  · exact ⟨_, cap, rfl, h1, h2⟩
theorem OwnY.src {A : Option Addr} {n c : Nat} (h : OwnY B w (.slice A n c) l) : Src w A (bts l) := by
  obtain ⟨A', c', e, _⟩ := h.form
  injection e with e1 e2 e3
  subst e1 e2 e3
  exact src_own h
theorem OwnY.only {S : Nat → Prop} (h : OwnY B w v l) (ho : Only S w w') (hS : ∀ k, v.ownBlock = some k → ¬ S k) : OwnY B w' v l := own_only h ho hS
theorem OwnY.later (h : OwnY B w v l) (hb : Below w.heap.size w w') : OwnY B w' v l := own_later2 h hb
theorem OwnY.down {B' : Nat} (h : OwnY B w v l) (hb : B' ≤ B) : OwnY B' w v l := own_down h hb
theorem OwnY.conv (h : OwnY B w v l) (hb : ∀ b ∈ l, b < 256) : (convert 61 9 v).run Try.prog w = .ok (.string (strOf l)) w := conv_own h hb
end
theorem own_only_below {B : Nat} {w w' : World} {v : Value} {e n : Nat} {xs : List Value} (h : w.ownsRow B e 1 v n xs) (ho : Only (fun k => v.ownBlock = some k) w w') (hB : B ≤ w.heap.size) : Below B w w' :=
  ho.below hB fun k hk hk' => by have := (h.lt k hk').1; omega

set_option maxRecDepth 100000 in
theorem app_bytes {B : Nat} {W : World} {v : Value} {l y : List Nat} {A : Option Addr} (m c : Nat) (hv : OwnY B W v l) (hB : B ≤ W.heap.size) (hs : Src W A (bts y)) (hm : y.length = m) (hlm : l.length + m ≤ 1000000000) :
    ∃ A' c' W', (Builtin.append_ #[61, 61] 61 #[v, .slice A m c]).run Try.prog W = .ok (.slice A' (l.length + m) c') W' ∧ OwnY B W' (.slice A' (l.length + m) c') (l ++ y) ∧ Below B W W' ∧ Only (fun k => v.ownBlock = some k) W W' ∧ ((Value.slice A' (l.length + m) c').ownBlock = v.ownBlock ∨ (Value.slice A' (l.length + m) c').ownBlock = some W.heap.size) := by
  obtain ⟨i0, hi, hi0, hi1, hi2⟩ := info5_parts
  subst hm
  have key : ∃ v' W', (Builtin.append_ #[61, 61] 61 #[v, .slice A y.length c]).run Try.prog W = .ok v' W' ∧ W'.ownsRow B 5 1 v' (l.length + y.length) (bts l ++ bts y) ∧ W.grownBy W' v.ownBlock ∧ (v'.ownBlock = v.ownBlock ∨ v'.ownBlock = some W.heap.size) := by
    cases A with
    | none =>
      have h0 : y.length = 0 := by
        rcases Nat.eq_zero_or_pos y.length with h0 | h0
        · exact h0
        · obtain ⟨ad, h1, _⟩ := hs (by rw [length_bts]; exact h0)
          cases h1
      have e : y = [] := List.eq_nil_of_length_eq_zero h0
      subst e
      refine ⟨v, W, ?_, (by have h := hv; unfold OwnY at h; simpa [bts] using h), World.grownBy.refl _ _, .inl rfl⟩
      rcases hv.2 with ⟨rfl, h9⟩ | ⟨g, cap, cur, rfl, _, _, hnc, _⟩
      · rw [h9] at *
        simp [Builtin.append_, run_underlying Try.underlying61, sizeOf, typeInfo, hi, Builtin.lenOf, Builtin.firstCells]
      · simp [Builtin.append_, run_underlying Try.underlying61, sizeOf, typeInfo, hi, Builtin.lenOf, Builtin.firstCells, hnc, storeCells]
    | some ad =>
      obtain ⟨v', w', hrun, h2, h3, _, h5⟩ := run_append_own_at (P := Try.prog) W B 61 61 5 i0 _ 1 1 Try.underlying61 hi hi0 hi1 hi2 rfl (by omega) v l.length (bts l) hv ad y.length c (bts y) (by rw [length_bts, Nat.mul_one]) (fun j u hu => by
        have h0 : 0 < (bts y).length := by have := (List.getElem?_eq_some_iff.1 hu).1; omega
        obtain ⟨ad2, h1, h2⟩ := hs h0
        injection h1 with h1
        subst h1
        exact h2 j u hu) (bts_one y) (by unfold maxLen; omega) (by omega) hB
      exact ⟨v', w', hrun, h2, h3, h5⟩
  obtain ⟨v', W', h1, h2, h3, h4⟩ := key
  have hon := (Only.refl (fun k => v.ownBlock = some k) W).grown h3 (fun k hk => .inl hk)
  have ho : OwnY B W' v' (l ++ y) := by unfold OwnY; rw [List.length_append, bts_append]; exact h2
  obtain ⟨A', c', rfl, _⟩ := ho.form
  rw [List.length_append] at *
  exact ⟨A', c', W', h1, ho, own_only_below hv hon hB, hon, h4⟩

set_option maxRecDepth 100000 in
set_option maxHeartbeats 400000 in
theorem behind1_any {B pb : Nat} {v : Value} {l y : List Nat} {A : Option Addr} (k : Int) (m c : Nat) (w : World) (hp : Row w pb 61 #[v]) (hpb : B ≤ pb) (hv : OwnY B w v l) (hB : B ≤ w.heap.size) (hs : Src w A (bts y)) (hm : y.length = m) (hlm : l.length + m ≤ 1000000000) :
    Calls Try.prog 204 #[.int .i64 k, .slice A m c, .pointer (some ⟨pb, 0, none⟩)] w fun e w' => e = .returned (.bool true) ∧ ∃ v', Row w' pb 61 #[v'] ∧ OwnY B w' v' (l ++ y) ∧ Below B w w' := by
  obtain ⟨A', c', W', hrun, hown, hbl, hon, hat⟩ := app_bytes m c hv hB hs hm hlm
  obtain ⟨A0, c0, rfl, _⟩ := hv.form
  have hap := own_apart hv hp (by decide)
  have hcp : w.cell? ⟨pb, 0, none⟩ = some (.slice A0 l.length c0) := hp.read rfl
  have hp2 : Row W' pb 61 #[.slice A0 l.length c0] := hp.only hon hap
  have hcp2 := hp2.free 0
  have hcp3 : W'.cell? ⟨pb, 0, none⟩ = some (.slice A0 l.length c0) := hp2.read rfl
  have hap2 := own_apart hown hp2 (by decide)
  have HE := Lib.hid (show ∃ v', Row (W'.setCell ⟨pb, 0, none⟩ (.slice A' (l.length + m) c')) pb 61 #[v'] ∧ OwnY B (W'.setCell ⟨pb, 0, none⟩ (.slice A' (l.length + m) c')) v' (l ++ y) ∧ Below B w (W'.setCell ⟨pb, 0, none⟩ (.slice A' (l.length + m) c')) from
    ⟨_, hp2.written 0 _, hown.only ((Only.refl (fun k => k = pb) W').set (p := ⟨pb, 0, none⟩) (.inl rfl) _) (fun k hk e => by subst e; exact hap2 hk), hbl.trans ((Below.refl _ _).setCell hpb _)⟩)
  clear hown hbl hon hat hap hp2 hap2 hp hv hs hm
  generalize l.length + m = n2 at *
  generalize l.length = n1 at *
  go_enter Try.func204, Try.ntmps204
  go_wp2_with (at_builtin; refine wpList_run rfl (.tmp 6) (.tmp 7) 61 rfl (.slice A0 n1 c0) (.slice A m c) (by rfl) (by rfl) hrun ?_)
  go_ret
  exact ⟨rfl, HE.out⟩

/-- the first k fields' bytes -/
def flatTo (L : List RowB) (k : Nat) : List Nat := ((texts L).take k).flatten
def flat (L : List RowB) : List Nat := (texts L).flatten
theorem flatTo_zero (L : List RowB) : flatTo L 0 = [] := by simp [flatTo]
theorem flatTo_all {L : List RowB} {n : Nat} (h : L.length = n) : flatTo L n = flat L := by
  unfold flatTo flat
  rw [List.take_of_length_le (by rw [length_texts]; omega)]
theorem flatTo_succ {L : List RowB} {k : Nat} {r : RowB} (h : L[k]? = some r) : flatTo L (k + 1) = flatTo L k ++ r.bs := by
  have h1 := texts_at h
  obtain ⟨hk, h2⟩ := List.getElem?_eq_some_iff.1 h1
  unfold flatTo
  rw [List.take_succ_eq_append_getElem hk, List.flatten_append, h2]
  simp
theorem length_flatTo (L : List RowB) (k : Nat) : (flatTo L k).length = sumTo (lens L) k := by
  induction k with
  | zero => simp [flatTo, sumTo]
  | succ k ih =>
    rcases Nat.lt_or_ge k L.length with h | h
    · have h1 : L[k]? = some L[k] := List.getElem?_eq_getElem h
      rw [flatTo_succ h1, sumTo_succ (lens_at h1), List.length_append, ih]
    · have h2 : flatTo L (k + 1) = flatTo L k := by
        unfold flatTo
        rw [List.take_of_length_le (by rw [length_texts]; omega), List.take_of_length_le (by rw [length_texts]; omega)]
      have h3 : sumTo (lens L) (k + 1) = sumTo (lens L) k := by
        unfold sumTo
        rw [List.take_of_length_le (by rw [length_lens]; omega), List.take_of_length_le (by rw [length_lens]; omega)]
      rw [h2, h3, ih]
theorem length_flat (L : List RowB) : (flat L).length = (lens L).sum := by
  rw [← flatTo_all rfl, length_flatTo, ← length_lens, sumTo_all]

theorem each_behind {B pb n cap : Nat} {v : Value} {l : List Nat} {A : Option Addr} {L : List RowB} (w : World) (hL : L.length = n) (hn : n ≤ 9223372036854775807) (hs : ∀ W, Below B w W → RSrc W A L) (hp : Row w pb 61 #[v]) (hpb : B ≤ pb) (hv : OwnY B w v l) (hB : B ≤ w.heap.size) (hm : l.length + (lens L).sum ≤ 1000000000) :
    Calls Try.prog 198 #[.slice A n cap, .func (.func 204) #[] #[.pointer (some ⟨pb, 0, none⟩)]] w fun e w' => e = .returned (.bool true) ∧ ∃ v', Row w' pb 61 #[v'] ∧ OwnY B w' v' (l ++ flat L) ∧ Below B w w' := by
  refine (each_any (K := 204) (caps := #[.pointer (some ⟨pb, 0, none⟩)]) n cap (.inr (.inr (.inr (.inr rfl)))) (fun k W => ∃ v', Row W pb 61 #[v'] ∧ OwnY B W v' (l ++ flatTo L k) ∧ Below B w W) (fun _ => False) w hL hn
    ⟨v, hp, by rw [flatTo_zero, List.append_nil]; exact hv, Below.refl _ _⟩ (fun k W h => by obtain ⟨_, _, _, h⟩ := h; exact hs W h) (fun k W r hr h => ?_)).mono ?_
  · obtain ⟨v1, h1, h2, h3⟩ := h
    have hk : k < n := by rw [← hL]; exact (List.getElem?_eq_some_iff.1 hr).1
    obtain ⟨ad, rfl, hc⟩ := hs W h3 (by omega)
    have hle := sumTo_le (lens L) (k + 1)
    rw [sumTo_succ (lens_at hr)] at hle
    refine (behind1_any (k : Int) r.bs.length r.cap W h1 hpb h2 (Nat.le_trans hB h3.size) (hc k r hr).2.1 rfl (by rw [List.length_append, length_flatTo]; omega)).mono ?_
    rintro e W2 ⟨rfl, v2, g1, g2, g3⟩
    exact .inl ⟨rfl, v2, g1, by rw [flatTo_succ hr, ← List.append_assoc]; exact g2, h3.trans g3⟩
  · rintro e W (⟨rfl, v', h1, h2, h3⟩ | ⟨_, h⟩)
    · rw [flatTo_all hL] at h2
      exact ⟨rfl, v', h1, h2, h3⟩
    · exact h.elim
set_option maxHeartbeats 400000 in
theorem behind_any {B : Nat} {v : Value} {l : List Nat} {A : Option Addr} {L : List RowB} (n cap : Nat) (w : World) (hL : L.length = n) (hn : n ≤ 9223372036854775807) (hs : ∀ W, Below B w W → RSrc W A L) (hv : OwnY B w v l) (hB : B ≤ w.heap.size) (hm : l.length + (lens L).sum ≤ 1000000000) :
    Calls Try.prog 191 #[v, .slice A n cap] w fun e w' => ∃ v', e = .returned v' ∧ OwnY B w' v' (l ++ flat L) ∧ Below B w w' := by
  obtain ⟨A0, c0, rfl, _⟩ := hv.form
  have HE := Lib.hid (fun W (hb : Below w.heap.size w W) (x : Row W w.heap.size 61 #[.slice A0 l.length c0]) => each_behind (B := B) (cap := cap) W hL hn (fun W' hb' => hs W' ((hb.mono hB).trans hb')) x hB (hv.later hb) (Nat.le_trans hB hb.size) hm)
  clear hL hs hv hm
  generalize l.length = n1 at *
  go_enter Try.func191, Try.ntmps191
  go_wp2_with (go_at_call 198; refine (HE.out _ (bl_alloc (Below.refl _ _) _) (Row.made _ _ _)).mono ?_; rintro e w2 ⟨rfl, v', h1, h2, h3⟩; have hc := h1.read (i := 0) rfl; obtain ⟨A2, c2, hv2, _⟩ := h2.form; generalize (l ++ flat L).length = n2 at hv2; subst hv2; (have H2 := Lib.hid h2; have H3 := Lib.hid h3; clear h2 h3))
  go_ret
  exact ⟨_, rfl, H2.out, ((bl_alloc (Below.refl _ _) _).mono hB).trans H3.out⟩

theorem make_cap (n : Nat) (h : n ≤ 1000000) (w : World) :
    (Instr.makeSlice 61 (.int .i64 0) (.int .i64 (n : Int))).run Try.prog w = .ok (.slice (some ⟨w.heap.size, 0, none⟩) 0 n) (w.alloc (.cells (zeros n).toArray 5)) := by
  obtain ⟨i, hi, hz, hs, hb⟩ := info5_parts
  have h := run_make (P := Try.prog) w 61 5 i _ Try.underlying61 hi hz .i64 .i64 0 n (Int.le_refl _) (by omega) (by rw [hb]; omega) (by omega)
  rw [h, hs, Nat.mul_one, Int.toNat_natCast, ← made_zeros]
  rfl
theorem own_cap (n : Nat) (h : n ≤ 1000000) (w : World) (B : Nat) (hB : B ≤ w.heap.size) : OwnY B (w.alloc (.cells (zeros n).toArray 5)) (.slice (some ⟨w.heap.size, 0, none⟩) 0 n) [] :=
  ⟨by simp [bts], .inr ⟨w.heap.size, n, _, rfl, hB, heap_alloc_new _ _, Nat.zero_le _, by unfold maxLen; omega, by simp [zeros], by simp [bts]⟩⟩

end Go.Proofs.Ytbdjgdkafbkdbaa
namespace Go.Proofs.Ytbdjgdkafbkdbaa
open Go.RowKit


/-- bytes in a block of the call's own -/
def RowB.mine (B : Nat) (w : World) (r : RowB) : Prop := (∃ g cs, r.A = some ⟨g, 0, none⟩ ∧ B ≤ g ∧ Row w g 5 cs ∧ ∀ (j b : Nat), r.bs[j]? = some b → cs[j]? = some (Value.int .u8 b)) ∧ r.bs.length ≤ r.cap ∧ r.cap ≤ 9223372036854775807 ∧ ∀ b ∈ r.bs, b < 256
theorem RowB.mine.ok {B : Nat} {w : World} {r : RowB} (h : r.mine B w) : r.ok w := by
  obtain ⟨⟨g, cs, h1, h2, h3, h4⟩, h5⟩ := h
  refine ⟨fun _ => ⟨_, h1, fun j u hu => ?_⟩, h5⟩
  rw [add_zero_addr]
  simp only [bts, List.getElem?_map, Option.map_eq_some_iff] at hu
  obtain ⟨b, hb, rfl⟩ := hu
  exact h3.read (h4 j b hb)
theorem RowB.mine.only {B : Nat} {w v : World} {r : RowB} {S : Nat → Prop} (h : r.mine B w) (ho : Only S w v) (hS : ∀ k cs, Row w k 5 cs → B ≤ k → ¬ S k) : r.mine B v := by
  obtain ⟨⟨g, cs, h1, h2, h3, h4⟩, h5⟩ := h
  exact ⟨⟨g, cs, h1, h2, h3.only ho (hS g cs h3 h2), h4⟩, h5⟩
theorem RowB.mine.down {B B' : Nat} {w : World} {r : RowB} (h : r.mine B w) (hb : B' ≤ B) : r.mine B' w := by
  obtain ⟨⟨g, cs, h1, h2, h3, h4⟩, h5⟩ := h
  exact ⟨⟨g, cs, h1, by omega, h3, h4⟩, h5⟩
theorem Try.info61 : (Try.prog.info? 61).map (fun i => (i.zero, i.size, i.bytes)) = some (some (.slice none 0 0), 1, 24) := by kernel_rfl
set_option maxRecDepth 100000 in
/-- one row more -/
theorem app_row {B n : Nat} {w : World} {v : Value} {xs : List Value} (h : w.ownsRow B 61 1 v n xs) (hB : B ≤ w.heap.size) (r : RowB) (hl : n ≤ 1000000) :
    ∃ g c w3, (Builtin.append_ #[57, 57] 57 #[v, .slice (some ⟨w.heap.size, 0, none⟩) 1 1]).run Try.prog (w.alloc (.cells #[.slice r.A r.bs.length r.cap] 61)) = .ok (.slice (some ⟨g, 0, none⟩) (n + 1) c) w3 ∧
      w3.ownsRow B 61 1 (.slice (some ⟨g, 0, none⟩) (n + 1) c) (n + 1) (xs ++ [r.v]) ∧ Only (fun k => v.ownBlock = some k) w w3 := by
  obtain ⟨i0, hi, hi0, hi1, hi2⟩ := info_parts Try.info61
  obtain ⟨g, cap, w3, hr3, h2, h3, _, _⟩ := run_append_lies (P := Try.prog) (w.alloc (.cells #[r.v] 61)) 57 57 B 61 i0 _ 1 24 Try.underlying57 hi hi0 hi1 hi2 rfl (by omega) v n _ (h.alloc _) ⟨w.heap.size, 0, none⟩ 1 1 [r.v] rfl
    (World.news_of_block (cs := #[r.v]) (heap_alloc_new w _)) (by intro u hu; simp at hu; rw [hu]; rfl) (by omega) (by unfold maxLen; omega) (by omega) (by simp; omega) _ rfl
  exact ⟨g, cap, w3, hr3, h2, ((Only.refl (fun k => v.ownBlock = some k) w).alloc (.cells #[r.v] 61)).grown h3 (fun k hk => .inl hk)⟩
/-- a list of rows of the call's own, while it grows -/
structure OwnR (B : Nat) (w : World) (v : Value) (L : List RowB) : Prop where
  own : w.ownsRow B 61 1 v L.length (L.map RowB.v)
  mine : ∀ r ∈ L, r.mine B w
section
variable {B : Nat} {w w' : World} {v : Value} {L : List RowB}
theorem OwnR.only {S : Nat → Prop} (h : OwnR B w v L) (ho : Only S w w') (h1 : ∀ k, v.ownBlock = some k → ¬ S k) (h2 : ∀ k cs, Row w k 5 cs → B ≤ k → ¬ S k) : OwnR B w' v L :=
  ⟨own_only h.own ho h1, fun r hr => (h.mine r hr).only ho h2⟩
theorem OwnR.later (h : OwnR B w v L) (hb : Below w.heap.size w w') : OwnR B w' v L := h.only (S := fun _ => False) (.of_below hb) (fun _ _ h => h) (fun _ _ _ _ h => h)
theorem OwnR.form (h : OwnR B w v L) : ∃ A c, v = .slice A L.length c ∧ L.length ≤ c ∧ c ≤ 9223372036854775807 := by
  rcases h.own.2 with ⟨rfl, h0⟩ | ⟨g, cap, cur, rfl, _, _, h1, h2, _⟩
  · exact ⟨none, 0, by rw [h0], by omega, by omega⟩
  · exact ⟨_, cap, rfl, h1, by unfold maxLen at h2; exact h2⟩
theorem OwnR.src {A : Option Addr} {n c : Nat} (h : OwnR B w (.slice A n c) L) : RSrc w A L := by
  intro h0
  obtain ⟨g, cap, hv, _, _⟩ := h.own.form h0
  injection hv with h1 h2 h3
  subst h1
  refine ⟨_, rfl, fun k r hr => ⟨?_, (h.mine r (List.mem_of_getElem? hr)).ok⟩⟩
  exact h.own.cells (g := g) rfl k _ (by rw [List.getElem?_map, hr]; rfl)
theorem OwnR.next (h : OwnR B w v L) (hB : B ≤ w.heap.size) (r : RowB) (hr : r.mine B w) (hl : L.length ≤ 1000000) :
    ∃ g c w3, (Builtin.append_ #[57, 57] 57 #[v, .slice (some ⟨w.heap.size, 0, none⟩) 1 1]).run Try.prog (w.alloc (.cells #[.slice r.A r.bs.length r.cap] 61)) = .ok (.slice (some ⟨g, 0, none⟩) (L.length + 1) c) w3 ∧
      OwnR B w3 (.slice (some ⟨g, 0, none⟩) (L.length + 1) c) (L ++ [r]) ∧ Below B w w3 := by
  obtain ⟨g, c, w3, h1, h2, h3⟩ := app_row h.own hB r hl
  have hne : ∀ k cs, Row w k 5 cs → B ≤ k → ¬ v.ownBlock = some k := fun k cs hk _ => own_apart h.own hk (by decide)
  refine ⟨g, c, w3, h1, ⟨by rw [List.length_append, List.map_append]; exact h2, fun x hx => ?_⟩, own_only_below h.own h3 hB⟩
  rw [List.mem_append, List.mem_singleton] at hx
  rcases hx with hx | rfl
  · exact (h.mine x hx).only h3 hne
  · exact hr.only h3 hne
end
theorem make_rows (n : Nat) (h : n ≤ 1000) (w : World) :
    (Instr.makeSlice 57 (.int .i64 0) (.int .i64 ((n : Int) + 1))).run Try.prog w = .ok (.slice (some ⟨w.heap.size, 0, none⟩) 0 (n + 1)) (w.alloc (.cells (List.replicate (n + 1) (Value.slice none 0 0)).toArray 61)) := by
  obtain ⟨i, hi, hz, hs, hb⟩ := info_parts Try.info61
  have h := run_make (P := Try.prog) w 57 61 i _ Try.underlying57 hi hz .i64 .i64 0 ((n : Int) + 1) (Int.le_refl _) (by omega) (by rw [hb]; omega) (by omega)
  have e : madeCells #[Value.slice none 0 0] (n + 1) = (List.replicate (n + 1) (Value.slice none 0 0)).toArray := by
    apply Array.toList_inj.1
    rw [toList_madeCells_one]
  rw [h, hs, Nat.mul_one, show ((n : Int) + 1).toNat = n + 1 by omega, ← e]
  rfl
theorem own_rows (n : Nat) (h : n ≤ 1000) (w : World) (B : Nat) (hB : B ≤ w.heap.size) : OwnR B (w.alloc (.cells (List.replicate (n + 1) (Value.slice none 0 0)).toArray 61)) (.slice (some ⟨w.heap.size, 0, none⟩) 0 (n + 1)) [] :=
  ⟨⟨by simp, .inr ⟨w.heap.size, n + 1, _, rfl, hB, heap_alloc_new _ _, Nat.zero_le _, by unfold maxLen; omega, by simp, by simp⟩⟩, fun r hr => by cases hr⟩

set_option maxRecDepth 100000 in
set_option maxHeartbeats 400000 in
theorem copied_f {A : Option Addr} {l : List Nat} (B n c : Nat) (w : World) (hn : l.length = n) (h0 : 0 < n) (hm : n ≤ 1000000) (hs : Src w A (bts l)) (hb : ∀ b ∈ l, b < 256) (hB : B ≤ w.heap.size) :
    Calls Try.prog 195 #[.slice A n c] w fun e w' => ∃ A', e = .returned (.slice A' n n) ∧ RowB.mine B w' ⟨A', n, l⟩ ∧ Below B w w' := by
  obtain ⟨A', c', W', hrun, hown, hbl, _, _⟩ := app_bytes (B := B) (l := []) (v := .slice none 0 0) n c (World.ownsRow_nil _ _ _ _) hB hs hn (by simp; omega)
  simp only [List.length_nil, Nat.zero_add, List.nil_append] at hrun hown
  rcases hown.2 with ⟨h1, h2⟩ | ⟨g, cap, cur, h1, hBg, hh, hnc, hcm, hsz, htk⟩
  · omega
  · injection h1 with e1 e2 e3
    subst e1 e2 e3
    have HM := Lib.hid (show RowB.mine B W' ⟨some ⟨g, 0, none⟩, l.length, l⟩ from ⟨⟨g, cur, rfl, hBg, hh, fun j b hj => by
      have h9 := bts_at hj
      rw [← htk, List.getElem?_take] at h9
      split at h9
      · simpa using h9
      · cases h9⟩, Nat.le_refl _, by show l.length ≤ _; omega, hb⟩)
    have HBL := Lib.hid hbl
    unfold maxLen at hcm
    clear hs hb hown hh htk hsz hbl
    clear hn
    generalize l.length = n at *
    go_enter Try.func195, Try.ntmps195
    go_wp2_with (at_builtin; refine wpList_run rfl (.const (.slice none 0 0)) (.tmp 4) 61 rfl (.slice none 0 0) (.slice A n c) (by rfl) (by rfl) hrun ?_)
    go_ret
    exact ⟨_, rfl, HM.out, HBL.out⟩
end Go.Proofs.Ytbdjgdkafbkdbaa
namespace Go.Proofs.Ytbdjgdkafbkdbaa
open Go.RowKit

set_option maxRecDepth 100000 in
set_option maxHeartbeats 6400000 in
theorem pread_st_ok {A : Option Addr} (bits win reo prx pro ppd pby mrx qb a : Int) (n cap : Nat) (w : World)
    (hck : checkF ⟨2, bits, win, reo, prx, pro, ppd, pby, mrx, qb⟩ = 0) (hkd : ∀ W, Below w.heap.size w W → Calls Try.prog 125 #[.int .i64 2, .slice A n cap] W fun e w' => e = .returned (.int .i64 3) ∧ W = w')
    
    (hcal : ∀ W, Below w.heap.size w W → Calls Try.prog 60 #[.slice A n cap, .int .i64 bits] W fun e w' => ∃ (A' : Option Addr) (n' c' : Nat), e = .returned (.tuple #[.agg #[.int .i64 a, .slice A' n' c'], .int .i64 0]) ∧ Below W.heap.size W w') :
    Calls Try.prog 65 #[.agg #[.int .i64 2, .int .i64 bits, .int .i64 win, .int .i64 reo, .int .i64 prx, .int .i64 pro, .int .i64 ppd, .int .i64 pby, .int .i64 mrx, .int .i64 qb], .slice A n cap] w fun e w' => ∃ (A' : Option Addr) (n' c' : Nat), e = .returned (.tuple #[.agg #[.int .i64 3, .slice none 0 0, .int .i64 0, .int .i64 0, .slice none 0 0, .bool false, .int .i64 0, .int .i64 0, .bool false, .bool false, .int .i64 0, .slice none 0 0, .int .i64 a, .slice A' n' c'], .int .i64 0]) ∧ Below w.heap.size w w' := by
  have ROW := Lib.hid (Row.made w 103 #[.int .i64 2, .int .i64 bits, .int .i64 win, .int .i64 reo, .int .i64 prx, .int .i64 pro, .int .i64 ppd, .int .i64 pby, .int .i64 mrx, .int .i64 qb])
  have ROWZ := Lib.hid (row_at2 (w.alloc (.cells #[.int .i64 2, .int .i64 bits, .int .i64 win, .int .i64 reo, .int .i64 prx, .int .i64 pro, .int .i64 ppd, .int .i64 pby, .int .i64 mrx, .int .i64 qb] 103)) (w.heap.size + 1) 112 #[.int .i64 0, .slice none 0 0, .int .i64 0, .int .i64 0, .slice none 0 0, .bool false, .int .i64 0, .int .i64 0, .bool false, .bool false, .int .i64 0, .slice none 0 0, .int .i64 0, .slice none 0 0] (size_1 _ _))
  have HB0 := Lib.hid (bl_alloc (bl_alloc (Below.refl w.heap.size w) (.cells #[.int .i64 2, .int .i64 bits, .int .i64 win, .int .i64 reo, .int .i64 prx, .int .i64 pro, .int .i64 ppd, .int .i64 pby, .int .i64 mrx, .int .i64 qb] 103)) (.cells #[.int .i64 0, .slice none 0 0, .int .i64 0, .int .i64 0, .slice none 0 0, .bool false, .int .i64 0, .int .i64 0, .bool false, .bool false, .int .i64 0, .slice none 0 0, .int .i64 0, .slice none 0 0] 112))
  have ROWC := Lib.hid (ROW.out.more (.cells #[.int .i64 0, .slice none 0 0, .int .i64 0, .int .i64 0, .slice none 0 0, .bool false, .int .i64 0, .int .i64 0, .bool false, .bool false, .int .i64 0, .slice none 0 0, .int .i64 0, .slice none 0 0] 112))
  have HCK := Lib.hid (fun W => pcheck_any ⟨2, bits, win, reo, prx, pro, ppd, pby, mrx, qb⟩ W)
  rw [hck] at HCK
  unfold Cf.a at HCK
  have HKD := Lib.hid hkd
  have HCAL := Lib.hid hcal
  clear hck hkd hcal
  generalize hW : (w.alloc (.cells #[.int .i64 2, .int .i64 bits, .int .i64 win, .int .i64 reo, .int .i64 prx, .int .i64 pro, .int .i64 ppd, .int .i64 pby, .int .i64 mrx, .int .i64 qb] 103)).alloc (.cells #[.int .i64 0, .slice none 0 0, .int .i64 0, .int .i64 0, .slice none 0 0, .bool false, .int .i64 0, .int .i64 0, .bool false, .bool false, .int .i64 0, .slice none 0 0, .int .i64 0, .slice none 0 0] 112) = W0 at *
  obtain ⟨c0, c1, c2, c3, c4, c5, c6, c7, c8, c9⟩ := cells10 ROWC.out
  go_enter Try.func65, Try.ntmps65
  go_wp2_with fail
  clear hW
  go_wp2_with (first
    | (go_at_call 62; (with_reducible refine (HCK.out _).mono ?_); rintro e w1 ⟨rfl, hb1⟩; (have HB1 := Lib.hid (bl_step HB0.out hb1); have ROWC1 := Lib.hid (ROWC.out.later hb1); have ROWZ1 := Lib.hid (ROWZ.out.later hb1); clear hb1 c0 c1 c2 c3 c4 c5 c6 c7 c8 c9; obtain ⟨c0, c1, c2, c3, c4, c5, c6, c7, c8, c9⟩ := cells10 ROWC1.out))
    | (go_at_call 125; (with_reducible refine (HKD.out _ HB1.out).mono ?_); rintro e wx ⟨rfl, rfl⟩; obtain ⟨C0, C1, -⟩ := cells10 (ROWC1.out.more (.cells #[.int .i64 3, .slice none 0 0, .int .i64 0, .int .i64 0, .slice none 0 0, .bool false, .int .i64 0, .int .i64 0, .bool false, .bool false, .int .i64 0, .slice none 0 0, .int .i64 0, .slice none 0 0] 112)))
    | (go_at_call 60; (with_reducible refine (HCAL.out _ (bl_alloc HB1.out _)).mono ?_); rintro e w3 ⟨A', n', c', rfl, hb3⟩; (have HB3 := Lib.hid (bl_step (bl_alloc HB1.out (.cells #[.int .i64 3, .slice none 0 0, .int .i64 0, .int .i64 0, .slice none 0 0, .bool false, .int .i64 0, .int .i64 0, .bool false, .bool false, .int .i64 0, .slice none 0 0, .int .i64 0, .slice none 0 0] 112)) hb3); have ROWZ3 := Lib.hid ((ROWZ1.out.more (.cells #[.int .i64 3, .slice none 0 0, .int .i64 0, .int .i64 0, .slice none 0 0, .bool false, .int .i64 0, .int .i64 0, .bool false, .bool false, .int .i64 0, .slice none 0 0, .int .i64 0, .slice none 0 0] 112)).later hb3); have ROWQ3 := Lib.hid ((Row.made w1 112 #[.int .i64 3, .slice none 0 0, .int .i64 0, .int .i64 0, .slice none 0 0, .bool false, .int .i64 0, .int .i64 0, .bool false, .bool false, .int .i64 0, .slice none 0 0, .int .i64 0, .slice none 0 0]).later hb3); have hq : w.heap.size + 1 < w1.heap.size := ROWZ1.out.inside; clear hb3; generalize w1.heap.size = q at *; have RZ4 := Lib.hid (show Row ((w3.setCell ⟨q, 12, none⟩ (.int .i64 a)).setCell ⟨q, 13, none⟩ (.slice A' n' c')) (w.heap.size + 1) 112 #[.int .i64 0, .slice none 0 0, .int .i64 0, .int .i64 0, .slice none 0 0, .bool false, .int .i64 0, .int .i64 0, .bool false, .bool false, .int .i64 0, .slice none 0 0, .int .i64 0, .slice none 0 0] from ((ROWZ3.out.elsewhere (p := ⟨q, 12, none⟩) (Nat.ne_of_lt hq) (.int .i64 a)).elsewhere (p := ⟨q, 13, none⟩) (Nat.ne_of_lt hq) (.slice A' n' c'))); have RQ4 := Lib.hid (show Row ((w3.setCell ⟨q, 12, none⟩ (.int .i64 a)).setCell ⟨q, 13, none⟩ (.slice A' n' c')) q 112 #[.int .i64 3, .slice none 0 0, .int .i64 0, .int .i64 0, .slice none 0 0, .bool false, .int .i64 0, .int .i64 0, .bool false, .bool false, .int .i64 0, .slice none 0 0, .int .i64 a, .slice A' n' c'] from ((ROWQ3.out.written 12 (.int .i64 a)).written 13 (.slice A' n' c'))); have HB4 := Lib.hid (show Below w.heap.size w ((w3.setCell ⟨q, 12, none⟩ (.int .i64 a)).setCell ⟨q, 13, none⟩ (.slice A' n' c')) from ((HB3.out.setCell (p := ⟨q, 12, none⟩) (by show w.heap.size ≤ q; omega) (.int .i64 a)).setCell (p := ⟨q, 13, none⟩) (by show w.heap.size ≤ q; omega) (.slice A' n' c'))); obtain ⟨q0, q1, q2, q3, q4, q5, q6, q7, q8, q9, q10, q11, q12, q13⟩ := cells14 ROWQ3.out; obtain ⟨f0, f1, f2, f3, f4, f5, f6, f7, f8, f9, f10, f11, f12, f13⟩ := free14 ROWQ3.out; obtain ⟨r0, r1, r2, r3, r4, r5, r6, r7, r8, r9, r10, r11, r12, r13⟩ := cells14 RQ4.out; obtain ⟨z0, z1, z2, z3, z4, z5, z6, z7, z8, z9, z10, z11, z12, z13⟩ := cells14 RZ4.out; obtain ⟨y0, y1, y2, y3, y4, y5, y6, y7, y8, y9, y10, y11, y12, y13⟩ := free14 RZ4.out)))
  obtain ⟨dd, hdd⟩ := underun_parts
  refine bodyPost_ret (st_results_two rfl _ _ (w.heap.size + 1) 112 #[.int .i64 3, .slice none 0 0, .int .i64 0, .int .i64 0, .slice none 0 0, .bool false, .int .i64 0, .int .i64 0, .bool false, .bool false, .int .i64 0, .slice none 0 0, .int .i64 a, .slice A' n' c'] dd rfl (row_set14 RZ4.out) hdd Try.infoun) rfl ?_
  exact ⟨A', n', c', rfl, below_set14 HB4.out (Nat.le_succ _) _ _ _ _ _ _ _ _ _ _ _ _ _ _⟩
set_option maxRecDepth 100000 in
set_option maxHeartbeats 6400000 in
theorem pread_st_err {A : Option Addr} (bits win reo prx pro ppd pby mrx qb er : Int) (n cap : Nat) (w : World)
    (hck : checkF ⟨2, bits, win, reo, prx, pro, ppd, pby, mrx, qb⟩ = 0) (hkd : ∀ W, Below w.heap.size w W → Calls Try.prog 125 #[.int .i64 2, .slice A n cap] W fun e w' => e = .returned (.int .i64 3) ∧ W = w')
    (her : er ≠ 0)
    (hcal : ∀ W, Below w.heap.size w W → Calls Try.prog 60 #[.slice A n cap, .int .i64 bits] W fun e w' => e = .returned (.tuple #[.agg #[.int .i64 0, .slice none 0 0], .int .i64 er]) ∧ Below W.heap.size W w') :
    Calls Try.prog 65 #[.agg #[.int .i64 2, .int .i64 bits, .int .i64 win, .int .i64 reo, .int .i64 prx, .int .i64 pro, .int .i64 ppd, .int .i64 pby, .int .i64 mrx, .int .i64 qb], .slice A n cap] w fun e w' => e = .returned (.tuple #[.agg #[.int .i64 0, .slice none 0 0, .int .i64 0, .int .i64 0, .slice none 0 0, .bool false, .int .i64 0, .int .i64 0, .bool false, .bool false, .int .i64 0, .slice none 0 0, .int .i64 0, .slice none 0 0], .int .i64 er]) ∧ Below w.heap.size w w' := by
  have ROW := Lib.hid (Row.made w 103 #[.int .i64 2, .int .i64 bits, .int .i64 win, .int .i64 reo, .int .i64 prx, .int .i64 pro, .int .i64 ppd, .int .i64 pby, .int .i64 mrx, .int .i64 qb])
  have ROWZ := Lib.hid (row_at2 (w.alloc (.cells #[.int .i64 2, .int .i64 bits, .int .i64 win, .int .i64 reo, .int .i64 prx, .int .i64 pro, .int .i64 ppd, .int .i64 pby, .int .i64 mrx, .int .i64 qb] 103)) (w.heap.size + 1) 112 #[.int .i64 0, .slice none 0 0, .int .i64 0, .int .i64 0, .slice none 0 0, .bool false, .int .i64 0, .int .i64 0, .bool false, .bool false, .int .i64 0, .slice none 0 0, .int .i64 0, .slice none 0 0] (size_1 _ _))
  have HB0 := Lib.hid (bl_alloc (bl_alloc (Below.refl w.heap.size w) (.cells #[.int .i64 2, .int .i64 bits, .int .i64 win, .int .i64 reo, .int .i64 prx, .int .i64 pro, .int .i64 ppd, .int .i64 pby, .int .i64 mrx, .int .i64 qb] 103)) (.cells #[.int .i64 0, .slice none 0 0, .int .i64 0, .int .i64 0, .slice none 0 0, .bool false, .int .i64 0, .int .i64 0, .bool false, .bool false, .int .i64 0, .slice none 0 0, .int .i64 0, .slice none 0 0] 112))
  have ROWC := Lib.hid (ROW.out.more (.cells #[.int .i64 0, .slice none 0 0, .int .i64 0, .int .i64 0, .slice none 0 0, .bool false, .int .i64 0, .int .i64 0, .bool false, .bool false, .int .i64 0, .slice none 0 0, .int .i64 0, .slice none 0 0] 112))
  have HCK := Lib.hid (fun W => pcheck_any ⟨2, bits, win, reo, prx, pro, ppd, pby, mrx, qb⟩ W)
  rw [hck] at HCK
  unfold Cf.a at HCK
  have HKD := Lib.hid hkd
  have HCAL := Lib.hid hcal
  clear hck hkd hcal
  have hne : (er != 0) = true := by simpa using her
  clear her
  generalize hW : (w.alloc (.cells #[.int .i64 2, .int .i64 bits, .int .i64 win, .int .i64 reo, .int .i64 prx, .int .i64 pro, .int .i64 ppd, .int .i64 pby, .int .i64 mrx, .int .i64 qb] 103)).alloc (.cells #[.int .i64 0, .slice none 0 0, .int .i64 0, .int .i64 0, .slice none 0 0, .bool false, .int .i64 0, .int .i64 0, .bool false, .bool false, .int .i64 0, .slice none 0 0, .int .i64 0, .slice none 0 0] 112) = W0 at *
  obtain ⟨c0, c1, c2, c3, c4, c5, c6, c7, c8, c9⟩ := cells10 ROWC.out
  go_enter Try.func65, Try.ntmps65
  go_wp2_with fail
  clear hW
  go_wp2_with (first
    | (go_at_call 62; (with_reducible refine (HCK.out _).mono ?_); rintro e w1 ⟨rfl, hb1⟩; (have HB1 := Lib.hid (bl_step HB0.out hb1); have ROWC1 := Lib.hid (ROWC.out.later hb1); have ROWZ1 := Lib.hid (ROWZ.out.later hb1); clear hb1 c0 c1 c2 c3 c4 c5 c6 c7 c8 c9; obtain ⟨c0, c1, c2, c3, c4, c5, c6, c7, c8, c9⟩ := cells10 ROWC1.out))
    | (go_at_call 125; (with_reducible refine (HKD.out _ HB1.out).mono ?_); rintro e wx ⟨rfl, rfl⟩; obtain ⟨C0, C1, -⟩ := cells10 (ROWC1.out.more (.cells #[.int .i64 3, .slice none 0 0, .int .i64 0, .int .i64 0, .slice none 0 0, .bool false, .int .i64 0, .int .i64 0, .bool false, .bool false, .int .i64 0, .slice none 0 0, .int .i64 0, .slice none 0 0] 112)))
    | (go_at_call 60; (with_reducible refine (HCAL.out _ (bl_alloc HB1.out _)).mono ?_); rintro e w3 ⟨rfl, hb3⟩; (have HB3 := Lib.hid (bl_step (bl_alloc HB1.out (.cells #[.int .i64 3, .slice none 0 0, .int .i64 0, .int .i64 0, .slice none 0 0, .bool false, .int .i64 0, .int .i64 0, .bool false, .bool false, .int .i64 0, .slice none 0 0, .int .i64 0, .slice none 0 0] 112)) hb3); have ROWZ3 := Lib.hid ((ROWZ1.out.more (.cells #[.int .i64 3, .slice none 0 0, .int .i64 0, .int .i64 0, .slice none 0 0, .bool false, .int .i64 0, .int .i64 0, .bool false, .bool false, .int .i64 0, .slice none 0 0, .int .i64 0, .slice none 0 0] 112)).later hb3); have ROWQ3 := Lib.hid ((Row.made w1 112 #[.int .i64 3, .slice none 0 0, .int .i64 0, .int .i64 0, .slice none 0 0, .bool false, .int .i64 0, .int .i64 0, .bool false, .bool false, .int .i64 0, .slice none 0 0, .int .i64 0, .slice none 0 0]).later hb3); have hq : w.heap.size + 1 < w1.heap.size := ROWZ1.out.inside; clear hb3; generalize w1.heap.size = q at *; have RZ4 := Lib.hid (show Row ((w3.setCell ⟨q, 12, none⟩ (.int .i64 0)).setCell ⟨q, 13, none⟩ (.slice none 0 0)) (w.heap.size + 1) 112 #[.int .i64 0, .slice none 0 0, .int .i64 0, .int .i64 0, .slice none 0 0, .bool false, .int .i64 0, .int .i64 0, .bool false, .bool false, .int .i64 0, .slice none 0 0, .int .i64 0, .slice none 0 0] from ((ROWZ3.out.elsewhere (p := ⟨q, 12, none⟩) (Nat.ne_of_lt hq) (.int .i64 0)).elsewhere (p := ⟨q, 13, none⟩) (Nat.ne_of_lt hq) (.slice none 0 0))); have RQ4 := Lib.hid (show Row ((w3.setCell ⟨q, 12, none⟩ (.int .i64 0)).setCell ⟨q, 13, none⟩ (.slice none 0 0)) q 112 #[.int .i64 3, .slice none 0 0, .int .i64 0, .int .i64 0, .slice none 0 0, .bool false, .int .i64 0, .int .i64 0, .bool false, .bool false, .int .i64 0, .slice none 0 0, .int .i64 0, .slice none 0 0] from ((ROWQ3.out.written 12 (.int .i64 0)).written 13 (.slice none 0 0))); have HB4 := Lib.hid (show Below w.heap.size w ((w3.setCell ⟨q, 12, none⟩ (.int .i64 0)).setCell ⟨q, 13, none⟩ (.slice none 0 0)) from ((HB3.out.setCell (p := ⟨q, 12, none⟩) (by show w.heap.size ≤ q; omega) (.int .i64 0)).setCell (p := ⟨q, 13, none⟩) (by show w.heap.size ≤ q; omega) (.slice none 0 0))); obtain ⟨q0, q1, q2, q3, q4, q5, q6, q7, q8, q9, q10, q11, q12, q13⟩ := cells14 ROWQ3.out; obtain ⟨f0, f1, f2, f3, f4, f5, f6, f7, f8, f9, f10, f11, f12, f13⟩ := free14 ROWQ3.out; obtain ⟨r0, r1, r2, r3, r4, r5, r6, r7, r8, r9, r10, r11, r12, r13⟩ := cells14 RQ4.out; obtain ⟨z0, z1, z2, z3, z4, z5, z6, z7, z8, z9, z10, z11, z12, z13⟩ := cells14 RZ4.out; obtain ⟨y0, y1, y2, y3, y4, y5, y6, y7, y8, y9, y10, y11, y12, y13⟩ := free14 RZ4.out)))
  obtain ⟨dd, hdd⟩ := underun_parts
  refine bodyPost_ret (st_results_two rfl _ _ (w.heap.size + 1) 112 #[.int .i64 0, .slice none 0 0, .int .i64 0, .int .i64 0, .slice none 0 0, .bool false, .int .i64 0, .int .i64 0, .bool false, .bool false, .int .i64 0, .slice none 0 0, .int .i64 0, .slice none 0 0] dd rfl (row_set14 RZ4.out) hdd Try.infoun) rfl ?_
  exact ⟨rfl, below_set14 HB4.out (Nat.le_succ _) _ _ _ _ _ _ _ _ _ _ _ _ _ _⟩
end Go.Proofs.Ytbdjgdkafbkdbaa
