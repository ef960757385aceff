/-
  Fields' bytes, one behind the other. Bytes cut into fields of a call's own. What a mode of Usual is. pdu: a text is copied. plain: an entity in memory; what its calls do. glue: what is held, what is lost, what is told: plain lists. glue: a glue in memory; its small calls.
-/
import Derived.Test.YtbcjfdhphpckfaaJPlainLives15
import Derived.Test.YtbcjfdhphpckfaaJPlainLives07
import Derived.Test.YtbcjfdhphpckfaaJPlainLives14
import Derived.Test.YtbcjfdhphpckfaaJPlainLives02
import Derived.Test.YtbcjfdhphpckfaaJPlainLives09
import Derived.Test.YtbcjfdhphpckfaaJPlainLives01
namespace Go.Proofs.Ytbcjfdhphpckfaa
open Go.RowKit


theorem own_later2 {B : Nat} {e : TypeId} {size n : Nat} {w v : World} {x : Value} {xs : List Value} (h : w.ownsRow B e size x n xs) (hb : Below w.heap.size w v) : v.ownsRow B e size x n xs :=
  own_only h (S := fun _ => False) (.of_below hb) (fun _ _ h => h)
/-- bytes of the call's own -/
def OwnY (B : Nat) (w : World) (v : Value) (l : List Nat) : Prop := w.ownsRow B 5 1 v l.length (bts l)
section
variable {B : Nat} {w w' : World} {v : Value} {l : List Nat}
theorem OwnY.form (h : OwnY B w v l) : ∃ A c, v = .slice A l.length c ∧ l.length ≤ c ∧ c ≤ maxLen := by
  rcases h.2 with ⟨rfl, h0⟩ | ⟨g, cap, cur, rfl, _, _, h1, h2, _⟩
  · exact ⟨none, 0, by rw [h0], by omega, by simp [maxLen]⟩
  · exact ⟨_, cap, rfl, h1, h2⟩
theorem OwnY.src {A : Option Addr} {n c : Nat} (h : OwnY B w (.slice A n c) l) : Src w A (bts l) := by
  obtain ⟨A', c', e, _⟩ := h.form
  injection e with e1 e2 e3
  subst e1 e2 e3
  exact src_own h
theorem OwnY.only {S : Nat → Prop} (h : OwnY B w v l) (ho : Only S w w') (hS : ∀ k, v.ownBlock = some k → ¬ S k) : OwnY B w' v l := own_only h ho hS
theorem OwnY.later (h : OwnY B w v l) (hb : Below w.heap.size w w') : OwnY B w' v l := own_later2 h hb
theorem OwnY.down {B' : Nat} (h : OwnY B w v l) (hb : B' ≤ B) : OwnY B' w v l := own_down h hb
theorem OwnY.conv (h : OwnY B w v l) (hb : ∀ b ∈ l, b < 256) : (convert 34 9 v).run Try.prog w = .ok (.string (strOf l)) w := conv_own h hb
end
theorem own_only_below {B : Nat} {w w' : World} {v : Value} {e n : Nat} {xs : List Value} (h : w.ownsRow B e 1 v n xs) (ho : Only (fun k => v.ownBlock = some k) w w') (hB : B ≤ w.heap.size) : Below B w w' :=
  ho.below hB fun k hk hk' => by have := (h.lt k hk').1; omega

set_option maxRecDepth 100000 in
theorem app_bytes {B : Nat} {W : World} {v : Value} {l y : List Nat} {A : Option Addr} (m c : Nat) (hv : OwnY B W v l) (hB : B ≤ W.heap.size) (hs : Src W A (bts y)) (hm : y.length = m) (hlm : l.length + m ≤ 1000000000) :
    ∃ A' c' W', (Builtin.append_ #[34, 34] 34 #[v, .slice A m c]).run Try.prog W = .ok (.slice A' (l.length + m) c') W' ∧ OwnY B W' (.slice A' (l.length + m) c') (l ++ y) ∧ Below B W W' ∧ Only (fun k => v.ownBlock = some k) W W' ∧ ((Value.slice A' (l.length + m) c').ownBlock = v.ownBlock ∨ (Value.slice A' (l.length + m) c').ownBlock = some W.heap.size) := by
  obtain ⟨i0, hi, hi0, hi1, hi2⟩ := info5_parts
  subst hm
  have key : ∃ v' W', (Builtin.append_ #[34, 34] 34 #[v, .slice A y.length c]).run Try.prog W = .ok v' W' ∧ W'.ownsRow B 5 1 v' (l.length + y.length) (bts l ++ bts y) ∧ W.grownBy W' v.ownBlock ∧ (v'.ownBlock = v.ownBlock ∨ v'.ownBlock = some W.heap.size) := by
    cases A with
    | none =>
      have h0 : y.length = 0 := by
        rcases Nat.eq_zero_or_pos y.length with h0 | h0
        · exact h0
        · obtain ⟨ad, h1, _⟩ := hs (by rw [length_bts]; exact h0)
          cases h1
      have e : y = [] := List.eq_nil_of_length_eq_zero h0
      subst e
      refine ⟨v, W, ?_, (by have h := hv; unfold OwnY at h; simpa [bts] using h), World.grownBy.refl _ _, .inl rfl⟩
      rcases hv.2 with ⟨rfl, h9⟩ | ⟨g, cap, cur, rfl, _, _, hnc, _⟩
      · rw [h9] at *
        simp [Builtin.append_, run_underlying Try.underlying34, sizeOf, typeInfo, hi, Builtin.lenOf, Builtin.firstCells]
      · simp [Builtin.append_, run_underlying Try.underlying34, sizeOf, typeInfo, hi, Builtin.lenOf, Builtin.firstCells, hnc, storeCells]
    | some ad =>
      obtain ⟨v', w', hrun, h2, h3, _, h5⟩ := run_append_own_at (P := Try.prog) W B 34 34 5 i0 _ 1 1 Try.underlying34 hi hi0 hi1 hi2 rfl (by omega) v l.length (bts l) hv ad y.length c (bts y) (by rw [length_bts, Nat.mul_one]) (fun j u hu => by
        have h0 : 0 < (bts y).length := by have := (List.getElem?_eq_some_iff.1 hu).1; omega
        obtain ⟨ad2, h1, h2⟩ := hs h0
        injection h1 with h1
        subst h1
        exact h2 j u hu) (bts_one y) (by unfold maxLen; omega) (by omega) hB
      exact ⟨v', w', hrun, h2, h3, h5⟩
  obtain ⟨v', W', h1, h2, h3, h4⟩ := key
  have hon := (Only.refl (fun k => v.ownBlock = some k) W).grown h3 (fun k hk => .inl hk)
  have ho : OwnY B W' v' (l ++ y) := by unfold OwnY; rw [List.length_append, bts_append]; exact h2
  obtain ⟨A', c', rfl, _⟩ := ho.form
  rw [List.length_append] at *
  exact ⟨A', c', W', h1, ho, own_only_below hv hon hB, hon, h4⟩

set_option maxRecDepth 100000 in
set_option maxHeartbeats 400000 in
theorem behind1_any {B pb : Nat} {v : Value} {l y : List Nat} {A : Option Addr} (k : Int) (m c : Nat) (w : World) (hp : Row w pb 34 #[v]) (hpb : B ≤ pb) (hv : OwnY B w v l) (hB : B ≤ w.heap.size) (hs : Src w A (bts y)) (hm : y.length = m) (hlm : l.length + m ≤ 1000000000) :
    Calls Try.prog 252 #[.int .i64 k, .slice A m c, .pointer (some ⟨pb, 0, none⟩)] w fun e w' => e = .returned (.bool true) ∧ ∃ v', Row w' pb 34 #[v'] ∧ OwnY B w' v' (l ++ y) ∧ Below B w w' := by
  obtain ⟨A', c', W', hrun, hown, hbl, hon, hat⟩ := app_bytes m c hv hB hs hm hlm
  obtain ⟨A0, c0, rfl, _⟩ := hv.form
  have hap := own_apart hv hp (by decide)
  have hcp : w.cell? ⟨pb, 0, none⟩ = some (.slice A0 l.length c0) := hp.read rfl
  have hp2 : Row W' pb 34 #[.slice A0 l.length c0] := hp.only hon hap
  have hcp2 := hp2.free 0
  have hcp3 : W'.cell? ⟨pb, 0, none⟩ = some (.slice A0 l.length c0) := hp2.read rfl
  have hap2 := own_apart hown hp2 (by decide)
  have HE := Lib.hid (show ∃ v', Row (W'.setCell ⟨pb, 0, none⟩ (.slice A' (l.length + m) c')) pb 34 #[v'] ∧ OwnY B (W'.setCell ⟨pb, 0, none⟩ (.slice A' (l.length + m) c')) v' (l ++ y) ∧ Below B w (W'.setCell ⟨pb, 0, none⟩ (.slice A' (l.length + m) c')) from
    ⟨_, hp2.written 0 _, hown.only ((Only.refl (fun k => k = pb) W').set (p := ⟨pb, 0, none⟩) (.inl rfl) _) (fun k hk e => by subst e; exact hap2 hk), hbl.trans ((Below.refl _ _).setCell hpb _)⟩)
  clear hown hbl hon hat hap hp2 hap2 hp hv hs hm
  generalize l.length + m = n2 at *
  generalize l.length = n1 at *
  go_enter Try.func252, Try.ntmps252
  go_wp2_with (at_builtin; refine wpList_run rfl (.tmp 6) (.tmp 7) 34 rfl (.slice A0 n1 c0) (.slice A m c) (by rfl) (by rfl) hrun ?_)
  go_ret
  exact ⟨rfl, HE.out⟩

/-- the first k fields' bytes -/
def flatTo (L : List RowB) (k : Nat) : List Nat := ((texts L).take k).flatten
def flat (L : List RowB) : List Nat := (texts L).flatten
theorem flatTo_zero (L : List RowB) : flatTo L 0 = [] := by simp [flatTo]
theorem flatTo_all {L : List RowB} {n : Nat} (h : L.length = n) : flatTo L n = flat L := by
  unfold flatTo flat
  rw [List.take_of_length_le (by rw [length_texts]; omega)]
theorem flatTo_succ {L : List RowB} {k : Nat} {r : RowB} (h : L[k]? = some r) : flatTo L (k + 1) = flatTo L k ++ r.bs := by
  have h1 := texts_at h
  obtain ⟨hk, h2⟩ := List.getElem?_eq_some_iff.1 h1
  unfold flatTo
  rw [List.take_succ_eq_append_getElem hk, List.flatten_append, h2]
  simp
theorem length_flatTo (L : List RowB) (k : Nat) : (flatTo L k).length = sumTo (lens L) k := by
  induction k with
  | zero => simp [flatTo, sumTo]
  | succ k ih =>
    rcases Nat.lt_or_ge k L.length with h | h
    · have h1 : L[k]? = some L[k] := List.getElem?_eq_getElem h
      rw [flatTo_succ h1, sumTo_succ (lens_at h1), List.length_append, ih]
    · have h2 : flatTo L (k + 1) = flatTo L k := by
        unfold flatTo
        rw [List.take_of_length_le (by rw [length_texts]; omega), List.take_of_length_le (by rw [length_texts]; omega)]
      have h3 : sumTo (lens L) (k + 1) = sumTo (lens L) k := by
        unfold sumTo
        rw [List.take_of_length_le (by rw [length_lens]; omega), List.take_of_length_le (by rw [length_lens]; omega)]
      rw [h2, h3, ih]
theorem length_flat (L : List RowB) : (flat L).length = (lens L).sum := by
  rw [← flatTo_all rfl, length_flatTo, ← length_lens, sumTo_all]

theorem each_behind {B pb n cap : Nat} {v : Value} {l : List Nat} {A : Option Addr} {L : List RowB} (w : World) (hL : L.length = n) (hn : n ≤ 9223372036854775807) (hs : ∀ W, Below B w W → RSrc W A L) (hp : Row w pb 34 #[v]) (hpb : B ≤ pb) (hv : OwnY B w v l) (hB : B ≤ w.heap.size) (hm : l.length + (lens L).sum ≤ 1000000000) :
    Calls Try.prog 214 #[.slice A n cap, .func (.func 252) #[] #[.pointer (some ⟨pb, 0, none⟩)]] w fun e w' => e = .returned (.bool true) ∧ ∃ v', Row w' pb 34 #[v'] ∧ OwnY B w' v' (l ++ flat L) ∧ Below B w w' := by
  refine (each_any (K := 252) (caps := #[.pointer (some ⟨pb, 0, none⟩)]) n cap (fun a W => enters Try.func252 (by kernel_rfl) rfl a W) (fun k W => ∃ v', Row W pb 34 #[v'] ∧ OwnY B W v' (l ++ flatTo L k) ∧ Below B w W) (fun _ => False) w hL hn
    ⟨v, hp, by rw [flatTo_zero, List.append_nil]; exact hv, Below.refl _ _⟩ (fun k W h => by obtain ⟨_, _, _, h⟩ := h; exact hs W h) (fun k W r hr h => ?_)).mono ?_
  · obtain ⟨v1, h1, h2, h3⟩ := h
    have hk : k < n := by rw [← hL]; exact (List.getElem?_eq_some_iff.1 hr).1
    obtain ⟨ad, rfl, hc⟩ := hs W h3 (by omega)
    have hle := sumTo_le (lens L) (k + 1)
    rw [sumTo_succ (lens_at hr)] at hle
    refine (behind1_any (k : Int) r.bs.length r.cap W h1 hpb h2 (Nat.le_trans hB h3.size) (hc k r hr).2.1 rfl (by rw [List.length_append, length_flatTo]; omega)).mono ?_
    rintro e W2 ⟨rfl, v2, g1, g2, g3⟩
    exact .inl ⟨rfl, v2, g1, by rw [flatTo_succ hr, ← List.append_assoc]; exact g2, h3.trans g3⟩
  · rintro e W (⟨rfl, v', h1, h2, h3⟩ | ⟨_, h⟩)
    · rw [flatTo_all hL] at h2
      exact ⟨rfl, v', h1, h2, h3⟩
    · exact h.elim
set_option maxHeartbeats 400000 in
theorem behind_any {B : Nat} {v : Value} {l : List Nat} {A : Option Addr} {L : List RowB} (n cap : Nat) (w : World) (hL : L.length = n) (hn : n ≤ 9223372036854775807) (hs : ∀ W, Below B w W → RSrc W A L) (hv : OwnY B w v l) (hB : B ≤ w.heap.size) (hm : l.length + (lens L).sum ≤ 1000000000) :
    Calls Try.prog 216 #[v, .slice A n cap] w fun e w' => ∃ v', e = .returned v' ∧ OwnY B w' v' (l ++ flat L) ∧ Below B w w' := by
  obtain ⟨A0, c0, rfl, _⟩ := hv.form
  have HE := Lib.hid (fun W (hb : Below w.heap.size w W) (x : Row W w.heap.size 34 #[.slice A0 l.length c0]) => each_behind (B := B) (cap := cap) W hL hn (fun W' hb' => hs W' ((hb.mono hB).trans hb')) x hB (hv.later hb) (Nat.le_trans hB hb.size) hm)
  clear hL hs hv hm
  generalize l.length = n1 at *
  go_enter Try.func216, Try.ntmps216
  go_wp2_with (go_at_call 214; refine (HE.out _ (bl_alloc (Below.refl _ _) _) (Row.made _ _ _)).mono ?_; rintro e w2 ⟨rfl, v', h1, h2, h3⟩; have hc := h1.read (i := 0) rfl; obtain ⟨A2, c2, hv2, _⟩ := h2.form; generalize (l ++ flat L).length = n2 at hv2; subst hv2; (have H2 := Lib.hid h2; have H3 := Lib.hid h3; clear h2 h3))
  go_ret
  exact ⟨_, rfl, H2.out, ((bl_alloc (Below.refl _ _) _).mono hB).trans H3.out⟩

theorem make_cap (n : Nat) (h : n ≤ 1000000) (w : World) :
    (Instr.makeSlice 34 (.int .i64 0) (.int .i64 (n : Int))).run Try.prog w = .ok (.slice (some ⟨w.heap.size, 0, none⟩) 0 n) (w.alloc (.cells (zeros n).toArray 5)) := by
  obtain ⟨i, hi, hz, hs, hb⟩ := info5_parts
  have h := run_make (P := Try.prog) w 34 5 i _ Try.underlying34 hi hz .i64 .i64 0 n (Int.le_refl _) (by omega) (by rw [hb]; omega) (by omega)
  rw [h, hs, Nat.mul_one, Int.toNat_natCast, ← made_zeros]
  rfl
theorem own_cap (n : Nat) (h : n ≤ 1000000) (w : World) (B : Nat) (hB : B ≤ w.heap.size) : OwnY B (w.alloc (.cells (zeros n).toArray 5)) (.slice (some ⟨w.heap.size, 0, none⟩) 0 n) [] :=
  ⟨by simp [bts], .inr ⟨w.heap.size, n, _, rfl, hB, heap_alloc_new _ _, Nat.zero_le _, by unfold maxLen; omega, by simp [zeros], by simp [bts]⟩⟩

set_option maxHeartbeats 400000 in
theorem join1_any {pb : Nat} {s : Int} {A : Option Addr} (k : Int) (m c : Nat) (w : World) (hp : Row w pb 3 #[.int .i64 s]) (h0 : 0 ≤ s) (h1 : s ≤ 1000000) (hm : m ≤ 1000000) :
    Calls Try.prog 215 #[.int .i64 k, .slice A m c, .pointer (some ⟨pb, 0, none⟩)] w fun e w' => e = .returned (.bool true) ∧ Row w' pb 3 #[.int .i64 (s + m)] ∧ Only (fun b => b = pb) w w' := by
  have hc : w.cell? ⟨pb, 0, none⟩ = some (.int .i64 s) := hp.read rfl
  have hf := hp.free 0
  have HROW := Lib.hid (hp.written 0 (.int .i64 (s + m)))
  have HON := Lib.hid ((Only.refl (fun b => b = pb) w).set (p := ⟨pb, 0, none⟩) (.inl rfl) (.int .i64 (s + m)))
  clear hp
  go_enter Try.func215, Try.ntmps215
  go_wp2
  go_ret
  exact ⟨rfl, HROW.out, HON.out⟩
theorem each_join {B pb n cap : Nat} {A : Option Addr} {L : List RowB} (w : World) (hL : L.length = n) (hn : n ≤ 9223372036854775807) (hs : ∀ W, Below B w W → RSrc W A L) (hp : Row w pb 3 #[.int .i64 0]) (hpb : B ≤ pb) (hB : B ≤ w.heap.size) (hm : (lens L).sum ≤ 1000000) :
    Calls Try.prog 214 #[.slice A n cap, .func (.func 215) #[] #[.pointer (some ⟨pb, 0, none⟩)]] w fun e w' => e = .returned (.bool true) ∧ Row w' pb 3 #[.int .i64 (((lens L).sum : Nat) : Int)] ∧ Below B w w' := by
  refine (each_any (K := 215) (caps := #[.pointer (some ⟨pb, 0, none⟩)]) n cap (fun a W => enters Try.func215 (by kernel_rfl) rfl a W) (fun k W => Row W pb 3 #[.int .i64 ((sumTo (lens L) k : Nat) : Int)] ∧ Below B w W) (fun _ => False) w hL hn
    ⟨by rw [sumTo_zero]; exact hp, Below.refl _ _⟩ (fun k W h => hs W h.2) (fun k W r hr h => ?_)).mono ?_
  · obtain ⟨h2, h3⟩ := h
    have hle := sumTo_le (lens L) (k + 1)
    rw [sumTo_succ (lens_at hr)] at hle
    refine (join1_any (k : Int) r.bs.length r.cap W h2 (by omega) (by omega) (by omega)).mono ?_
    rintro e W2 ⟨rfl, g1, g2⟩
    refine .inl ⟨rfl, ?_, h3.trans (only_below g2 hpb (Nat.le_trans hB h3.size))⟩
    rw [sumTo_succ (lens_at hr)]
    have e9 : ((sumTo (lens L) k + r.bs.length : Nat) : Int) = (sumTo (lens L) k : Int) + (r.bs.length : Int) := by omega
    rw [e9]
    exact g1
  · rintro e W (⟨rfl, h2, h3⟩ | ⟨_, h⟩)
    · have e9 : sumTo (lens L) n = (lens L).sum := by rw [← hL, ← length_lens, sumTo_all]
      rw [e9] at h2
      exact ⟨rfl, h2, h3⟩
    · exact h.elim
set_option maxHeartbeats 800000 in
theorem join_any {A : Option Addr} {L : List RowB} (n cap : Nat) (w : World) (hL : L.length = n) (hn : n ≤ 9223372036854775807) (hs : RSrc w A L) (hm : (lens L).sum ≤ 1000000) :
    Calls Try.prog 161 #[.slice A n cap] w fun e w' => ∃ v', e = .returned v' ∧ OwnY w.heap.size w' v' (flat L) ∧ Below w.heap.size w w' := by
  have HE := Lib.hid (fun W (hb : Below w.heap.size w W) x => each_join (pb := w.heap.size) (B := w.heap.size) (cap := cap) W hL hn (fun W' hb' => hs.later (hb.trans hb')) x (Nat.le_refl _) hb.size hm)
  have HM := make_cap (lens L).sum hm
  have HC := Lib.hid (fun W => own_cap (lens L).sum hm W w.heap.size)
  have HBH := Lib.hid (fun W v (hb : Below w.heap.size w W) hv => behind_any (B := w.heap.size) (l := []) n cap (v := v) W hL hn (fun W' hb' => hs.later (hb.trans hb')) hv hb.size (by simpa using (by omega : (lens L).sum ≤ 1000000000)))
  have hs0 : (0 : Int) ≤ (((lens L).sum : Nat) : Int) := by omega
  clear hL hs hm
  generalize (lens L).sum = q at *
  go_enter Try.func161, Try.ntmps161
  go_wp2_with (first
    | (go_at_call 214; refine (HE.out _ (bl_alloc (Below.refl _ _) _) (Row.made _ _ _)).mono ?_; rintro e w2 ⟨rfl, h2, h3⟩; have hc := h2.read (i := 0) rfl; (have H3 := Lib.hid ((bl_alloc (Below.refl _ _) _).trans h3); clear h2 h3))
    | (go_at_call 216; refine (HBH.out _ _ (bl_alloc H3.out _) (HC.out w2 H3.out.size)).mono ?_; rintro e w4 ⟨v', rfl, h4, h5⟩; rw [List.nil_append] at h4; obtain ⟨A2, c2, hv2, _⟩ := h4.form; generalize (flat L).length = n2 at hv2; subst hv2; (have H4 := Lib.hid h4; have H5 := Lib.hid h5; clear h4 h5)))
  go_ret
  exact ⟨_, rfl, H4.out, (bl_alloc H3.out _).trans H5.out⟩
end Go.Proofs.Ytbcjfdhphpckfaa
namespace Go.Proofs.Ytbcjfdhphpckfaa
open Go.RowKit


/-- bytes in a block of the call's own -/
def RowB.mine (B : Nat) (w : World) (r : RowB) : Prop := (∃ g cs, r.A = some ⟨g, 0, none⟩ ∧ B ≤ g ∧ Row w g 5 cs ∧ ∀ (j b : Nat), r.bs[j]? = some b → cs[j]? = some (Value.int .u8 b)) ∧ r.bs.length ≤ r.cap ∧ r.cap ≤ 9223372036854775807 ∧ ∀ b ∈ r.bs, b < 256
theorem RowB.mine.ok {B : Nat} {w : World} {r : RowB} (h : r.mine B w) : r.ok w := by
  obtain ⟨⟨g, cs, h1, h2, h3, h4⟩, h5⟩ := h
  refine ⟨fun _ => ⟨_, h1, fun j u hu => ?_⟩, h5⟩
  rw [add_zero_addr]
  simp only [bts, List.getElem?_map, Option.map_eq_some_iff] at hu
  obtain ⟨b, hb, rfl⟩ := hu
  exact h3.read (h4 j b hb)
theorem RowB.mine.only {B : Nat} {w v : World} {r : RowB} {S : Nat → Prop} (h : r.mine B w) (ho : Only S w v) (hS : ∀ k cs, Row w k 5 cs → B ≤ k → ¬ S k) : r.mine B v := by
  obtain ⟨⟨g, cs, h1, h2, h3, h4⟩, h5⟩ := h
  exact ⟨⟨g, cs, h1, h2, h3.only ho (hS g cs h3 h2), h4⟩, h5⟩
theorem RowB.mine.down {B B' : Nat} {w : World} {r : RowB} (h : r.mine B w) (hb : B' ≤ B) : r.mine B' w := by
  obtain ⟨⟨g, cs, h1, h2, h3, h4⟩, h5⟩ := h
  exact ⟨⟨g, cs, h1, by omega, h3, h4⟩, h5⟩
theorem Try.info34 : (Try.prog.info? 34).map (fun i => (i.zero, i.size, i.bytes)) = some (some (.slice none 0 0), 1, 24) := by kernel_rfl
set_option maxRecDepth 100000 in
/-- one row more -/
theorem app_row {B n : Nat} {w : World} {v : Value} {xs : List Value} (h : w.ownsRow B 34 1 v n xs) (hB : B ≤ w.heap.size) (r : RowB) (hl : n ≤ 1000000) :
    ∃ g c w3, (Builtin.append_ #[29, 29] 29 #[v, .slice (some ⟨w.heap.size, 0, none⟩) 1 1]).run Try.prog (w.alloc (.cells #[.slice r.A r.bs.length r.cap] 34)) = .ok (.slice (some ⟨g, 0, none⟩) (n + 1) c) w3 ∧
      w3.ownsRow B 34 1 (.slice (some ⟨g, 0, none⟩) (n + 1) c) (n + 1) (xs ++ [r.v]) ∧ Only (fun k => v.ownBlock = some k) w w3 := by
  obtain ⟨i0, hi, hi0, hi1, hi2⟩ := info_parts Try.info34
  obtain ⟨g, cap, w3, hr3, h2, h3, _, _⟩ := run_append_lies (P := Try.prog) (w.alloc (.cells #[r.v] 34)) 29 29 B 34 i0 _ 1 24 Try.underlying29 hi hi0 hi1 hi2 rfl (by omega) v n _ (h.alloc _) ⟨w.heap.size, 0, none⟩ 1 1 [r.v] rfl
    (World.news_of_block (cs := #[r.v]) (heap_alloc_new w _)) (by intro u hu; simp at hu; rw [hu]; rfl) (by omega) (by unfold maxLen; omega) (by omega) (by simp; omega) _ rfl
  exact ⟨g, cap, w3, hr3, h2, ((Only.refl (fun k => v.ownBlock = some k) w).alloc (.cells #[r.v] 34)).grown h3 (fun k hk => .inl hk)⟩
/-- a list of rows of the call's own, while it grows -/
structure OwnR (B : Nat) (w : World) (v : Value) (L : List RowB) : Prop where
  own : w.ownsRow B 34 1 v L.length (L.map RowB.v)
  mine : ∀ r ∈ L, r.mine B w
section
variable {B : Nat} {w w' : World} {v : Value} {L : List RowB}
theorem OwnR.only {S : Nat → Prop} (h : OwnR B w v L) (ho : Only S w w') (h1 : ∀ k, v.ownBlock = some k → ¬ S k) (h2 : ∀ k cs, Row w k 5 cs → B ≤ k → ¬ S k) : OwnR B w' v L :=
  ⟨own_only h.own ho h1, fun r hr => (h.mine r hr).only ho h2⟩
theorem OwnR.later (h : OwnR B w v L) (hb : Below w.heap.size w w') : OwnR B w' v L := h.only (S := fun _ => False) (.of_below hb) (fun _ _ h => h) (fun _ _ _ _ h => h)
theorem OwnR.form (h : OwnR B w v L) : ∃ A c, v = .slice A L.length c ∧ L.length ≤ c ∧ c ≤ 9223372036854775807 := by
  rcases h.own.2 with ⟨rfl, h0⟩ | ⟨g, cap, cur, rfl, _, _, h1, h2, _⟩
  · exact ⟨none, 0, by rw [h0], by omega, by omega⟩
  · exact ⟨_, cap, rfl, h1, by unfold maxLen at h2; exact h2⟩
theorem OwnR.src {A : Option Addr} {n c : Nat} (h : OwnR B w (.slice A n c) L) : RSrc w A L := by
  intro h0
  obtain ⟨g, cap, hv, _, _⟩ := h.own.form h0
  injection hv with h1 h2 h3
  subst h1
  refine ⟨_, rfl, fun k r hr => ⟨?_, (h.mine r (List.mem_of_getElem? hr)).ok⟩⟩
  exact h.own.cells (g := g) rfl k _ (by rw [List.getElem?_map, hr]; rfl)
theorem OwnR.next (h : OwnR B w v L) (hB : B ≤ w.heap.size) (r : RowB) (hr : r.mine B w) (hl : L.length ≤ 1000000) :
    ∃ g c w3, (Builtin.append_ #[29, 29] 29 #[v, .slice (some ⟨w.heap.size, 0, none⟩) 1 1]).run Try.prog (w.alloc (.cells #[.slice r.A r.bs.length r.cap] 34)) = .ok (.slice (some ⟨g, 0, none⟩) (L.length + 1) c) w3 ∧
      OwnR B w3 (.slice (some ⟨g, 0, none⟩) (L.length + 1) c) (L ++ [r]) ∧ Below B w w3 := by
  obtain ⟨g, c, w3, h1, h2, h3⟩ := app_row h.own hB r hl
  have hne : ∀ k cs, Row w k 5 cs → B ≤ k → ¬ v.ownBlock = some k := fun k cs hk _ => own_apart h.own hk (by decide)
  refine ⟨g, c, w3, h1, ⟨by rw [List.length_append, List.map_append]; exact h2, fun x hx => ?_⟩, own_only_below h.own h3 hB⟩
  rw [List.mem_append, List.mem_singleton] at hx
  rcases hx with hx | rfl
  · exact (h.mine x hx).only h3 hne
  · exact hr.only h3 hne
end
theorem make_rows (n : Nat) (h : n ≤ 1000) (w : World) :
    (Instr.makeSlice 29 (.int .i64 0) (.int .i64 ((n : Int) + 1))).run Try.prog w = .ok (.slice (some ⟨w.heap.size, 0, none⟩) 0 (n + 1)) (w.alloc (.cells (List.replicate (n + 1) (Value.slice none 0 0)).toArray 34)) := by
  obtain ⟨i, hi, hz, hs, hb⟩ := info_parts Try.info34
  have h := run_make (P := Try.prog) w 29 34 i _ Try.underlying29 hi hz .i64 .i64 0 ((n : Int) + 1) (Int.le_refl _) (by omega) (by rw [hb]; omega) (by omega)
  have e : madeCells #[Value.slice none 0 0] (n + 1) = (List.replicate (n + 1) (Value.slice none 0 0)).toArray := by
    apply Array.toList_inj.1
    rw [toList_madeCells_one]
  rw [h, hs, Nat.mul_one, show ((n : Int) + 1).toNat = n + 1 by omega, ← e]
  rfl
theorem own_rows (n : Nat) (h : n ≤ 1000) (w : World) (B : Nat) (hB : B ≤ w.heap.size) : OwnR B (w.alloc (.cells (List.replicate (n + 1) (Value.slice none 0 0)).toArray 34)) (.slice (some ⟨w.heap.size, 0, none⟩) 0 (n + 1)) [] :=
  ⟨⟨by simp, .inr ⟨w.heap.size, n + 1, _, rfl, hB, heap_alloc_new _ _, Nat.zero_le _, by unfold maxLen; omega, by simp, by simp⟩⟩, fun r hr => by cases hr⟩

set_option maxRecDepth 100000 in
set_option maxHeartbeats 400000 in
theorem copied_f {A : Option Addr} {l : List Nat} (B n c : Nat) (w : World) (hn : l.length = n) (h0 : 0 < n) (hm : n ≤ 1000000) (hs : Src w A (bts l)) (hb : ∀ b ∈ l, b < 256) (hB : B ≤ w.heap.size) :
    Calls Try.prog 218 #[.slice A n c] w fun e w' => ∃ A', e = .returned (.slice A' n n) ∧ RowB.mine B w' ⟨A', n, l⟩ ∧ Below B w w' := by
  obtain ⟨A', c', W', hrun, hown, hbl, _, _⟩ := app_bytes (B := B) (l := []) (v := .slice none 0 0) n c (World.ownsRow_nil _ _ _ _) hB hs hn (by simp; omega)
  simp only [List.length_nil, Nat.zero_add, List.nil_append] at hrun hown
  rcases hown.2 with ⟨h1, h2⟩ | ⟨g, cap, cur, h1, hBg, hh, hnc, hcm, hsz, htk⟩
  · omega
  · injection h1 with e1 e2 e3
    subst e1 e2 e3
    have HM := Lib.hid (show RowB.mine B W' ⟨some ⟨g, 0, none⟩, l.length, l⟩ from ⟨⟨g, cur, rfl, hBg, hh, fun j b hj => by
      have h9 := bts_at hj
      rw [← htk, List.getElem?_take] at h9
      split at h9
      · simpa using h9
      · cases h9⟩, Nat.le_refl _, by show l.length ≤ _; omega, hb⟩)
    have HBL := Lib.hid hbl
    unfold maxLen at hcm
    clear hs hb hown hh htk hsz hbl
    clear hn
    generalize l.length = n at *
    go_enter Try.func218, Try.ntmps218
    go_wp2_with (at_builtin; refine wpList_run rfl (.const (.slice none 0 0)) (.tmp 4) 34 rfl (.slice none 0 0) (.slice A n c) (by rfl) (by rfl) hrun ?_)
    go_ret
    exact ⟨_, rfl, HM.out, HBL.out⟩
end Go.Proofs.Ytbcjfdhphpckfaa
namespace Go.Proofs.Ytbcjfdhphpckfaa
open Go.RowKit

def usF (mode : Int) : Cf := if mode = 0 then ⟨0, 0, 0, 0, 0, 0, 0, 0, 0, 5000⟩ else if mode = 1 then ⟨1, 5, 16, 4, 0, 0, 0, 0, 0, 5000⟩ else if mode = 2 then ⟨2, 10, 512, 4, 8, 3, 4, 500, 4, 5000⟩ else ⟨0, 0, 0, 0, 0, 0, 0, 0, 0, 0⟩
set_option maxRecDepth 100000 in
set_option maxHeartbeats 1600000 in
theorem pusual_any (mode : Int) (w : World) : Calls Try.prog 140 #[.int .i64 mode] w fun e w' => e = .returned (.agg (usF mode).a) ∧ Below w.heap.size w w' := by
  obtain ⟨dd, hdd⟩ := undercf_parts
  by_cases h0 : mode = 0
  · have g0 : (mode == 0) = true := by simpa using h0
    have HU := Lib.hid (show (usF mode).a = #[.int .i64 0, .int .i64 0, .int .i64 0, .int .i64 0, .int .i64 0, .int .i64 0, .int .i64 0, .int .i64 0, .int .i64 0, .int .i64 5000] by unfold usF; rw [if_pos h0]; rfl)
    rw [HU.out]
    clear h0
    go_enter Try.func140, Try.ntmps140
    go_wp2
    refine bodyPost_ret (results_cell_row rfl _ _ w.heap.size 94 #[.int .i64 0, .int .i64 0, .int .i64 0, .int .i64 0, .int .i64 0, .int .i64 0, .int .i64 0, .int .i64 0, .int .i64 0, .int .i64 5000] (0, 0) (.struct dd) rfl (Row.made _ _ _) hdd rfl Try.infocf) rfl ?_
    exact ⟨rfl, bl_alloc (Below.refl _ _) _⟩
  · have g0 : (mode == 0) = false := by simpa using h0
    by_cases h1 : mode = 1
    · have g1 : (mode == 1) = true := by simpa using h1
      have HU := Lib.hid (show (usF mode).a = #[.int .i64 1, .int .i64 5, .int .i64 16, .int .i64 4, .int .i64 0, .int .i64 0, .int .i64 0, .int .i64 0, .int .i64 0, .int .i64 5000] by unfold usF; rw [if_neg h0, if_pos h1]; rfl)
      rw [HU.out]
      clear h0 h1
      go_enter Try.func140, Try.ntmps140
      go_wp2
      refine bodyPost_ret (results_cell_row rfl _ _ w.heap.size 94 #[.int .i64 1, .int .i64 5, .int .i64 16, .int .i64 4, .int .i64 0, .int .i64 0, .int .i64 0, .int .i64 0, .int .i64 0, .int .i64 5000] (0, 0) (.struct dd) rfl (Row.made _ _ _) hdd rfl Try.infocf) rfl ?_
      exact ⟨rfl, bl_alloc (Below.refl _ _) _⟩
    · have g1 : (mode == 1) = false := by simpa using h1
      by_cases h2 : mode = 2
      · have g2 : (mode == 2) = true := by simpa using h2
        have HU := Lib.hid (show (usF mode).a = #[.int .i64 2, .int .i64 10, .int .i64 512, .int .i64 4, .int .i64 8, .int .i64 3, .int .i64 4, .int .i64 500, .int .i64 4, .int .i64 5000] by unfold usF; rw [if_neg h0, if_neg h1, if_pos h2]; rfl)
        rw [HU.out]
        clear h0 h1 h2
        go_enter Try.func140, Try.ntmps140
        go_wp2
        refine bodyPost_ret (results_cell_row rfl _ _ w.heap.size 94 #[.int .i64 2, .int .i64 10, .int .i64 512, .int .i64 4, .int .i64 8, .int .i64 3, .int .i64 4, .int .i64 500, .int .i64 4, .int .i64 5000] (0, 0) (.struct dd) rfl (Row.made _ _ _) hdd rfl Try.infocf) rfl ?_
        exact ⟨rfl, bl_alloc (Below.refl _ _) _⟩
      · have g2 : (mode == 2) = false := by simpa using h2
        have HU := Lib.hid (show (usF mode).a = #[.int .i64 0, .int .i64 0, .int .i64 0, .int .i64 0, .int .i64 0, .int .i64 0, .int .i64 0, .int .i64 0, .int .i64 0, .int .i64 0] by unfold usF; rw [if_neg h0, if_neg h1, if_neg h2]; rfl)
        rw [HU.out]
        clear h0 h1 h2
        go_enter Try.func140, Try.ntmps140
        go_wp2
        refine bodyPost_ret (results_cell_row rfl _ _ w.heap.size 94 #[.int .i64 0, .int .i64 0, .int .i64 0, .int .i64 0, .int .i64 0, .int .i64 0, .int .i64 0, .int .i64 0, .int .i64 0, .int .i64 0] (0, 0) (.struct dd) rfl (Row.made _ _ _) hdd rfl Try.infocf) rfl ?_
        exact ⟨rfl, bl_alloc (Below.refl _ _) _⟩
end Go.Proofs.Ytbcjfdhphpckfaa
namespace Go.Proofs.Ytbcjfdhphpckfaa
open Go.RowKit

set_option maxRecDepth 100000 in
theorem ne_nil (ad : Addr) (n cap : Nat) (w : World) : Sem.run Try.prog (binOp BinOp.eql 34 (Value.slice (some ad) n cap) (Value.slice none 0 0)) w = Result.ok (Value.bool false) w := by
  rfl
theorem clone_e0 {B : Nat} {V : World} {e : Nat} (hB : B ≤ e) (h : Row V e 5 #[]) : OwnY B V (.slice (some ⟨e, 0, none⟩) 0 0) [] :=
  ⟨by simp [bts], .inr ⟨e, 0, #[], rfl, hB, h, Nat.le_refl _, by simp [maxLen], rfl, by simp [bts]⟩⟩
set_option maxRecDepth 100000 in
set_option maxHeartbeats 800000 in
theorem pclone_any {A : Option Addr} {bs : List Nat} (n cap : Nat) (w : World) (hn : bs.length = n) (h0 : 0 < n) (hm : n ≤ 5000) (hs : Src w A (bts bs)) :
    Calls Try.prog 260 #[.slice A n cap] w fun e w' => ∃ g c cs, e = .returned (.slice (some ⟨g, 0, none⟩) n c) ∧ n ≤ c ∧ c ≤ maxLen ∧ Row w' g 5 cs ∧ Pre bs cs ∧ Below w.heap.size w w' := by
  obtain ⟨ad, rfl, _⟩ := hs (by rw [length_bts]; omega)
  have hal := bl_alloc (Below.refl w.heap.size w) (.cells #[] 5)
  obtain ⟨A1, c1, w1, h1, h2, h3, h4, h5⟩ := app_bytes (l := []) (A := some ad) n cap (clone_e0 (Nat.le_refl _) (Row.made w 5 #[])) hal.size (st_src_later hs hal) hn (by simp; omega)
  simp only [List.length_nil, Nat.zero_add, List.nil_append] at h1 h2 h5
  rcases h2.2 with ⟨e1, e2⟩ | ⟨g, cp, cur, e1, hBg, hh, hnc, hcm, hsz, htk⟩
  · omega
  · injection e1 with e1 e2 e3
    subst e1 e3
    have HR := Lib.hid (show Row w1 g 5 cur from hh)
    have HP := Lib.hid (show Pre bs cur from fun j b hj => by
      have h9 := bts_at hj
      rw [← htk, List.getElem?_take] at h9
      split at h9
      · simpa using h9
      · cases h9)
    have HB := Lib.hid (hal.trans h3)
    rw [hn] at hnc
    clear hs h2 hh htk hsz h3 h4 h5 hn hal e2
    go_enter Try.func260, Try.ntmps260
    go_wp2_with (first | (simp only [ne_nil, Result.andThen_ok]) | (at_builtin; refine wpList_run rfl (.tmp 5) (.tmp 6) 34 rfl (.slice (some ⟨w.heap.size, 0, none⟩) 0 0) (.slice (some ad) n cap) (by rfl) (by rfl) h1 ?_))
    go_ret
    exact ⟨g, c1, cur, rfl, hnc, hcm, HR.out, HP.out, HB.out⟩
theorem pclipb (g n c : Nat) (w : World) (h1 : n ≤ c) :
    Calls Try.prog 259 #[.slice (some ⟨g, 0, none⟩) n c] w fun e w' => e = .returned (.slice (some ⟨g, 0, none⟩) n n) ∧ w = w' := by
  go_enter Try.func259, Try.ntmps259
  go_wp2
  go_ret
  exact ⟨rfl, rfl⟩
theorem pcopied_any {A : Option Addr} {bs : List Nat} (n cap : Nat) (w : World) (hn : bs.length = n) (h0 : 0 < n) (hm : n ≤ 5000) (hs : Src w A (bts bs)) :
    Calls Try.prog 228 #[.slice A n cap] w fun e w' => ∃ g cs, e = .returned (.slice (some ⟨g, 0, none⟩) n n) ∧ Row w' g 5 cs ∧ Pre bs cs ∧ Below w.heap.size w w' := by
  have HC := Lib.hid (pclone_any n cap w hn h0 hm hs)
  clear hs hn
  go_enter Try.func228, Try.ntmps228
  go_wp2_with (first
    | (go_at_call 260; (with_reducible refine HC.out.mono ?_); rintro e w1 ⟨g, c, cs, rfl, h1, h2, hr, hp, hb⟩; (have HR := Lib.hid hr; have HP := Lib.hid hp; have HB := Lib.hid hb; clear hr hp hb))
    | (go_at_call 259; (with_reducible refine (pclipb _ _ _ _ h1).mono ?_); rintro e wx ⟨rfl, rfl⟩))
  go_ret
  exact ⟨g, cs, rfl, HR.out, HP.out, HB.out⟩
theorem ptext_ok {A : Option Addr} {bs : List Nat} (n cap : Nat) (w : World) (hn : bs.length = n) (h0 : 0 < n) (hm : n ≤ 1000) (hs : Src w A (bts bs)) :
    Calls Try.prog 190 #[.slice A n cap] w fun e w' => ∃ (g : Nat) (cs : Array Value), e = .returned (.tuple #[.slice (some ⟨g, 0, none⟩) n n, .int .i64 0]) ∧ Row w' g 5 cs ∧ Pre bs cs ∧ Below w.heap.size w w' := by
  have HC := Lib.hid (pcopied_any n cap w hn h0 (by omega) hs)
  have g1 : (n == 0) = false := by simp; omega
  have g2 : decide ((1000 : Int) < n) = false := decide_eq_false (by omega)
  have g2' : decide (1000 < n) = false := decide_eq_false (by omega)
  clear hs hn
  go_enter Try.func190, Try.ntmps190
  go_wp2_with (go_at_call 228; (with_reducible refine HC.out.mono ?_); rintro e w1 ⟨g, cs, rfl, hr, hp, hb⟩)
  go_ret2
  exact ⟨g, cs, rfl, hr, hp, hb⟩
theorem ptext_no {A : Option Addr} (n cap : Nat) (w : World) (hn : n = 0 ∨ 1000 < n) :
    Calls Try.prog 190 #[.slice A n cap] w fun e w' => e = .returned (.tuple #[.slice none 0 0, .int .i64 (if n = 0 then 8 else 2)]) ∧ Below w.heap.size w w' := by
  by_cases h : n = 0
  · subst h
    go_enter Try.func190, Try.ntmps190
    go_wp2
    go_ret2
    exact ⟨rfl, Below.refl _ _⟩
  · have g1 : (n == 0) = false := by simpa using h
    have g2 : decide ((1000 : Int) < n) = true := decide_eq_true (by omega)
    have g2' : decide (1000 < n) = true := decide_eq_true (by omega)
    rw [if_neg h]
    clear hn h
    go_enter Try.func190, Try.ntmps190
    go_wp2
    go_ret2
    exact ⟨rfl, Below.refl _ _⟩
end Go.Proofs.Ytbcjfdhphpckfaa
namespace Go.Proofs.Ytbcjfdhphpckfaa
open Go.RowKit

def ECells (c : Cf) (q : Value) : Array Value := #[.int .i64 c.mode, .int .i64 c.bits, .int .i64 c.win, .int .i64 c.reo, .int .i64 c.prx, .int .i64 c.pro, .int .i64 c.ppd, .int .i64 c.pby, .int .i64 c.mrx, .int .i64 c.qb, q]
theorem equeue_any {x : Nat} {c : Cf} {v : Option Addr} {w : World} (h : Row w x 101 (ECells c (.pointer v))) : Calls Try.prog 138 #[.pointer (some ⟨x, 0, none⟩)] w fun e w' => e = .returned (.pointer v) ∧ w = w' := by
  have c1 := h.read (i := 10) (x := .pointer v) rfl
  clear h
  go_enter Try.func138, Try.ntmps138
  go_wp2
  go_ret
  exact ⟨rfl, rfl⟩
theorem equeue_nil (w : World) : Calls Try.prog 138 #[.pointer none] w fun e w' => e = .returned (.pointer none) ∧ w = w' := by
  go_enter Try.func138, Try.ntmps138
  go_wp2
  go_ret
  exact ⟨rfl, rfl⟩
section
variable {B x q last : Nat} {c : Cf} {room : Int} {ts : List Txt} {w : World}
set_option maxHeartbeats 800000 in
theorem epush_all (A : Option Addr) (l : List Nat) (n k : Nat) (hn : l.length = n) (hE : Row w x 101 (ECells c (.pointer (some ⟨q, 0, none⟩)))) (h : QRep B w q room last ts) (hr : 0 < room) (hr2 : room ≤ 20000) (hb : (bytesF ts : Int) ≤ room) (hts : ts.length ≤ 64) (hll : n ≤ 9223372036854775807) (hlast : last ≤ 1000000000)
    (hsrc : ∀ W, QOnly B w W → Src W A (bts l)) :
    Calls Try.prog 55 #[.pointer (some ⟨x, 0, none⟩), .slice A n k] w (PushAny B q last room ts l w) := by
  have HQ := Lib.hid (equeue_any hE)
  have HP := Lib.hid (push_all A l k h hr hr2 hb hts (by rw [hn]; exact hll) hlast (fun W hW => src_qsrc (hsrc W hW)))
  rw [hn] at HP
  clear hE h hsrc hn
  go_enter Try.func55, Try.ntmps55
  go_wp2_with (first
    | (go_at_call 138; (with_reducible refine HQ.out.mono ?_); rintro e w1 ⟨rfl, rfl⟩)
    | (go_at_call 15; (with_reducible refine HP.out.mono ?_); rintro e w1 ⟨nid, er, rfl, hq, hz9⟩; have H : Hid (PushAny B q last room ts l w (.returned (.tuple #[.int .u64 nid, .int .i64 er])) w1) := Lib.hid ⟨nid, er, rfl, hq, hz9⟩; clear hq hz9))
  go_ret2
  exact H.out
set_option maxHeartbeats 800000 in
theorem edisc_any (nid : Nat) (hE : Row w x 101 (ECells c (.pointer (some ⟨q, 0, none⟩)))) (h : QRep B w q room last ts) (hr : 0 < room) (hn : ts.length ≤ 900) :
    Calls Try.prog 58 #[.pointer (some ⟨x, 0, none⟩), .int .u64 nid] w fun e w' => e = .returned (.int .i64 (discE nid ts)) ∧ QRep B w' q room last (discF nid ts) ∧ QOnly B w w' := by
  have HQ := Lib.hid (equeue_any hE)
  have HP := Lib.hid (discard_any nid h hr hn)
  clear hE h
  go_enter Try.func58, Try.ntmps58
  go_wp2_with (first
    | (go_at_call 138; (with_reducible refine HQ.out.mono ?_); rintro e w1 ⟨rfl, rfl⟩)
    | (go_at_call 19; (with_reducible refine HP.out.mono ?_); rintro e w1 ⟨rfl, hq, ho⟩; (have H1 := Lib.hid hq; have H2 := Lib.hid ho; clear hq ho)))
  go_ret
  exact ⟨rfl, H1.out, H2.out⟩
set_option maxHeartbeats 800000 in
theorem ebytes_any (hE : Row w x 101 (ECells c (.pointer (some ⟨q, 0, none⟩)))) (h : QRep B w q room last ts) (hr : 0 < room) (hb : bytesF ts ≤ 1000000000) :
    Calls Try.prog 59 #[.pointer (some ⟨x, 0, none⟩)] w fun e w' => e = .returned (.int .i64 (bytesF ts : Nat)) ∧ Below w.heap.size w w' := by
  have HQ := Lib.hid (equeue_any hE)
  have HP := Lib.hid (qbytes_any h hr hb)
  clear hE h
  go_enter Try.func59, Try.ntmps59
  go_wp2_with (first
    | (go_at_call 138; (with_reducible refine HQ.out.mono ?_); rintro e w1 ⟨rfl, rfl⟩)
    | (go_at_call 26; (with_reducible refine HP.out.mono ?_); rintro e w1 ⟨rfl, hbl⟩; (have H1 := Lib.hid hbl; clear hbl)))
  go_ret
  exact ⟨rfl, H1.out⟩
set_option maxRecDepth 100000 in
set_option maxHeartbeats 1600000 in
theorem ebuild_none (g : Int) (hE : Row w x 101 (ECells c (.pointer (some ⟨q, 0, none⟩)))) (h : QRep B w q room last []) (hr : 0 < room) (hg0 : 0 ≤ g) (hg1 : g ≤ 4096) :
    Calls Try.prog 56 #[.pointer (some ⟨x, 0, none⟩), .int .i64 g] w fun e w' => e = .returned (.tuple #[.slice none 0 0, .int .u64 0, .int .i64 4]) ∧ w = w' := by
  have HQ := Lib.hid (equeue_any hE)
  have HP := Lib.hid (front_none h hr)
  clear hE h
  go_enter Try.func56, Try.ntmps56
  go_wp2
  refine st_scope_through 0 (fun _ _ => False) (fun _ _ => 0) rfl (fun _ => ?_) (fun _ _ h => h.elim)
  go_wp2_with (first
    | (go_at_call 138; (with_reducible refine HQ.out.mono ?_); rintro e w1 ⟨rfl, rfl⟩)
    | (go_at_call 24; (with_reducible refine HP.out.mono ?_); rintro e w1 ⟨rfl, rfl⟩))
  try simp only [Exit.jump]
  go_ret3
  exact ⟨rfl, rfl⟩
set_option maxRecDepth 100000 in
set_option maxHeartbeats 1600000 in
theorem ebuild_grant {t : Txt} {r : List Txt} (g : Int) (hE : Row w x 101 (ECells c (.pointer (some ⟨q, 0, none⟩)))) (h : QRep B w q room last (t :: r)) (hr : 0 < room) (hg0 : 0 ≤ g) (hg1 : g ≤ 4096) (h0 : 0 < t.bs.length) (hl : t.bs.length ≤ 100000) (hg : g < (t.bs.length : Int)) :
    Calls Try.prog 56 #[.pointer (some ⟨x, 0, none⟩), .int .i64 g] w fun e w' => e = .returned (.tuple #[.slice none 0 0, .int .u64 0, .int .i64 16]) ∧ Below w.heap.size w w' := by
  have HQ := Lib.hid (equeue_any hE)
  have HP := Lib.hid (front_ok h hr h0 hl)
  have hne : ((t.bs.length : Int) == 0) = false := by rw [beq_eq_false_iff_ne]; omega
  clear hE h
  go_enter Try.func56, Try.ntmps56
  go_wp2
  refine st_scope_through 0 (fun _ _ => False) (fun _ _ => 0) rfl (fun _ => ?_) (fun _ _ h => h.elim)
  go_wp2_with (first
    | (go_at_call 138; (with_reducible refine HQ.out.mono ?_); rintro e w1 ⟨rfl, rfl⟩)
    | (go_at_call 24; (with_reducible refine HP.out.mono ?_); rintro e w1 ⟨g1, rfl, hg1, hby, hbl⟩; (have HB := Lib.hid hbl; clear hbl hby hg1)))
  try simp only [Exit.jump]
  go_ret3
  exact ⟨rfl, HB.out⟩
/-- a text is built -/
def EBuilt (B q last : Nat) (room : Int) (t : Txt) (r : List Txt) (w : World) (e : Ending) (w' : World) : Prop :=
  ∃ g, e = .returned (.tuple #[.slice (some ⟨g, 0, none⟩) t.bs.length t.bs.length, .int .u64 t.id, .int .i64 0]) ∧ w.heap.size ≤ g ∧ QBytes w' g t.bs ∧ QOnly B w w' ∧ QRep B w' q room last r
set_option maxRecDepth 100000 in
set_option maxHeartbeats 1600000 in
theorem ebuild_ok {t : Txt} {r : List Txt} (g : Int) (hE : Row w x 101 (ECells c (.pointer (some ⟨q, 0, none⟩)))) (h : QRep B w q room last (t :: r)) (hr : 0 < room) (hg1 : g ≤ 4096) (h0 : 0 < t.bs.length) (hl : t.bs.length ≤ 100000) (hg : (t.bs.length : Int) ≤ g) (hrl : r.length ≤ 900) :
    Calls Try.prog 56 #[.pointer (some ⟨x, 0, none⟩), .int .i64 g] w (EBuilt B q last room t r w) := by
  have HQ := Lib.hid (equeue_any hE)
  have HP := Lib.hid (front_ok h hr h0 hl)
  have HT := Lib.hid (fun W (hb : Below w.heap.size w W) => take_ok t.bs.length (h.later hb) hr (by omega) (Nat.le_refl _) hl hrl)
  have hne : ((t.bs.length : Int) == 0) = false := by rw [beq_eq_false_iff_ne]; omega
  have hg0 : 0 ≤ g := by omega
  have HW : Hid (∀ W (hb : Below w.heap.size w W) (e : Ending) (w' : World), TakeDone B q last room t r t.bs.length W e w' → ∃ g', e = .returned (.tuple #[.slice (some ⟨g', 0, none⟩) t.bs.length t.bs.length, .bool true, .int .i64 0]) ∧ w.heap.size ≤ g' ∧ QBytes w' g' t.bs ∧ QOnly B w w' ∧ QRep B w' q room last r) := Lib.hid (fun W hb e w' hd => by
    obtain ⟨g', rfl, h1, h2, h3, t', _, _, _, h4⟩ := hd
    rw [if_pos rfl] at h4
    rw [List.take_length] at h2
    exact ⟨g', by simp, Nat.le_trans hb.size h1, h2, (QOnly.of_below hb).trans h3, h4⟩)
  clear hE h
  go_enter Try.func56, Try.ntmps56
  go_wp2
  refine st_scope_through 0 (fun a' w' => ∃ g1 : Nat, Fr [none, none, none, none, none, none, none, some (.pointer (some ⟨q, 0, none⟩)), some (.int .u64 t.id), some (.slice (some ⟨g1, 0, none⟩) t.bs.length t.bs.length), none, none, none, none, none, none, none, none, none, none, none, none, none, none, none, none, none, none, none, none, none, none, none, none, none, none, none, none, none, none, none, none, none, none, none, none, none, none, none, none, none, none, none] a' ∧ Below w.heap.size w w') (fun _ _ => 0) rfl (fun _ => ?_) ?_
  · go_wp2_with (first
      | (go_at_call 138; (with_reducible refine HQ.out.mono ?_); rintro e w1 ⟨rfl, rfl⟩)
      | (go_at_call 24; (with_reducible refine HP.out.mono ?_); rintro e w1 ⟨g1, rfl, hg1, hby, hbl⟩; (have HB := Lib.hid hbl; clear hbl hby hg1)))
    go_step3
    refine ⟨rfl, g1, ?_, HB.out⟩
    simp only [Fr, Holes]
    repeat apply Exists.intro
    rfl
  · rintro a' w' ⟨g1, hfr, hbl⟩
    have HB := Lib.hid hbl
    clear hbl
    simp only [Fr, Holes] at hfr
    repeat (obtain ⟨_, hfr⟩ := hfr)
    go_wp2_with (go_at_call 17; (with_reducible refine (HT.out _ HB.out).mono ?_); intro e w2 hd; obtain ⟨g2, rfl, k1, k2, k3, k4⟩ := HW.out _ HB.out e w2 hd; (have K : Hid (EBuilt B q last room t r w (.returned (.tuple #[.slice (some ⟨g2, 0, none⟩) t.bs.length t.bs.length, .int .u64 t.id, .int .i64 0])) w2) := Lib.hid ⟨g2, rfl, k1, k2, k3, k4⟩; clear hd k1 k2 k3 k4))
    try simp only [Exit.jump]
    go_ret3
    exact K.out
end
end Go.Proofs.Ytbcjfdhphpckfaa
namespace Go.Proofs.Ytbcjfdhphpckfaa
open Go.RowKit

/-- what a glue holds, and how many it lost -/
structure GS where
  held : List Nat
  lost : Nat
def GS.lose (s : GS) : GS := if s.held = [] then s else ⟨[], s.lost + 1⟩
def GS.come (s : GS) (f : List Nat) (b e : Bool) : GS :=
  if b then (if f.length ≤ 1000 then ⟨f, s.lose.lost⟩ else ⟨[], s.lose.lost + 1⟩)
  else if s.held = [] then (if e then ⟨[], s.lost + 1⟩ else s)
  else if s.held.length + f.length ≤ 1000 then ⟨s.held ++ f, s.lost⟩ else ⟨[], s.lost + 1⟩
def GS.told (s : GS) (e : Bool) : GS × List (List Nat) := if e then (if s.held = [] then (s, []) else (⟨[], s.lost⟩, [s.held])) else (s, [])
def beg (fi : Nat) (k : Nat) : Bool := decide (0 < k) || (fi / 2 % 2 == 0)
def fin (fi : Nat) (n k : Nat) : Bool := decide (k + 1 < n) || (fi % 2 == 0)
/-- fields come, from field k of n on -/
def goG (fi n : Nat) : Nat → List (List Nat) → GS → GS × List (List Nat)
  | _, [], s => (s, [])
  | k, f :: r, s =>
    let y := (s.come f (beg fi k) (fin fi n k)).told (fin fi n k)
    let z := goG fi n (k + 1) r y.1
    (z.1, y.2 ++ z.2)
def putG (fi : Nat) (fs : List (List Nat)) (gap : Bool) (s : GS) : GS × List (List Nat) := goG fi fs.length 0 fs (if gap then s.lose else s)
theorem GS.come_short (s : GS) (f : List Nat) (b e : Bool) (_h : s.held.length ≤ 1000) : (s.come f b e).held.length ≤ 1000 := by
  unfold GS.come
  repeat' split
  all_goals simp_all
theorem GS.lose_short (s : GS) (_h : s.held.length ≤ 1000) : s.lose.held.length ≤ 1000 := by
  unfold GS.lose
  split <;> simp_all
theorem GS.lose_lost (s : GS) : s.lost ≤ s.lose.lost ∧ s.lose.lost ≤ s.lost + 1 := by
  unfold GS.lose
  split <;> simp
theorem GS.come_lost (s : GS) (f : List Nat) (b e : Bool) : s.lost ≤ (s.come f b e).lost ∧ (s.come f b e).lost ≤ s.lost + 2 := by
  have := s.lose_lost
  unfold GS.come
  repeat' split
  all_goals simp_all
  all_goals omega
end Go.Proofs.Ytbcjfdhphpckfaa
namespace Go.Proofs.Ytbcjfdhphpckfaa
open Go.RowKit

def GS1 (p : Nat) (hv : Value) (k : Nat) : Prop := k = p ∨ hv.ownBlock = some k
def GNext (w : World) (hv hv' : Value) : Prop := ∀ k, hv'.ownBlock = some k → hv.ownBlock = some k ∨ w.heap.size ≤ k
theorem GNext.refl (w : World) (hv : Value) : GNext w hv hv := fun _ h => .inl h
theorem GNext.nil (w : World) (hv : Value) : GNext w hv (.slice none 0 0) := fun _ h => by simp [Value.ownBlock] at h
theorem ownY_nil (B : Nat) (w : World) : OwnY B w (.slice none 0 0) [] := ⟨by simp [bts], .inl ⟨rfl, rfl⟩⟩
theorem set_only {w : World} {p : Nat} (i : Nat) (x : Value) : Only (fun k => k = p) w (w.setCell ⟨p, i, none⟩ x) := (Only.refl (fun k => k = p) w).set (p := ⟨p, i, none⟩) (.inl rfl) x
theorem held_len {s : GS} : s.held = [] ↔ s.held.length = 0 := by simp
end Go.Proofs.Ytbcjfdhphpckfaa
