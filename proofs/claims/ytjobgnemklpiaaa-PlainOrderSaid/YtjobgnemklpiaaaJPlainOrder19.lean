/-
  A packet's bytes. A head of amd is put bit by bit. Bytes cut into fields of a call's own: the loop. The fields behind a head, read.
-/
import Derived.Test.YtjobgnemklpiaaaJPlainOrder18
import Derived.Deep.RegionHeld3
import Derived.Test.YtjobgnemklpiaaaJPlainOrder05
import Derived.Test.YtjobgnemklpiaaaJPlainOrder16
import Derived.Test.YtjobgnemklpiaaaJPlainOrder09
import Derived.DataElems
namespace Go.Proofs.Ytjobgnemklpiaaa
open Go.RowKit


theorem okn_true {b n : Int} (h : okn b n = true) : 0 ≤ n ∧ n < sz b := of_decide_eq_true h
theorem fwrite_at {A A0 : Option Addr} {L : List RowB} {lh : List Nat} (n cap n0 c0 wd : Nat) (wi : Int) (w : World) (e : wi = wd) (h : wd = 11 ∨ wd = 15) (hL : L.length = n) (hcap : n ≤ cap) (hcm : cap ≤ 9223372036854775807) (h1 : 1 ≤ n) (h24 : n ≤ 24) (hok : okTo (lens L) (lens L).length = true) (hs : RSrc w A L) (hh : Src w A0 (bts lh)) (hn0 : lh.length = n0) (hn1 : n0 ≤ 10) :
    Calls Try.prog 174 #[.slice A0 n0 c0, .slice A n cap, .int .i64 wi] w fun e w' => ∃ v', e = .returned v' ∧ OwnY w.heap.size w' v' (lh ++ tailF (lens L) wd ++ flat L) ∧ Below w.heap.size w w' := by
  subst e
  exact fwrite_any n cap n0 c0 wd w h hL hcap hcm h1 h24 hok hs hh hn0 hn1
theorem Row.under {w v : World} {B g : Nat} {t : TypeId} {cs : Array Value} (h : Row w g t cs) (hb : Below B w v) (hg : g < B) : Row v g t cs := (hb.block g hg).trans h
theorem put_step {B p : Nat} {bl : List Bool} {w : World} (v n : Nat) (vi ni : Int) (h : ∃ sv, WRep B w p sv bl) (e1 : vi = v) (e2 : ni = n) (hn : n ≤ 64) (hv : v < 2 ^ n) (hv2 : v < 18446744073709551616) (hl : bl.length + n ≤ 65536) :
    Calls Try.prog 172 #[.pointer (some ⟨p, 0, none⟩), .int .u64 vi, .int .i64 ni] w fun e w' => e = .returned (.int .i64 0) ∧ (∃ sv, WRep B w' p sv (bl ++ unval v n)) ∧ Below B w w' := by
  subst e1 e2
  obtain ⟨sv, h⟩ := h
  refine (put_any v n w h hn hv hl hv2).mono ?_
  rintro e w' ⟨rfl, sv', h1, _, h3⟩
  exact ⟨rfl, ⟨sv', h1⟩, wrote_below h h3⟩
set_option maxHeartbeats 400000 in
theorem ufollows_any (b : Bool) (w : World) : Calls Try.prog 173 #[.bool b] w fun e w' => e = .returned (.int .u64 b.toNat) ∧ w = w' := by
  cases b
  · go_enter Try.func173, Try.ntmps173
    go_wp2
    go_ret
    exact ⟨rfl, rfl⟩
  · go_enter Try.func173, Try.ntmps173
    go_wp2
    go_ret
    exact ⟨rfl, rfl⟩
/-- a head's bits -/
def headB (fi sn : Nat) (more : Bool) (wd : Nat) : List Bool := ((unval 0 (if wd = 10 then 3 else 0) ++ unval fi 2) ++ unval more.toNat 1) ++ unval sn wd
def umdBytes (fi sn : Nat) (L : List RowB) (wd : Nat) : List Nat := pack (headB fi sn (decide (1 < L.length)) wd) ++ tailF (lens L) 11 ++ flat L
theorem length_headB (fi sn : Nat) (more : Bool) (wd : Nat) : (headB fi sn more wd).length = (if wd = 10 then 3 else 0) + 3 + wd := by
  unfold headB
  rw [List.length_append, List.length_append, List.length_append, length_unval, length_unval, length_unval, length_unval]

set_option maxRecDepth 100000 in
set_option maxHeartbeats 800000 in
theorem uwrite_bad {A : Option Addr} {L : List RowB} (fi sn wd : Int) (n cap : Nat) (w : World) (hL : L.length = n) (hn : n ≤ 9223372036854775807) (hs : RSrc w A L) (hm : ∀ m ∈ lens L, m ≤ 9223372036854775807) (h : umdF fi sn (lens L) wd = 0) :
    Calls Try.prog 134 #[.agg #[.int .i64 fi, .int .i64 sn, .slice A n cap], .int .i64 wd] w fun e w' => e = .returned (.tuple #[.slice none 0 0, .int .i64 (if wd = 5 ∨ wd = 10 then 3 else 9)]) ∧ Below w.heap.size w w' := by
  have HSH := Lib.hid (fun W => shape_any wd W)
  have HR := Lib.hid (fun W (hb : Below w.heap.size w W) => (show Calls Try.prog 171 #[.agg #[.int .i64 fi, .int .i64 sn, .slice A n cap], .int .i64 wd] W fun e w' => e = .returned (.bool false) ∧ Below W.heap.size W w' from by
    have h1 := uright_any (A := A) fi sn wd n cap W hL hn (hs.later hb) hm
    rw [h] at h1
    exact h1))
  clear hs hm hL h
  by_cases hw : wd = 5 ∨ wd = 10
  · have hd : 1 ≤ (headN wd).1 := by rcases hw with rfl | rfl <;> decide
    have h0 : ((headN wd).1 == 0) = false := by simp; omega
    generalize (headN wd).1 = hd at *
    generalize (headN wd).2 = nz at *
    rw [if_pos hw]
    clear hw
    go_enter Try.func134, Try.ntmps134
    go_wp2_with (first
      | (go_at_call 140; refine (HSH.out _).mono ?_; rintro e w1 ⟨rfl, rfl⟩)
      | (go_at_call 171; refine (HR.out _ (bl_alloc (Below.refl _ _) _)).mono ?_; rintro e w2 ⟨rfl, hb2⟩))
    go_ret2
    exact ⟨rfl, (bl_alloc (Below.refl w.heap.size w) _).trans (hb2.mono (by simp))⟩
  · have hh : headN wd = (0, 0) := by unfold headN; rw [if_neg (fun h => hw (.inl h)), if_neg (fun h => hw (.inr h))]
    rw [hh] at HSH
    rw [if_neg hw]
    clear hw hh
    go_enter Try.func134, Try.ntmps134
    go_wp2_with (go_at_call 140; refine (HSH.out _).mono ?_; rintro e w1 ⟨rfl, rfl⟩)
    go_ret2
    exact ⟨rfl, bl_alloc (Below.refl w.heap.size w) _⟩

set_option maxRecDepth 100000 in
set_option maxHeartbeats 3200000 in
theorem uwrite_ok {A : Option Addr} {L : List RowB} (fi sn wd n cap : Nat) (w : World) (hL : L.length = n) (hcap : n ≤ cap) (hcm : cap ≤ 9223372036854775807) (hs : RSrc w A L) (hm : ∀ m ∈ lens L, m ≤ 9223372036854775807) (h : umdF fi sn (lens L) wd ≠ 0) :
    Calls Try.prog 134 #[.agg #[.int .i64 fi, .int .i64 sn, .slice A n cap], .int .i64 wd] w fun e w' => ∃ v', e = .returned (.tuple #[v', .int .i64 0]) ∧ OwnY w.heap.size w' v' (umdBytes fi sn L wd) ∧ Below w.heap.size w w' := by
  obtain ⟨hw, _, hfi, hsn, hl1, hl2, hok, _⟩ := umdF_pos h
  rw [length_lens, hL] at hl1 hl2
  have hsz : (sn : Int) < 2 ^ wd := by
    have h1 := (okn_true hsn).2
    unfold sz at h1
    rcases hw with h9 | h9
    · obtain rfl : wd = 5 := by omega
      exact h1
    · obtain rfl : wd = 10 := by omega
      exact h1
  have hsn2 : sn < 2 ^ wd := by
    have e : ((2 ^ wd : Nat) : Int) = (2 : Int) ^ wd := by rw [Int.natCast_pow]; rfl
    omega
  have hwd : wd = 5 ∨ wd = 10 := by omega
  have hsn3 : sn < 1024 := by rcases hwd with rfl | rfl <;> omega
  have HSH := Lib.hid (fun W => shape_any wd W)
  have hnz : (headN wd).2 = ((if wd = 10 then 3 else 0 : Nat) : Int) := by rcases hwd with rfl | rfl <;> rfl
  have hhd : 1 ≤ (headN wd).1 := by rcases hwd with rfl | rfl <;> decide
  have h0 : ((headN wd).1 == 0) = false := by simp; omega
  have HR := Lib.hid (fun W (hb : Below w.heap.size w W) => (show Calls Try.prog 171 #[.agg #[.int .i64 fi, .int .i64 sn, .slice A n cap], .int .i64 wd] W fun e w' => e = .returned (.bool true) ∧ Below W.heap.size W w' from by
    have h1 := uright_any (A := A) fi sn wd n cap W hL (by omega) (hs.later hb) hm
    rw [decide_eq_true (show 0 < umdF fi sn (lens L) wd by have := umdF_nonneg fi sn (lens L) wd; omega)] at h1
    exact h1))
  have HNEW := Lib.hid (fun W (hB : w.heap.size + 1 ≤ W.heap.size) => new_any (w.heap.size + 1) W hB)
  generalize hnzz : (if wd = 10 then 3 else 0 : Nat) = nz at *
  have hnz3 : nz ≤ 3 := by rw [← hnzz]; split <;> omega
  have hlen := length_headB fi sn (decide (1 < L.length)) wd
  rw [hnzz] at hlen
  have hpl : packLen (headB fi sn (decide (1 < L.length)) wd).length ≤ 10 := by rw [hlen]; unfold packLen; omega
  have HHB := Lib.hid (show ((unval 0 nz ++ unval fi 2) ++ unval (decide (1 < L.length)).toNat 1) ++ unval sn wd = headB fi sn (decide (1 < L.length)) wd by unfold headB; rw [hnzz])
  have HFW := Lib.hid (fun W A0 n0 c0 (hb : Below w.heap.size w W) hh hn0 => fwrite_at (A := A) (A0 := A0) (lh := pack (headB fi sn (decide (1 < L.length)) wd)) n cap n0 c0 11 11 W rfl (.inl rfl) hL hcap hcm hl1 hl2 hok (hs.later hb) hh hn0 (by rw [← hn0, length_pack]; exact hpl))
  have HP1 := Lib.hid (fun W p (hr : ∃ sv, WRep (w.heap.size + 1) W p sv []) => put_step (bl := []) 0 nz 0 nz hr rfl rfl (by omega) (Nat.two_pow_pos _) (by omega) (by simp; omega))
  have HP2 := Lib.hid (fun W p (hr : ∃ sv, WRep (w.heap.size + 1) W p sv ([] ++ unval 0 nz)) => put_step (bl := [] ++ unval 0 nz) fi 2 fi 2 hr rfl rfl (by omega) (by omega) (by omega) (by simp [length_unval]; omega))
  have HP3 := Lib.hid (fun W p (hr : ∃ sv, WRep (w.heap.size + 1) W p sv (([] ++ unval 0 nz) ++ unval fi 2)) => put_step (bl := ([] ++ unval 0 nz) ++ unval fi 2) (decide (1 < L.length)).toNat 1 (decide (1 < L.length)).toNat 1 hr rfl rfl (by omega) (by cases decide (1 < L.length) <;> decide) (by cases decide (1 < L.length) <;> decide) (by simp [length_unval]; omega))
  have HP4 := Lib.hid (fun W p (hr : ∃ sv, WRep (w.heap.size + 1) W p sv ((([] ++ unval 0 nz) ++ unval fi 2) ++ unval (decide (1 < L.length)).toNat 1)) => put_step (bl := (([] ++ unval 0 nz) ++ unval fi 2) ++ unval (decide (1 < L.length)).toNat 1) sn wd sn wd hr rfl rfl (by omega) hsn2 (by omega) (by simp [length_unval]; omega))
  have HMORE := Lib.hid (show decide ((1 : Int) < (n : Int)) = decide (1 < L.length) by apply decide_eq_decide.2; omega)
  have HBY := Lib.hid (fun W p (hr : ∃ sv, WRep (w.heap.size + 1) W p sv (headB fi sn (decide (1 < L.length)) wd)) => by
    obtain ⟨sv, hr⟩ := hr
    exact bytes_any hr (by rw [hlen]; omega))
  have hfw : IntKind.u64.wrap (fi : Int) = (fi : Int) := by rw [IntKind.wrap_u64]; omega
  have hsw : IntKind.u64.wrap (sn : Int) = (sn : Int) := by rw [IntKind.wrap_u64]; omega
  have HU := Lib.hid (show umdBytes fi sn L wd = pack (headB fi sn (decide (1 < L.length)) wd) ++ tailF (lens L) 11 ++ flat L from rfl)
  rw [hnz] at HSH
  generalize (headN wd).1 = hd at *
  generalize decide (1 < L.length) = more at *
  generalize hHB : headB fi sn more wd = bits at *
  generalize umdBytes fi sn L wd = out at *
  clear h hw hok hs hm hL hlen hnz hnzz hwd hsn hsz hsn2 hHB
  go_enter Try.func134, Try.ntmps134
  go_wp2_with (first
    | (go_at_call 140; refine (HSH.out _).mono ?_; rintro e w1 ⟨rfl, rfl⟩)
    | (go_at_call 171; refine (HR.out _ (bl_alloc (Below.refl _ _) _)).mono ?_; rintro e w2 ⟨rfl, hb2⟩; (have HROW := Lib.hid ((Row.made w 152 #[.int .i64 fi, .int .i64 sn, .slice A n cap]).later hb2); have HB2 := Lib.hid ((bl_alloc (Below.refl w.heap.size w) _).trans (hb2.mono (by simp))); have HZ2 := Lib.hid (show w.heap.size + 1 ≤ w2.heap.size by have := hb2.size; simp at this; omega); clear hb2))
    | (go_at_call 149; refine (HNEW.out w2 HZ2.out).mono ?_; rintro e w3 ⟨rfl, hr3, hb3⟩; (have HROW3 := Lib.hid (HROW.out.later hb3); have HR3 := Lib.hid (show ∃ sv, WRep (w.heap.size + 1) w3 w2.heap.size sv [] from ⟨_, hr3⟩); have HB3 := Lib.hid (HB2.out.trans (hb3.mono HB2.out.size)); clear hr3 hb3))
    | (go_at_call 172; (with_reducible refine (HP1.out w3 _ HR3.out).mono ?_); rintro e w4 ⟨rfl, hr4, hb4⟩; (have HROW4 := Lib.hid (HROW3.out.under hb4 (by omega)); have c4 := HROW4.out.read (i := 0) rfl; have HR4 := Lib.hid hr4; have HB4 := Lib.hid (HB3.out.trans (hb4.mono (by omega))); clear hr4 hb4))
    | (go_at_call 172; (with_reducible refine (HP2.out w4 _ HR4.out).mono ?_); rintro e w5 ⟨rfl, hr5, hb5⟩; (have HROW5 := Lib.hid (HROW4.out.under hb5 (by omega)); have c5 := HROW5.out.read (i := 2) rfl; have HR5 := Lib.hid hr5; have HB5 := Lib.hid (HB4.out.trans (hb5.mono (by omega))); clear hr5 hb5))
    | (go_at_call 173; (with_reducible refine (ufollows_any _ _).mono ?_); rintro e w6 ⟨rfl, rfl⟩; rw [HMORE.out])
    | (go_at_call 172; (with_reducible refine (HP3.out w5 _ HR5.out).mono ?_); rintro e w7 ⟨rfl, hr7, hb7⟩; (have HROW7 := Lib.hid (HROW5.out.under hb7 (by omega)); have c7 := HROW7.out.read (i := 1) rfl; have HR7 := Lib.hid hr7; have HB7 := Lib.hid (HB5.out.trans (hb7.mono (by omega))); clear hr7 hb7))
    | (go_at_call 172; (with_reducible refine (HP4.out w7 _ HR7.out).mono ?_); rintro e w8 ⟨rfl, hr8, hb8⟩; (have HROW8 := Lib.hid (HROW7.out.under hb8 (by omega)); have c8 := HROW8.out.read (i := 2) rfl; have HR8 := Lib.hid hr8; have HB8 := Lib.hid (HB7.out.trans (hb8.mono (by omega))); clear hr8 hb8)))
  have d8 : w8.drew.cell? ⟨w.heap.size, 2, none⟩ = some (.slice A n cap) := c8
  have HBY8 := Lib.hid (HBY.out w8.drew _ (by rw [← HHB.out]; obtain ⟨sv, h9⟩ := HR8.out; exact ⟨sv, h9.later (bl_drew (Below.refl _ _))⟩))
  have hpk := length_pack bits
  generalize packLen bits.length = k8 at *
  have HPK := Lib.hid hpk
  clear hpk
  go_region_held3 (fun w' => w'.cell? ⟨w.heap.size, 2, none⟩ = some (.slice A n cap)) (first | assumption | go_keep) (first
    | (go_at_call 153; (with_reducible refine HBY8.out.mono ?_); rintro e v1 ⟨g1, rfl, hg1, hr1, hv1⟩; have HW1 := Lib.hid (HB8.out.trans ((bl_step (bl_drew (Below.refl w8.heap.size w8)) hv1).mono HB8.out.size)); have HR1 := Lib.hid hr1; have k1 : v1.cell? ⟨w.heap.size, 2, none⟩ = some (.slice A n cap) := kept_box hv1 d8)
    | (go_at_call 174; (with_reducible refine (HFW.out _ _ _ _ HW1.out (row_src HR1.out) HPK.out).mono ?_); rintro e v2 ⟨x2, rfl, ho2, hv2⟩; obtain ⟨A2, c2, hx2, _⟩ := ho2.form; generalize (pack bits ++ tailF (lens L) 11 ++ flat L).length = n2 at hx2; subst hx2; have k2 : v2.cell? ⟨w.heap.size, 2, none⟩ = some (.slice A n cap) := kept_box hv2 k1; (have HO2 := Lib.hid ho2; have HW2 := Lib.hid (HW1.out.trans (hv2.mono HW1.out.size)))))
  go_wp2
  go_ret2
  exact ⟨_, rfl, by rw [HU.out]; exact HO2.out.down HW1.out.size, HW2.out⟩
end Go.Proofs.Ytjobgnemklpiaaa
namespace Go.Proofs.Ytjobgnemklpiaaa
open Go.RowKit

/-- what is put of a head, one number behind the other -/
def putsA (poll part last : Bool) (fi sn off : Nat) (more : Bool) (wd : Nat) : List (Nat × Nat) :=
  if wd = 10 then (if part then [(1, 1), (1, 1), (poll.toNat, 1), (fi, 2), (more.toNat, 1), (sn, 10), (last.toNat, 1), (off, 15)] else [(1, 1), (0, 1), (poll.toNat, 1), (fi, 2), (more.toNat, 1), (sn, 10)])
  else (if part then [(1, 1), (1, 1), (poll.toNat, 1), (fi, 2), (more.toNat, 1), (last.toNat, 1), (0, 1), (sn, 16), (off, 16)] else [(1, 1), (0, 1), (poll.toNat, 1), (fi, 2), (more.toNat, 1), (last.toNat, 1), (0, 1), (sn, 16)])
def headNA (part : Bool) (wd : Nat) : Nat := if wd = 10 then (if part then 4 else 2) else (if part then 5 else 3)
theorem len_putsA (poll part last : Bool) (fi sn off : Nat) (more : Bool) (wd : Nat) : (bitsP (putsA poll part last fi sn off more wd)).length = 8 * headNA part wd := by
  unfold putsA headNA
  by_cases h : wd = 10
  · rw [if_pos h, if_pos h]
    cases part <;> simp [bitsP, length_unval]
  · rw [if_neg h, if_neg h]
    cases part <;> simp [bitsP, length_unval]
/-- a writer in a cell that a closure holds, while numbers are put -/
structure WrSt (B : Nat) (w0 : World) (pr p : Nat) (kp : List (Nat × Nat)) (t : Nat) (w : World) : Prop where
  rep : ∃ sv, WRep B w p sv (bitsP kp)
  cell : Row w pr 216 #[.pointer (some ⟨p, 0, none⟩)]
  below : Below B w0 w
  size : B ≤ w.heap.size
  len : (bitsP kp).length = t
theorem bitsP_one (kp : List (Nat × Nat)) (v n : Nat) : bitsP (kp ++ [(v, n)]) = bitsP kp ++ unval v n := bitsP_snoc kp v n
theorem cells_und {w w' : World} {B g : Nat} {a b c d e f s : Value} (hr : Row w g 192 #[a, b, c, d, e, f, s]) (hb : Below B w w') (hg : g < B) :
    w'.cell? ⟨g, 0, none⟩ = some a ∧ w'.cell? ⟨g, 1, none⟩ = some b ∧ w'.cell? ⟨g, 2, none⟩ = some c ∧ w'.cell? ⟨g, 3, none⟩ = some d ∧ w'.cell? ⟨g, 4, none⟩ = some e ∧ w'.cell? ⟨g, 5, none⟩ = some f ∧ w'.cell? ⟨g, 6, none⟩ = some s :=
  ⟨(hr.under hb hg).read rfl, (hr.under hb hg).read rfl, (hr.under hb hg).read rfl, (hr.under hb hg).read rfl, (hr.under hb hg).read rfl, (hr.under hb hg).read rfl, (hr.under hb hg).read rfl⟩
theorem bool_lt (b : Bool) : b.toNat < 2 ^ 1 ∧ b.toNat < 9223372036854775808 := by cases b <;> decide
end Go.Proofs.Ytjobgnemklpiaaa
namespace Go.Proofs.Ytjobgnemklpiaaa
open Go.RowKit


/-- like wp_scope_jumps; the first way may go through the label, too -/
theorem wp_scope_through {P : Program} {a : Act} {w : World} {Q : Exit → Act → World → Prop} {c tail : Code} (l : Nat) (J : Act → World → Prop) (μ : Act → World → Nat) (hf : findLabel c l = some (.seq .skip tail))
    (first : (∀ a w, J a w → tail.wp P (Exit.jump l J Q) a w) → c.wp P (Exit.jump l J Q) a w)
    (pass : ∀ a w, J a w → tail.wp P (Exit.jump l (fun a' w' => J a' w' ∧ μ a' w' < μ a w) Q) a w) : (Code.scope c).wp P Q a w := by
  refine wp_scope_jumps l J μ hf (first fun a w h b k cs => ?_) (fun a w h => wp_seq (wp_skip (pass a w h)))
  obtain ⟨e, a', w', hq, harr⟩ := pass a w h b k cs
  refine ⟨e, a', w', ?_, harr⟩
  cases e <;> simp only [Exit.jump] at hq ⊢
  all_goals first | exact hq | exact ⟨hq.1, hq.2.1⟩

theorem bts_take (l : List Nat) (n : Nat) : bts (l.take n) = (bts l).take n := by simp [bts, List.map_take]
theorem src_take {w : World} {A : Option Addr} {l : List Nat} (n : Nat) (h : Src w A (bts l)) : Src w A (bts (l.take n)) := by
  intro h0
  obtain ⟨ad, e, hc⟩ := h (by rw [length_bts] at *; rw [List.length_take] at h0; omega)
  refine ⟨ad, e, fun j u hu => hc j u ?_⟩
  rw [bts_take, List.getElem?_take] at hu
  split at hu
  · exact hu
  · cases hu
theorem src_dropc {w : World} {ad : Addr} {l : List Nat} {c : Nat} (n : Nat) (h : Src w (some ad) (bts (l.drop c))) : Src w (some (ad.add n)) (bts (l.drop (c + n))) := by
  intro h0
  obtain ⟨ad2, e, hc⟩ := h (by rw [length_bts, List.length_drop] at *; omega)
  injection e with e
  subst e
  refine ⟨_, rfl, fun j u hu => ?_⟩
  rw [Addr.add_add]
  refine hc (n + j) u ?_
  unfold bts at hu ⊢
  rw [List.getElem?_map, List.getElem?_drop] at hu ⊢
  rw [show c + (n + j) = c + n + j by omega]
  exact hu
/-- at the jump: the fields so far, and what is left -/
structure CutSt (B : Nat) (w0 : World) (bs ls : List Nat) (c : Nat) (L : List RowB) (v : Value) (Ab : Option Addr) (nb cb : Nat) (w : World) : Prop where
  own : OwnR B w v L
  inv : CInv bs ls (texts L) c
  left : nb = bs.length - c
  room : nb ≤ cb
  small : cb ≤ 9223372036854775807
  src : Src w0 Ab (bts (bs.drop c))
  below : Below B w0 w
/-- what cut answers -/
def CutAns (B : Nat) (w : World) (t : Option (List (List Nat))) (e : Ending) (w' : World) : Prop :=
  ((∃ v L, t = some (texts L) ∧ e = .returned (.tuple #[v, .int .i64 0]) ∧ OwnR B w' v L) ∨ (t = none ∧ e = .returned (.tuple #[.slice none 0 0, .int .i64 8]))) ∧ Below B w w'
section
variable {B : Nat} {w0 w : World} {bs ls : List Nat} {c nb cb : Nat} {L : List RowB} {v : Value} {Ab : Option Addr}
theorem CutSt.len (h : CutSt B w0 bs ls c L v Ab nb cb w) : L.length ≤ ls.length := by
  have := h.inv.1
  rwa [length_texts] at this
end
set_option maxRecDepth 100000 in
set_option maxHeartbeats 6400000 in
theorem cut_any {A Al : Option Addr} {bs ls : List Nat} (n cap m cl : Nat) (w : World) (hn : bs.length = n) (hn8 : n ≤ 1000000) (hcap : n ≤ cap) (hcm : cap ≤ 9223372036854775807) (hs : Src w A (bts bs)) (hb : ∀ b ∈ bs, b < 256)
    (hm : ls.length = m) (hm23 : m ≤ 23) (hsl : Src w Al (insN ls)) (hl1 : ∀ x ∈ ls, 1 ≤ x ∧ x < 65536) :
    Calls Try.prog 185 #[.slice A n cap, .slice Al m cl] w (CutAns w.heap.size w (cutF bs ls)) := by
  have HM := make_rows m (by omega)
  go_enter Try.func185, Try.ntmps185
  go_wp2
  refine wp_scope_through 0 (fun a' w' => ∃ (c : Nat) (L : List RowB) (v : Value) (Ab : Option Addr) (nb cb : Nat), Fr [some (.slice Ab nb cb), some (.slice Al m cl), none, none, some (.slice none 0 0), some (.int .i64 0), some v, none, none, none, none, none, none, none, none, none, none, none, none, none, none, none, none, none, none, none, none, none, none, none, none, none, none, none, none, none, none, none, none, none, none, none, none, none, none, none, none, none] a' ∧ sliceLen v = L.length ∧ Hid (CutSt w.heap.size w bs ls c L v Ab nb cb w')) (fun a' _ => 61 - sliceLen (a'.tmps.getD 6 undef)) rfl ?_ ?_
  · intro hrest
    have HI0 := Lib.hid (show CutSt w.heap.size w bs ls 0 [] (.slice (some ⟨w.heap.size, 0, none⟩) 0 (m + 1)) A n cap (w.alloc (.cells (List.replicate (m + 1) (Value.slice none 0 0)).toArray 61)) from
      ⟨own_rows m (by omega) w _ (Nat.le_refl _), CInv.start bs ls, by omega, hcap, hcm, hs, bl_alloc (Below.refl _ _) _⟩)
    have hrep : (List.replicate (m + 1) (Value.slice none 0 0)).toArray = Array.replicate (m + 1) (Value.slice none 0 0) := by simp
    rw [hrep] at HI0
    clear hrep
    go_wp2
    go_step3
    rename_i Q9 K9 h9
    refine h9 _ _ (hrest _ _ ⟨0, [], _, _, _, _, ?_, ?_, HI0⟩)
    · simp only [Fr, Holes]
      repeat apply Exists.intro
      rfl
    · simp [sliceLen]
  · rintro a' w' ⟨c, L, v, Ab, nb, cb, hfr, hsl2, HI⟩
    simp only [Fr, Holes] at hfr
    repeat (obtain ⟨_, hfr⟩ := hfr)
    obtain ⟨Av, cv, rfl, hv1, hv2⟩ := HI.out.own.form
    clear hsl2 HM
    have hlen := HI.out.len
    rw [hm] at hlen
    have hnb := HI.out.room
    have hnc := HI.out.small
    have hleft := HI.out.left
    have hnb6 : nb ≤ 1000000 := by omega
    have HN := Lib.hid hleft
    have HM := Lib.hid hm
    have HB := Lib.hid hb
    have HL1 := Lib.hid hl1
    have HSL := Lib.hid hsl
    clear hleft hn hm hb hl1 hs hsl
    by_cases hk : L.length < m
    · obtain ⟨mm, hmm⟩ : ∃ mm, ls[L.length]? = some mm := ⟨_, List.getElem?_eq_getElem (by have := HM.out; omega)⟩
      obtain ⟨hm1, hm2⟩ := HL1.out mm (List.mem_of_getElem? hmm)
      obtain ⟨adl, rfl, hcl⟩ := HSL.out (by rw [length_insN, HM.out]; omega)
      have hcell : w'.cell? (adl.add L.length) = some (.int .i64 mm) := cell_below HI.out.below (hcl _ _ (by simp [insN, hmm]))
      have hmm' : (ls[(texts L).length]?) = some mm := by rw [length_texts]; exact hmm
      clear hcl
      rcases Nat.lt_or_ge nb mm with hs1 | hs1
      · have HE := Lib.hid (HI.out.inv.short hmm' (by have := HN.out; omega))
        have hs2 : (nb : Int) < mm := by omega
        clear hmm hmm'
        go_wp2
        simp only [Exit.jump]
        refine bodyPost_ret (v := .tuple #[.slice none 0 0, .int .i64 8]) (by simp [results, Try.results185, go_sem]) rfl ⟨.inr ⟨HE.out, rfl⟩, HI.out.below⟩
      · have hbl := HI.out.below
        obtain ⟨adb, rfl, _⟩ := HI.out.src (by rw [length_bts, List.length_drop]; have := HN.out; omega)
        have hNX := HI.out.inv.next hmm' (by have := HN.out; omega)
        have HSB := Lib.hid (src_later HI.out.src HI.out.below)
        have HC := Lib.hid (copied_f (A := some adb) (l := (bs.drop c).take mm) w'.heap.size mm cb w' (by rw [List.length_take, List.length_drop]; have := HN.out; omega) (by omega) (by omega) (src_take mm HSB.out) (fun b h => HB.out b (List.mem_of_mem_drop (List.mem_of_mem_take h))) (Nat.le_refl _))
        have HST := Lib.hid (fun W1 A1 g3 c3 W3 (hmine : RowB.mine w'.heap.size W1 ⟨A1, mm, (bs.drop c).take mm⟩) (hb1 : Below w'.heap.size w' W1) (h3 : OwnR w.heap.size W3 (.slice (some ⟨g3, 0, none⟩) (L.length + 1) c3) (L ++ [⟨A1, mm, (bs.drop c).take mm⟩])) (hb3 : Below w.heap.size W1 W3) Ab nb2 cb2 (e1 : nb2 = nb - mm) (e2 : cb2 = cb - mm) (hs : Src w Ab (bts (bs.drop (c + mm)))) =>
          show CutSt w.heap.size w bs ls (c + mm) (L ++ [⟨A1, mm, (bs.drop c).take mm⟩]) (.slice (some ⟨g3, 0, none⟩) (L.length + 1) c3) Ab nb2 cb2 W3 from
          ⟨h3, by unfold texts; rw [List.map_append]; exact hNX, by have := HN.out; omega, by omega, by omega, hs, HI.out.below.trans ((hb1.mono HI.out.below.size).trans hb3)⟩)
        have HNXT := Lib.hid (fun W1 A1 (hmine : RowB.mine w'.heap.size W1 ⟨A1, mm, (bs.drop c).take mm⟩) (hb1 : Below w'.heap.size w' W1) => (HI.out.own.later hb1).next (Nat.le_trans HI.out.below.size hb1.size) ⟨A1, mm, (bs.drop c).take mm⟩ (hmine.down HI.out.below.size) (by omega))
        have HTK := Lib.hid (show ((bs.drop c).take mm).length = mm by rw [List.length_take, List.length_drop]; have := HN.out; omega)
        have hs2 : (mm : Int) ≤ nb := by omega
        have HSW := Lib.hid HI.out.src
        clear hmm hmm' hNX
        by_cases hcb : mm = cb
        · subst hcb
          go_wp2_with (first
            | (go_at_call 204; refine HC.out.mono ?_; rintro e w1 ⟨A1, rfl, hmine, hb1⟩; obtain ⟨g3, c3, w3, hr3, ho3, hb3⟩ := HNXT.out w1 A1 hmine hb1; rw [HTK.out] at hr3; (have HST2 := Lib.hid (HST.out w1 A1 g3 c3 w3 hmine hb1 ho3 hb3); clear hmine hb1 ho3 hb3))
            | (at_builtin; refine wpList_run rfl (.tmp 32) (.tmp 37) 57 rfl (.slice Av L.length cv) (.slice (some ⟨w1.heap.size, 0, none⟩) 1 1) (by rfl) (by rfl) hr3 ?_))
          go_step3
          refine ⟨rfl, ⟨c + mm, _, _, _, _, _, ?_, ?_, Lib.hid (HST2.out (some adb) 0 0 (by omega) (by omega) ?_)⟩, ?_⟩
          · simp only [Fr, Holes]
            repeat apply Exists.intro
            rfl
          · simp [sliceLen]
          · intro h0; rw [length_bts, List.length_drop] at h0; have := HN.out; omega
          · show 61 - sliceLen _ < 61 - sliceLen _
            simp [sliceLen]
            omega
        · have hcb2 : mm < cb := by omega
          go_wp2_with (first
            | (go_at_call 204; refine HC.out.mono ?_; rintro e w1 ⟨A1, rfl, hmine, hb1⟩; obtain ⟨g3, c3, w3, hr3, ho3, hb3⟩ := HNXT.out w1 A1 hmine hb1; rw [HTK.out] at hr3; (have HST2 := Lib.hid (HST.out w1 A1 g3 c3 w3 hmine hb1 ho3 hb3); clear hmine hb1 ho3 hb3))
            | (at_builtin; refine wpList_run rfl (.tmp 32) (.tmp 37) 57 rfl (.slice Av L.length cv) (.slice (some ⟨w1.heap.size, 0, none⟩) 1 1) (by rfl) (by rfl) hr3 ?_))
          go_step3
          refine ⟨rfl, ⟨c + mm, _, _, _, _, _, ?_, ?_, Lib.hid (HST2.out (some (adb.add mm)) (nb - mm) (cb - mm) rfl rfl ?_)⟩, ?_⟩
          · simp only [Fr, Holes]
            repeat apply Exists.intro
            rfl
          · simp [sliceLen]
          · exact src_dropc mm HSW.out
          · show 61 - sliceLen _ < 61 - sliceLen _
            simp [sliceLen]
            omega
    · have hkm : L.length = m := by omega
      have hkk : (texts L).length = ls.length := by rw [length_texts, HM.out]; exact hkm
      have hlt1 : ¬ ((L.length : Int) < (m : Int)) := by omega
      have hlt2 : ¬ ((L.length : Int) + 1 ≤ (m : Int)) := by omega
      have hl23 : L.length ≤ 23 := by omega
      clear hkm
      rcases Nat.eq_zero_or_pos nb with h0 | h0
      · have HE := Lib.hid (HI.out.inv.last_short hkk (by have := HN.out; omega))
        subst h0
        clear hkk
        go_wp2
        simp only [Exit.jump]
        refine bodyPost_ret (v := .tuple #[.slice none 0 0, .int .i64 8]) (by simp [results, Try.results185, go_sem]) rfl ⟨.inr ⟨HE.out, rfl⟩, HI.out.below⟩
      · have HE := Lib.hid (HI.out.inv.last hkk (by have := HN.out; omega))
        obtain ⟨adb, rfl, _⟩ := HI.out.src (by rw [length_bts, List.length_drop]; have := HN.out; omega)
        have HC := Lib.hid (copied_f (A := some adb) (l := bs.drop c) w'.heap.size nb cb w' (by rw [List.length_drop]; have := HN.out; omega) (by omega) (by omega) (src_later HI.out.src HI.out.below) (fun b h => HB.out b (List.mem_of_mem_drop h)) (Nat.le_refl _))
        have HNXT := Lib.hid (fun W1 A1 (hmine : RowB.mine w'.heap.size W1 ⟨A1, nb, bs.drop c⟩) (hb1 : Below w'.heap.size w' W1) => (HI.out.own.later hb1).next (Nat.le_trans HI.out.below.size hb1.size) ⟨A1, nb, bs.drop c⟩ (hmine.down HI.out.below.size) (by omega))
        have HTK := Lib.hid (show (bs.drop c).length = nb by rw [List.length_drop]; have := HN.out; omega)
        have HBW := Lib.hid HI.out.below
        have h1 : ¬ (nb : Int) < 1 := by omega
        have HX := Lib.hid (show ∀ A1, texts L ++ [bs.drop c] = texts (L ++ [⟨A1, nb, bs.drop c⟩]) from fun A1 => by unfold texts; rw [List.map_append]; rfl)
        clear hkk
        by_cases hcb : nb = cb
        · subst hcb
          go_wp2_with (first
            | (go_at_call 204; refine HC.out.mono ?_; rintro e w1 ⟨A1, rfl, hmine, hb1⟩; obtain ⟨g3, c3, w3, hr3, ho3, hb3⟩ := HNXT.out w1 A1 hmine hb1; rw [HTK.out] at hr3; (have HO3 := Lib.hid ho3; have HB3 := Lib.hid (HBW.out.trans ((hb1.mono HBW.out.size).trans hb3)); clear hmine hb1 ho3 hb3))
            | (at_builtin; refine wpList_run rfl (.tmp 32) (.tmp 37) 57 rfl (.slice Av L.length cv) (.slice (some ⟨w1.heap.size, 0, none⟩) 1 1) (by rfl) (by rfl) hr3 ?_))
          simp only [Exit.jump]
          refine bodyPost_ret (v := .tuple #[.slice (some ⟨g3, 0, none⟩) (L.length + 1) c3, .int .i64 0]) (by simp [results, Try.results185, go_sem]) rfl ⟨.inl ⟨_, _, ?_, rfl, HO3.out⟩, HB3.out⟩
          rw [HE.out, HX.out A1]
        · have hcb2 : nb < cb := by omega
          go_wp2_with (first
            | (go_at_call 204; refine HC.out.mono ?_; rintro e w1 ⟨A1, rfl, hmine, hb1⟩; obtain ⟨g3, c3, w3, hr3, ho3, hb3⟩ := HNXT.out w1 A1 hmine hb1; rw [HTK.out] at hr3; (have HO3 := Lib.hid ho3; have HB3 := Lib.hid (HBW.out.trans ((hb1.mono HBW.out.size).trans hb3)); clear hmine hb1 ho3 hb3))
            | (at_builtin; refine wpList_run rfl (.tmp 32) (.tmp 37) 57 rfl (.slice Av L.length cv) (.slice (some ⟨w1.heap.size, 0, none⟩) 1 1) (by rfl) (by rfl) hr3 ?_))
          simp only [Exit.jump]
          refine bodyPost_ret (v := .tuple #[.slice (some ⟨g3, 0, none⟩) (L.length + 1) c3, .int .i64 0]) (by simp [results, Try.results185, go_sem]) rfl ⟨.inl ⟨_, _, ?_, rfl, HO3.out⟩, HB3.out⟩
          rw [HE.out, HX.out A1]
end Go.Proofs.Ytjobgnemklpiaaa
namespace Go.Proofs.Ytjobgnemklpiaaa
open Go.RowKit


theorem insN_at {l : List Nat} {k x : Nat} (h : l[k]? = some x) : (insN l)[k]? = some (.int .i64 x) := by simp [insN, h]
set_option maxHeartbeats 800000 in
theorem max_any {A : Option Addr} {l : List Nat} (n c : Nat) (w : World) (hn : l.length = n) (h1 : 1 ≤ n) (h2 : n ≤ 1000) (hs : Src w A (insN l)) :
    Calls Try.prog 187 #[.slice A n c] w fun e w' => (∃ M : Nat, e = .returned (.int .i64 M) ∧ decide ((2047 : Int) < M) = l.any fun x => decide (2047 < x)) ∧ w = w' := by
  obtain ⟨ad, rfl, hc⟩ := hs (by rw [length_insN]; omega)
  obtain ⟨x0, hx0⟩ : ∃ x, l[0]? = some x := ⟨_, List.getElem?_eq_getElem (by omega)⟩
  have hcell0 : w.cell? ad = some (.int .i64 x0) := by have h9 := hc 0 _ (insN_at hx0); rw [addr_zero] at h9; exact h9
  have HX0 := Lib.hid hx0
  have HC := Lib.hid hc
  have HN := Lib.hid hn
  clear hs hc hn hx0
  go_enter Try.func187, Try.ntmps187
  go_wp2
  go_loopw [3, 4] (fun mv i wr => ∃ k M : Nat, 1 ≤ k ∧ k ≤ n ∧ i = .int .i64 k ∧ mv = .int .i64 M ∧ Hid (M ∈ l ∧ ∀ x ∈ l.take k, x ≤ M) ∧ w = wr) (fun _ i _ => n - (intOf i).toNat)
  case atStart => exact ⟨1, x0, by omega, h1, rfl, rfl, Lib.hid ⟨List.mem_of_getElem? HX0.out, fun x hx => by
    have e : l.take 1 = [x0] := by
      have h9 := HX0.out
      cases l with
      | nil => simp at h9
      | cons a r => simp at h9; subst h9; simp
    rw [e] at hx
    simp at hx
    omega⟩, rfl⟩
  case round =>
    obtain ⟨k, M, hk1, hk, rfl, rfl, HK, rfl⟩ := hrel
    by_cases hlt : k < n
    · obtain ⟨x, hx⟩ : ∃ x, l[k]? = some x := ⟨_, List.getElem?_eq_getElem (by have := HN.out; omega)⟩
      have hcell := HC.out k _ (insN_at hx)
      have HX := Lib.hid hx
      clear hx
      have htk : ∀ y, y ∈ l.take (k + 1) ↔ y ∈ l.take k ∨ y = x := fun y => by
        obtain ⟨h8, h9⟩ := List.getElem?_eq_some_iff.1 HX.out
        rw [List.take_succ_eq_append_getElem h8, List.mem_append, List.mem_singleton, h9]
      have HT := Lib.hid htk
      clear htk
      by_cases hgt : M < x
      · have hgt1 : (M : Int) < (x : Int) := by omega
        go_wp2
        go_roundw
        case rel => exact ⟨k + 1, x, by omega, by omega, by go_num, by rw [show max (M : Int) (x : Int) = x by omega], Lib.hid ⟨List.mem_of_getElem? HX.out, fun y hy => by
          rcases (HT.out y).1 hy with h | h
          · have := HK.out.2 y h; omega
          · omega⟩, trivial⟩
        case measure => simp [intOf]; omega
      · have hgt1 : ¬ (M : Int) < (x : Int) := by omega
        go_wp2
        go_roundw
        case rel => exact ⟨k + 1, M, by omega, by omega, by go_num, by rw [show max (M : Int) (x : Int) = M by omega], Lib.hid ⟨HK.out.1, fun y hy => by
          rcases (HT.out y).1 hy with h | h
          · exact HK.out.2 y h
          · omega⟩, trivial⟩
        case measure => simp [intOf]; omega
    · go_wp2
      go_ret
      refine ⟨⟨M, rfl, ?_⟩, rfl⟩
      have h9 := HK.out
      rw [List.take_of_length_le (by have := HN.out; omega)] at h9
      rw [Bool.eq_iff_iff, decide_eq_true_iff, List.any_eq_true]
      constructor
      · intro h
        exact ⟨M, h9.1, by rw [decide_eq_true_iff]; omega⟩
      · rintro ⟨x, hx, h⟩
        rw [decide_eq_true_iff] at h
        have := h9.2 x hx
        omega

/-- what Read of fields answers -/
def FldAns (B : Nat) (w : World) (r : Int × List (List Nat)) (e : Ending) (w' : World) : Prop :=
  ((r.1 = 0 ∧ ∃ v L, r.2 = texts L ∧ e = .returned (.tuple #[v, .int .i64 0]) ∧ OwnR B w' v L) ∨ (r.1 ≠ 0 ∧ e = .returned (.tuple #[.slice none 0 0, .int .i64 r.1]))) ∧ Below B w w'
theorem fld_of_cut {B : Nat} {w w' : World} {e : Ending} {t : Option (List (List Nat))} (h : CutAns B w t e w') : FldAns B w (ansOf t) e w' := by
  obtain ⟨h1 | h1, h2⟩ := h
  · obtain ⟨v, L, rfl, rfl, h4⟩ := h1
    exact ⟨.inl ⟨rfl, v, L, rfl, rfl, h4⟩, h2⟩
  · obtain ⟨rfl, rfl⟩ := h1
    exact ⟨.inr ⟨by decide, rfl⟩, h2⟩
theorem lread_any {A : Option Addr} {bs : List Nat} (wd n cap : Nat) (wi : Int) (w : World) (hw : wd = 11 ∨ wd = 15) (e : wi = wd) (hn : bs.length = n) (hm : n ≤ 8192) (hc : n ≤ cap) (hs : Src w A (bts bs)) (hb : ∀ b ∈ bs, b < 256) :
    Calls Try.prog 186 #[.slice A n cap, .int .i64 wi] w (RdAns w bs wd) := by
  subst e
  rcases hw with rfl | rfl
  · exact read_11 n cap w hn hm hc hs hb
  · exact read_15 n cap w hn hm hc hs hb
set_option maxRecDepth 100000 in
set_option maxHeartbeats 800000 in
theorem fread_no {A : Option Addr} {bs : List Nat} (wd n cap : Nat) (wi : Int) (w : World) (hn : bs.length = n) (hm : n ≤ 8192) (hc : n ≤ cap) (hcm : cap ≤ 9223372036854775807) (hs : Src w A (bts bs)) (hb : ∀ b ∈ bs, b < 256) :
    Calls Try.prog 144 #[.slice A n cap, .bool false, .int .i64 wi] w (FldAns w.heap.size w (fldR bs false wd)) := by
  have HC := Lib.hid (cut_any (Al := none) (ls := []) n cap 0 0 w hn (by omega) hc hcm hs hb rfl (by omega) (fun h => absurd h (by simp [insN])) (fun x hx => by cases hx))
  have HF := Lib.hid (fun e w' (h : CutAns w.heap.size w (cutF bs []) e w') => (show FldAns w.heap.size w (fldR bs false wd) e w' from fld_of_cut h))
  clear hs hb hn
  go_enter Try.func144, Try.ntmps144
  go_wp2_with (go_at_call 185; refine HC.out.mono ?_; rintro e w1 h1; have h2 := HF.out _ _ h1; obtain ⟨h3 | h3, h4⟩ := h1; (obtain ⟨v, L, hv, rfl, ho⟩ := h3; clear ho); rotate_left 1; (obtain ⟨hv, rfl⟩ := h3); rotate_left 1)
  · have HH := Lib.hid h2
    refine bodyPost_ret (v := .tuple #[v, .int .i64 0]) (by simp [results, Try.results144, go_sem]) rfl HH.out
  · have HH := Lib.hid h2
    refine bodyPost_ret (v := .tuple #[.slice none 0 0, .int .i64 8]) (by simp [results, Try.results144, go_sem]) rfl HH.out

theorem ints_src {B : Nat} {w : World} {A : Option Addr} {n c : Nat} {l : List Nat} (h : Ints B w (.slice A n c) (l.map (fun n : Nat => (n : Int)))) : n = l.length ∧ Src w A (insN l) := by
  obtain ⟨A', e, hc⟩ := h.read
  rw [List.length_map] at e
  injection e with e1 e2 e3
  subst e1
  refine ⟨e2, fun h0 => ?_⟩
  rw [length_insN] at h0
  obtain ⟨g, hA, _, _⟩ := hc 0 (l[0] : Nat) (by rw [List.getElem?_map, List.getElem?_eq_getElem h0]; rfl)
  subst hA
  refine ⟨_, rfl, fun j u hu => ?_⟩
  simp only [insN, List.getElem?_map, Option.map_map, Option.map_eq_some_iff] at hu
  obtain ⟨x, hx, rfl⟩ := hu
  obtain ⟨g', e', _, hcell⟩ := hc j (x : Nat) (by rw [List.getElem?_map, hx]; rfl)
  injection e' with e'
  injection e' with e'
  subst e'
  rw [add_zero_addr]
  exact hcell
set_option maxRecDepth 100000 in
set_option maxHeartbeats 1600000 in
theorem fread_yes {A : Option Addr} {bs : List Nat} (wd n cap : Nat) (wi : Int) (w : World) (hw : wd = 11 ∨ wd = 15) (e : wi = wd) (hn : bs.length = n) (hm : n ≤ 8192) (hc : n ≤ cap) (hcm : cap ≤ 9223372036854775807) (hs : Src w A (bts bs)) (hb : ∀ b ∈ bs, b < 256) :
    Calls Try.prog 144 #[.slice A n cap, .bool true, .int .i64 wi] w (FldAns w.heap.size w (fldR bs true wd)) := by
  have HRD := Lib.hid (lread_any wd n cap wi w hw e hn hm hc hs hb)
  by_cases h0 : (readF bs wd).2.2 = 0
  · obtain ⟨ls, k, hrf⟩ : ∃ ls k, readF bs wd = (ls, k, 0) := ⟨(readF bs wd).1, (readF bs wd).2.1, by rw [← h0]⟩
    have hwr := read_write hb hrf
    obtain ⟨q1, q2, q3, q4, q5, q6⟩ := hwr
    have q7 : 1 ≤ ls.length := by
      cases ls with
      | nil => exact absurd rfl q1
      | cons => simp
    have hF : fldR bs true wd = if ls.any (fun x => decide (2047 < x)) then (3, []) else ansOf (cutF (bs.drop k) ls) := by
      unfold fldR
      rw [hrf]
      simp
    have HRD2 := Lib.hid (show Calls Try.prog 186 #[.slice A n cap, .int .i64 wi] w fun e w' => ∃ Al, e = .returned (.tuple #[.slice Al ls.length ls.length, .int .i64 (k : Nat), .int .i64 0]) ∧ Src w' Al (insN ls) ∧ Below w.heap.size w w' from HRD.out.mono fun e w' h => by
      unfold RdAns at h
      rw [hrf] at h
      obtain ⟨h | h, hbl⟩ := h
      · obtain ⟨_, u, rfl, hu⟩ := h
        obtain ⟨Al, rfl, _⟩ := hu.read
        rw [List.length_map] at hu ⊢
        exact ⟨Al, rfl, (ints_src hu).2, hbl⟩
      · exact absurd rfl h.1)
    have hls : ∀ x ∈ ls, 1 ≤ x ∧ x < 65536 := fun x hx => ⟨(q3 x hx).1, Nat.lt_of_lt_of_le (q3 x hx).2 (by rcases hw with rfl | rfl <;> decide)⟩
    have hkn : k ≤ n := by omega
    have HMX := Lib.hid (fun W Al c (hsl : Src W Al (insN ls)) => max_any (l := ls) ls.length c W rfl q7 (by omega) hsl)
    have hdl : (bs.drop k).length = n - k := by rw [List.length_drop, hn]
    have HCT := Lib.hid (fun W Al Ab cb (hb1 : Below w.heap.size w W) (hsl : Src W Al (insN ls)) (hsb : Src w Ab (bts (bs.drop k))) (hcb : n - k ≤ cb) (hcm2 : cb ≤ 9223372036854775807) => cut_any (A := Ab) (Al := Al) (n - k) cb ls.length ls.length W hdl (by omega) hcb hcm2 (src_later hsb hb1) (fun b h => hb b (List.mem_of_mem_drop h)) rfl (by omega) hsl hls)
    have HS := Lib.hid hs
    have HF := Lib.hid hF
    have HDL := Lib.hid hdl
    have HFC := Lib.hid (fun (W : World) e w' (hw1 : Below w.heap.size w W) (h : CutAns W.heap.size W (cutF (bs.drop k) ls) e w') => (show FldAns w.heap.size w (ansOf (cutF (bs.drop k) ls)) e w' from by
      have h8 := fld_of_cut h
      obtain ⟨h9, h10⟩ := h8
      refine ⟨h9.imp (fun h => ?_) id, hw1.trans (h10.mono hw1.size)⟩
      obtain ⟨g1, v, L, g2, g3, g4⟩ := h
      exact ⟨g1, v, L, g2, g3, g4.own |> fun x => ⟨own_down x hw1.size, fun r hr => (g4.mine r hr).down hw1.size⟩⟩))
    have hn1 : 1 ≤ n := by
      have : 1 ≤ packLen (ls.length * (wd + 1)) := by
        have h9 : 1 * 1 ≤ ls.length * (wd + 1) := Nat.mul_le_mul q7 (by omega)
        unfold packLen
        omega
      omega
    have hbl : bs.length = n := hn
    have hlen : 1 ≤ ls.length ∧ ls.length ≤ 23 := ⟨q7, q2⟩
    clear hF hrf q1 q2 q3 q4 q5 q6 q7 hs hb hn hdl hls HRD h0 hw e
    obtain ⟨hlen1, hlen2⟩ := hlen
    have hk8 : k ≤ 8192 := by omega
    cases hany : ls.any fun x => decide (2047 < x)
    · rw [hany] at HMX HF
      clear hany
      have HFF := Lib.hid (show fldR bs true wd = ansOf (cutF (bs.drop k) ls) by rw [HF.out]; rfl)
      have HBL := Lib.hid hbl
      clear hbl
      obtain ⟨ad, rfl, _⟩ := HS.out (by rw [length_bts, HBL.out]; omega)
      by_cases hkc : k = cap
      · have hnk : n - k = 0 := by omega
        obtain rfl : n = k := by omega
        subst hkc
        have HS0 := Lib.hid (show Src w (some ad) (bts (bs.drop n)) from fun h0 => absurd h0 (by rw [length_bts, HDL.out]; omega))
        rw [hnk] at HCT
        clear hnk
        go_enter Try.func144, Try.ntmps144
        go_wp2_with (first
          | (go_at_call 186; refine HRD2.out.mono ?_; rintro e w1 ⟨Al, rfl, hsl, hb1⟩; (have HSL := Lib.hid hsl; have HB1 := Lib.hid hb1; clear hsl hb1))
          | (go_at_call 187; refine (HMX.out _ _ _ HSL.out).mono ?_; rintro e w2 ⟨⟨M, rfl, hM⟩, rfl⟩)
          | (go_at_call 185; refine (HCT.out w1 Al (some ad) 0 HB1.out HSL.out HS0.out (by omega) (by omega)).mono ?_; rintro e w3 h1; have h2 := HFC.out w1 _ _ HB1.out h1; obtain ⟨h3 | h3, h4⟩ := h1; (obtain ⟨v, L, hv, rfl, ho⟩ := h3; clear ho hv); rotate_left 1; (obtain ⟨hv, rfl⟩ := h3; clear hv); rotate_left 1))
        · have HH := Lib.hid h2
          refine bodyPost_ret (v := .tuple #[v, .int .i64 0]) (by simp [results, Try.results144, go_sem]) rfl ?_
          rw [HFF.out]
          exact HH.out
        · have HH := Lib.hid h2
          refine bodyPost_ret (v := .tuple #[.slice none 0 0, .int .i64 8]) (by simp [results, Try.results144, go_sem]) rfl ?_
          rw [HFF.out]
          exact HH.out
      · have hkc2 : k < cap := by omega
        have HS0 := Lib.hid (show Src w (some (ad.add k)) (bts (bs.drop k)) from by
          have h9 := src_dropc (c := 0) k (show Src w (some ad) (bts (bs.drop 0)) from HS.out)
          rw [Nat.zero_add] at h9
          exact h9)
        go_enter Try.func144, Try.ntmps144
        go_wp2_with (first
          | (go_at_call 186; refine HRD2.out.mono ?_; rintro e w1 ⟨Al, rfl, hsl, hb1⟩; (have HSL := Lib.hid hsl; have HB1 := Lib.hid hb1; clear hsl hb1))
          | (go_at_call 187; refine (HMX.out _ _ _ HSL.out).mono ?_; rintro e w2 ⟨⟨M, rfl, hM⟩, rfl⟩)
          | (go_at_call 185; refine (HCT.out w1 Al (some (ad.add k)) (cap - k) HB1.out HSL.out HS0.out (by omega) (by omega)).mono ?_; rintro e w3 h1; have h2 := HFC.out w1 _ _ HB1.out h1; obtain ⟨h3 | h3, h4⟩ := h1; (obtain ⟨v, L, hv, rfl, ho⟩ := h3; clear ho hv); rotate_left 1; (obtain ⟨hv, rfl⟩ := h3; clear hv); rotate_left 1))
        · have HH := Lib.hid h2
          refine bodyPost_ret (v := .tuple #[v, .int .i64 0]) (by simp [results, Try.results144, go_sem]) rfl ?_
          rw [HFF.out]
          exact HH.out
        · have HH := Lib.hid h2
          refine bodyPost_ret (v := .tuple #[.slice none 0 0, .int .i64 8]) (by simp [results, Try.results144, go_sem]) rfl ?_
          rw [HFF.out]
          exact HH.out
    · rw [hany] at HMX HF
      clear hany
      have HFF := Lib.hid (show fldR bs true wd = (3, []) by rw [HF.out]; rfl)
      go_enter Try.func144, Try.ntmps144
      go_wp2_with (first
        | (go_at_call 186; refine HRD2.out.mono ?_; rintro e w1 ⟨Al, rfl, hsl, hb1⟩; (have HSL := Lib.hid hsl; have HB1 := Lib.hid hb1; clear hsl hb1))
        | (go_at_call 187; refine (HMX.out _ _ _ HSL.out).mono ?_; rintro e w2 ⟨⟨M, rfl, hM⟩, rfl⟩))
      refine bodyPost_ret (v := .tuple #[.slice none 0 0, .int .i64 3]) (by simp [results, Try.results144, go_sem]) rfl ?_
      rw [HFF.out]
      exact ⟨.inr ⟨by decide, rfl⟩, HB1.out⟩
  · have HF := Lib.hid (show fldR bs true wd = ((readF bs wd).2.2, []) by unfold fldR; rw [if_pos rfl, if_neg h0])
    have HRD2 := Lib.hid (show Calls Try.prog 186 #[.slice A n cap, .int .i64 wi] w fun e w' => e = .returned (.tuple #[.slice none 0 0, .int .i64 0, .int .i64 (readF bs wd).2.2]) ∧ Below w.heap.size w w' from HRD.out.mono fun e w' h => by
      obtain ⟨h | h, hbl⟩ := h
      · exact absurd h.1 h0
      · exact ⟨h.2, hbl⟩)
    generalize (readF bs wd).2.2 = er at *
    have h1 : (er != 0) = true := by simpa using h0
    have H0 := Lib.hid h0
    clear hs hb hn HRD h0 hw e
    go_enter Try.func144, Try.ntmps144
    go_wp2_with (go_at_call 186; refine HRD2.out.mono ?_; rintro e w1 ⟨rfl, hb1⟩)
    refine bodyPost_ret (v := .tuple #[.slice none 0 0, .int .i64 er]) (by simp [results, Try.results144, go_sem]) rfl ?_
    rw [HF.out]
    exact ⟨.inr ⟨H0.out, rfl⟩, hb1⟩
end Go.Proofs.Ytjobgnemklpiaaa
