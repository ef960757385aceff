/-
  BitsParts: a number put in two parts has the bits that it has at once; got in two parts it is the one got at once.
-/
import Derived.Test.YtjilmgbjbkidnaaBitsAlive
import Derived.Deep.DrawnRows
import Derived.Deep.RegionHeld3
namespace Go.Proofs.Ytjilmgbjbkidnaa
open Go.RowKit
attribute [local go_sem ↓] Go.wp_at_zero Go.wp_at_succ

set_option maxRecDepth 100000 in
set_option maxHeartbeats 800000 in
theorem parts_guard (v n m : Int) (A : Option Addr) (N cap : Nat) (w : World) (h : n < 0 ∨ m < 0 ∨ 32 < n ∨ 32 < m ∨ 2000 < N) (hN : N ≤ 9223372036854775807) :
    Calls Try.prog 6 #[.int .u64 v, .int .i64 n, .int .i64 m, .slice A N cap] w fun e w' => e = .returned (.bool true) ∧ Below w.heap.size w w' := by
  by_cases h1 : n < 0
  · clear h
    go_enter Try.func6, Try.ntmps6
    go_wp2_with (go_at_call 17; refine (alive1_any _).mono ?_; rintro e w1 ⟨rfl, hb⟩)
    go_ret
    exact ⟨rfl, hb⟩
  by_cases h2 : m < 0
  · clear h
    go_enter Try.func6, Try.ntmps6
    go_wp2_with (go_at_call 17; refine (alive1_any _).mono ?_; rintro e w1 ⟨rfl, hb⟩)
    go_ret
    exact ⟨rfl, hb⟩
  by_cases h3 : 32 < n
  · clear h
    go_enter Try.func6, Try.ntmps6
    go_wp2_with (go_at_call 17; refine (alive1_any _).mono ?_; rintro e w1 ⟨rfl, hb⟩)
    go_ret
    exact ⟨rfl, hb⟩
  by_cases h4 : 32 < m
  · clear h
    go_enter Try.func6, Try.ntmps6
    go_wp2_with (go_at_call 17; refine (alive1_any _).mono ?_; rintro e w1 ⟨rfl, hb⟩)
    go_ret
    exact ⟨rfl, hb⟩
  have h5 : 2000 < N := by omega
  clear h
  go_enter Try.func6, Try.ntmps6
  go_wp2_with (go_at_call 17; refine (alive1_any _).mono ?_; rintro e w1 ⟨rfl, hb⟩)
  go_ret
  exact ⟨rfl, hb⟩

theorem wrap_pow {m : Nat} (h : m ≤ 32) : IntKind.u64.wrap (2 ^ m) = ((2 ^ m : Nat) : Int) := by
  have h1 : 2 ^ m ≤ 2 ^ 32 := Nat.pow_le_pow_right (by omega) h
  have h2 : ((2 : Int) ^ m) = ((2 ^ m : Nat) : Int) := by simp
  rw [h2, IntKind.wrap_u64]
  generalize 2 ^ m = M at *
  omega

/-- both writers are made -/
theorem two_new (w : World) (W : World) (h : Below w.heap.size w W) :
    Calls Try.prog 13 #[] W fun e w' => e = .returned (.pointer (some ⟨W.heap.size, 0, none⟩)) ∧ WRep w.heap.size w' W.heap.size (.slice none 0 0) [] ∧ Below W.heap.size W w' :=
  new_any w.heap.size W h.size

set_option maxRecDepth 100000 in
set_option maxHeartbeats 1600000 in
theorem parts_big (v n m : Nat) (A : Option Addr) (N cap : Nat) (w : World) (hn : n ≤ 32) (hm : m ≤ 32) (hN : N ≤ 2000) (hv : 2 ^ (n + m) ≤ v) :
    Calls Try.prog 6 #[.int .u64 v, .int .i64 n, .int .i64 m, .slice A N cap] w fun e w' => e = .returned (.bool true) ∧ Below w.heap.size w w' := by
  have hp := fun p (W : World) => put_arg2 p v (n + m) W (by omega) hv
  rw [Int.natCast_add] at hp
  have HP := Lib.hid hp
  have hw := wrap_pow hm
  have hM : 1 ≤ 2 ^ m := Nat.one_le_two_pow
  generalize 2 ^ m = M at *
  clear hv hp
  go_enter Try.func6, Try.ntmps6
  go_wp2_with fail
  refine (two_new w _ (Below.refl _ _)).mono ?_
  rintro e w1 ⟨rfl, hr1, hb1⟩
  have HR1 := Lib.hid hr1
  have HB1 := Lib.hid hb1
  clear hr1 hb1
  go_wp2_with fail
  refine (two_new w _ HB1.out).mono ?_
  rintro e w2 ⟨rfl, hr2, hb2⟩
  have HR2 := Lib.hid (HR1.out.later hb2)
  have HB2 := Lib.hid (bl_step HB1.out hb2)
  clear hr2 hb2
  go_wp2_with (go_at_call 14; refine (HP.out _ _).mono ?_; rintro e _ ⟨rfl, rfl⟩)
  refine (alive1_any _).mono ?_
  rintro e w3 ⟨rfl, hb3⟩
  have HR3 := Lib.hid (HR2.out.later hb3)
  have HB3 := Lib.hid (bl_step HB2.out hb3)
  clear hb3
  go_wp2_with (go_at_call 16; refine (len_any HR3.out).mono ?_; rintro e _ ⟨rfl, rfl⟩)
  go_ret
  exact ⟨rfl, HB3.out⟩

theorem Src.later {w v : World} {A : Option Addr} {xs : List Value} (h : Src w A xs) (hb : Below w.heap.size w v) : Src v A xs := by
  intro h0
  obtain ⟨ad, hA, hc⟩ := h h0
  refine ⟨ad, hA, fun j u hu => ?_⟩
  have h1 := hc j u hu
  rw [← h1]
  refine hb.cell ?_
  rcases Nat.lt_or_ge (ad.add j).block w.heap.size with h2 | h2
  · exact h2
  · exfalso
    simp [World.cell?, Array.getElem?_eq_none h2] at h1

/-- a number's bits, put at once and in two parts -/
theorem parts_bits (v n m : Nat) : unval v (n + m) = ([] ++ unval (v / 2 ^ m) n) ++ unval (v % 2 ^ m) m := by
  rw [unval_split, unval_mod, List.nil_append]
theorem seg_split {bs : List Nat} {i n m : Nat} : seg bs i (n + m) = seg bs i n ++ seg bs (i + n) m := by
  unfold seg
  rw [List.take_add, List.drop_drop]
theorem parts_val {bs : List Nat} {i n m : Nat} (h : i + n + m ≤ 8 * bs.length) : val (seg bs i (n + m)) = val (seg bs i n) * 2 ^ m + val (seg bs (i + n) m) := by
  rw [seg_split, val_append, length_seg h]

/-- a stronger condition may be held from here on -/
theorem wpAnyH_more {P : Program} {md : Region.Mode} {ops : Array Oper} {Q : Exit → Act → World → Prop} {S S' : World → Prop} : ∀ {fuel : Nat} {listed : Array Bool} {a : Act} {w : World}, wpAnyH P md ops Q S' fuel listed a w → (∀ w, S' w → S w) → wpAnyH P md ops Q S fuel listed a w
  | 0, _, _, _, h, _ => h
  | _ + 1, _, _, _, h, hs => ⟨h.1, fun i hi => wpOp_mono (fun _ _ h' => ⟨hs _ h'.1, wpAnyH_more h'.2 hs⟩) (h.2 i hi)⟩

theorem take_at {P : Program} {md : Region.Mode} {ops : Array Oper} {Q : Exit → Act → World → Prop} {S : World → Prop} (i t : Nat) {oi : Oper} {v : Value} {fuel : Nat} {listed : Array Bool} {a : Act} {w : World} (hi : ops[i]? = some oi) (hd : oi.dst = some t)
    (hs : Region.noSelect ops = true) (hf : Region.free md ops listed i = true) (hr : (Region.ready md ops listed).contains i = true)
    (hQ : ∀ c a w, Q (.panic c) (a.put oi.dst v) w → Q (.panic c) a w) (hy : YieldsIf P ops S oi v a) (hS : S w)
    (h : wpAnyH P md ops Q S fuel (listed.setIfInBounds i true) (a.put (some t) v) w) : wpAnyH P md ops Q S (fuel + 1) listed a w :=
  wpAnyH_take hi hs hf hr hQ hy hS (by rw [hd]; exact h)

/-- what of a frame is forgotten -/
theorem wp_of_frame {P : Program} {c : Code} {Q : Exit → Act → World → Prop} {a : Act} {w : World} (xs : List (Option Value)) (h : Fr xs a) (k : ∀ a', Fr xs a' → c.wp P Q a' w) : c.wp P Q a w := k a h

/-- two writers with the same bits -/
structure Two (B : Nat) (w : World) (p q : Nat) (x y : Value) (bl : List Bool) : Prop where
  left : WRep B w p x bl
  right : WRep B w q y bl
theorem Two.later {B : Nat} {w v : World} {p q : Nat} {x y : Value} {bl : List Bool} (h : Two B w p q x y bl) (hb : Below w.heap.size w v) : Two B v p q x y bl := ⟨h.left.later hb, h.right.later hb⟩

/-- a writer's bytes, and the text that they are -/
theorem bytes_text {B : Nat} (bl : List Bool) (hn : bl.length ≤ 65536) : ∃ (k : Nat) (pk : List Nat) (S : ByteArray),
    (∀ (W : World) (p : Nat) (sv : Value), WRep B W p sv bl → Calls Try.prog 18 #[.pointer (some ⟨p, 0, none⟩)] W fun e w' => ∃ g, e = .returned (.slice (some ⟨g, 0, none⟩) k k) ∧ Row w' g 5 (bts pk).toArray ∧ Below W.heap.size W w') ∧
    (∀ (W : World) (g : Nat), Row W g 5 (bts pk).toArray → (convert 35 9 (.slice (some ⟨g, 0, none⟩) k k)).run Try.prog W = .ok (.string S) W) := by
  refine ⟨packLen bl.length, pack bl, strOf (pack bl), fun W p sv h => ?_, fun W g h => ?_⟩
  · refine (bytes_any h hn).mono ?_
    rintro e w' ⟨g, rfl, _, h1, h2⟩
    exact ⟨g, rfl, h1, h2⟩
  · have h1 := conv_str (c := packLen bl.length) h (fun b hb => by
      unfold pack at hb
      simp only [List.mem_map] at hb
      obtain ⟨i, _, rfl⟩ := hb
      exact byteAt_lt _ _)
    rw [length_pack] at h1
    exact h1
theorem row_drew (W : World) (g : Nat) (t : TypeId) (cs : Array Value) : Row W.drew g t cs = Row W g t cs := rfl

theorem parts_or {bs : List Nat} {n m : Nat} (hn : n ≤ 32) (hm : m ≤ 32) (h : n + m ≤ 8 * bs.length) : bits .or .u64 (IntKind.u64.wrap ((val (seg bs 0 n) : Int) * 2 ^ m)) (val (seg bs n m) : Int) = (val (seg bs 0 (n + m)) : Int) := by
  have h1 := val_lt (seg bs 0 n)
  have h2 := val_lt (seg bs n m)
  rw [length_seg (by omega)] at h1 h2
  have h3 := parts_val (bs := bs) (i := 0) (n := n) (m := m) (by omega)
  rw [Nat.zero_add] at h3
  rw [h3]
  have hN : 2 ^ n ≤ 4294967296 := by
    have := Nat.pow_le_pow_right (n := 2) (by omega) hn
    simpa using this
  have hM : 2 ^ m ≤ 4294967296 := by
    have := Nat.pow_le_pow_right (n := 2) (by omega) hm
    simpa using this
  have h6 : val (seg bs 0 n) * 2 ^ m ≤ 4294967295 * 4294967296 := Nat.mul_le_mul (by omega) hM
  have h4 : IntKind.u64.wrap ((val (seg bs 0 n) : Int) * 2 ^ m) = ((val (seg bs 0 n) * 2 ^ m : Nat) : Int) := by
    have h5 : (val (seg bs 0 n) : Int) * 2 ^ m = ((val (seg bs 0 n) * 2 ^ m : Nat) : Int) := by simp
    rw [h5, IntKind.wrap_u64]
    generalize val (seg bs 0 n) * 2 ^ m = X at *
    omega
  rw [h4, u64_or_nat _ _ (by omega) (by omega)]
  have h7 := Nat.two_pow_add_eq_or_of_lt h2 (val (seg bs 0 n))
  rw [Nat.mul_comm (2 ^ m)] at h7
  rw [h7]

set_option maxRecDepth 100000 in
set_option maxHeartbeats 1600000 in
theorem parts_ok (v n m : Nat) (A : Option Addr) (l : List Nat) (cap : Nat) (w : World) (hn : n ≤ 32) (hm : m ≤ 32) (hN : l.length ≤ 2000) (hv : v < 2 ^ (n + m)) (hcap : l.length ≤ cap) (hs : Src w A (bts l)) (hb : ∀ b ∈ l, b < 256) :
    Calls Try.prog 6 #[.int .u64 v, .int .i64 n, .int .i64 m, .slice A l.length cap] w fun e w' => e = .returned (.bool true) ∧ Below w.heap.size w w' := by
  have hvb : v < 18446744073709551616 := Nat.lt_of_lt_of_le hv (Nat.le_trans (Nat.pow_le_pow_right (by omega) (show n + m ≤ 64 by omega)) (by decide))
  have hhi : v / 2 ^ m < 2 ^ n := by
    rw [Nat.div_lt_iff_lt_mul (Nat.two_pow_pos m), ← Nat.pow_add]
    exact hv
  have hlo : v % 2 ^ m < 2 ^ m := Nat.mod_lt _ (Nat.two_pow_pos m)
  have hp := fun (W : World) (p : Nat) (hr : WRep w.heap.size W p (.slice none 0 0) []) => put_any v (n + m) W hr (by omega) hv (by simp; omega) hvb
  have hh := fun (W : World) (p : Nat) (hr : WRep w.heap.size W p (.slice none 0 0) []) => put_any (v / 2 ^ m) n W hr (by omega) hhi (by simp; omega) (Nat.lt_of_le_of_lt (Nat.div_le_self _ _) hvb)
  have hl := fun (W : World) (p : Nat) (sv : Value) (hr : WRep w.heap.size W p sv ([] ++ unval (v / 2 ^ m) n)) => put_any (v % 2 ^ m) m W hr (by omega) hlo (by simp [length_unval]; omega) (Nat.lt_of_le_of_lt (Nat.mod_le _ _) hvb)
  rw [Int.natCast_add] at hp
  have hw := wrap_pow hm
  have hM : 1 ≤ 2 ^ m := Nat.one_le_two_pow
  have hdv := cast_div_pow v m
  rw [← hdv] at hh
  have HH := Lib.hid hh
  clear hh hdv
  generalize hMM : 2 ^ m = M at *
  rw [Int.natCast_emod] at hl
  have HP := Lib.hid hp
  have HL := Lib.hid hl
  have HS := Lib.hid hs
  have HBB := Lib.hid hb
  have HV := Lib.hid hvb
  have HMM := Lib.hid hMM
  clear hv hp hl hs hb hvb hhi hlo hMM
  go_enter Try.func6, Try.ntmps6
  go_wp2_with fail
  refine (two_new w _ (Below.refl _ _)).mono ?_
  rintro e w1 ⟨rfl, hr1, hb1⟩
  have HR1 := Lib.hid hr1
  have HB1 := Lib.hid hb1
  clear hr1 hb1
  go_wp2_with fail
  refine (two_new w _ HB1.out).mono ?_
  rintro e w2 ⟨rfl, hr2, hb2⟩
  have HX2 := Lib.hid hr2
  have HR2 := Lib.hid (HR1.out.later hb2)
  have HB2 := Lib.hid (bl_step HB1.out hb2)
  have hne : w.heap.size < w1.heap.size := HR1.out.2.1.inside
  clear hr2 hb2
  go_wp2_with fail
  refine (HP.out _ _ HR2.out).mono ?_
  rintro e w3 ⟨rfl, sv3, hr3, ho3, hy3⟩
  have hx3 := HX2.out.only hy3 (fun h => by rcases h with h | h; omega; cases h) (fun k h => by cases h)
  have HB3 := Lib.hid (HB2.out.trans (wrote_below HR2.out hy3))
  have hs23 := hy3.size
  have hs12 := HX2.out.2.1.inside
  have own3 : ∀ k, sv3.ownBlock = some k → k ≠ w1.heap.size ∧ k < w3.heap.size := by
    intro k hk
    refine ⟨?_, (hr3.2.2.lt k hk).2⟩
    rcases ho3 with h | ⟨k', h, h'⟩
    · rw [h] at hk; cases hk
    · rw [h] at hk; injection hk with hk; omega
  have HR3 := Lib.hid hr3
  have HX3 := Lib.hid hx3
  have HO3 := Lib.hid own3
  clear hr3 ho3 hy3 hx3 own3
  go_wp2_with fail
  refine (HH.out _ _ HX3.out).mono ?_
  rintro e w4 ⟨rfl, sv4, hx4, ho4, hy4⟩
  have hr4 := HR3.out.only hy4 (fun h => by rcases h with h | h; omega; cases h) (fun k hk h => by rcases h with h | h; exact (HO3.out k hk).1 h; cases h)
  have HB4 := Lib.hid (HB3.out.trans (wrote_below HX3.out hy4))
  have own4 : ∀ k, sv4.ownBlock = some k → w3.heap.size ≤ k := by
    intro k hk
    rcases ho4 with h | ⟨k', h, h'⟩
    · rw [h] at hk; cases hk
    · rw [h] at hk; injection hk with hk; omega
  have HR4 := Lib.hid hr4
  have HX4 := Lib.hid hx4
  have HO4 := Lib.hid own4
  clear hr4 ho4 hy4 hx4 own4
  go_wp2_with fail
  refine (HL.out _ _ _ HX4.out).mono ?_
  rintro e w5 ⟨rfl, sv5, hx5, ho5, hy5⟩
  have hr5 := HR4.out.only hy5 (fun h => by rcases h with h | h; omega; have := HO4.out _ h; omega) (fun k hk h => by
    rcases h with h | h
    · exact (HO3.out k hk).1 h
    · have := HO4.out _ h; have := (HO3.out k hk).2; omega)
  have HB5 := Lib.hid (HB4.out.trans (wrote_below HX4.out hy5))
  have HR5 := Lib.hid hr5
  have HX5 := Lib.hid hx5
  clear hr5 hx5 ho5 hy5
  go_wp2_with fail
  refine (read_any A cap l _ (by omega) hcap (HS.out.later HB5.out) HBB.out).mono ?_
  rintro e w6 ⟨p6, g6, rfl, hp6, hg6, hrr6, hb6⟩
  have HB6 := Lib.hid (bl_step HB5.out hb6)
  have HR6 := Lib.hid (HR5.out.later hb6)
  have HX6 := Lib.hid (HX5.out.later hb6)
  have HP6 := Lib.hid hrr6
  clear hb6 hrr6
  go_wp2_with fail
  refine (read_any A cap l _ (by omega) hcap (HS.out.later HB6.out) HBB.out).mono ?_
  rintro e w7 ⟨p7, g7, rfl, hp7, hg7, hrr7, hb7⟩
  have HB7 := Lib.hid (bl_step HB6.out hb7)
  have HR7 := Lib.hid (HR6.out.later hb7)
  have HX7 := Lib.hid (HX6.out.later hb7)
  have HP7 := Lib.hid (HP6.out.later hb7)
  have HQ7 := Lib.hid hrr7
  have hp67 : p6 < w6.heap.size ∧ g6 < w6.heap.size := ⟨HP6.out.1.inside, HP6.out.2.1.inside⟩
  have hb56 := HB6.out.size
  clear hb7 hrr7
  have hin1 := HR5.out.2.1.inside
  have hin2 := HX5.out.2.1.inside
  have hown1 := fun k hk => (HR5.out.2.2.lt k hk).2
  have hown2 := fun k hk => (HX5.out.2.2.lt k hk).2
  have KR := Lib.hid (fun (W : World) (h : Only (fun k => w5.heap.size ≤ k) w7 W) => HR7.out.only h (by omega) (fun k hk h' => by have := hown1 k hk; omega))
  have KX := Lib.hid (fun (W : World) (h : Only (fun k => w5.heap.size ≤ k) w7 W) => HX7.out.only h (by omega) (fun k hk h' => by have := hown2 k hk; omega))
  have s67 : w6.heap.size ≤ w7.heap.size := by have := HQ7.out.1.inside; omega
  have KB := Lib.hid (fun (W : World) (h : Only (fun k => w5.heap.size ≤ k) w7 W) => HB7.out.trans (h.below HB7.out.size (fun k hk h' => by have := HB5.out.size; omega)))
  clear hown1 hown2
  by_cases hok : n + m ≤ 8 * l.length
  · have hg := fun (W : World) (hr : RRep W p6 g6 l 0) => get_any (n + m) W hr (by omega) (by omega)
    rw [Int.natCast_add] at hg
    have HG := Lib.hid hg
    have HG1 := Lib.hid (fun (W : World) (hr : RRep W p7 g7 l 0) => get_any n W hr (by omega) (by omega))
    have HG2 := Lib.hid (fun (W : World) (hr : RRep W p7 g7 l (0 + n)) => get_any m W hr (by omega) (by omega))
    clear hg
    go_wp2_with fail
    refine (HG.out _ HP7.out).mono ?_
    rintro e w8 ⟨rfl, _, hy8⟩
    have hq8 := HQ7.out.only hy8 (by omega) (by omega)
    have HQ8 := Lib.hid hq8
    have HY8 := Lib.hid (hy8.weaker (T := fun k => w5.heap.size ≤ k) (fun k _ hk => by omega))
    clear hq8 hy8
    go_wp2_with fail
    refine (HG1.out _ HQ8.out).mono ?_
    rintro e w9 ⟨rfl, hq9, hy9⟩
    have HQ9 := Lib.hid hq9
    have HY9 := Lib.hid (HY8.out.andThen hy9 (fun k _ hk => by omega))
    clear hq9 hy9
    go_wp2_with fail
    refine (HG2.out _ HQ9.out).mono ?_
    rintro e w10 ⟨rfl, hq10, hy10⟩
    have HY10 := Lib.hid (HY9.out.andThen hy10 (fun k _ hk => by omega))
    clear hq10 hy10
    go_wp2_with fail
    have hr10 := KR.out w10 HY10.out
    have hx10 := KX.out w10 HY10.out
    have hb10 := KB.out w10 HY10.out
    rw [← HMM.out, ← parts_bits] at hx10
    rw [List.nil_append] at hr10
    obtain ⟨k, pk, S, hby, hcv⟩ := bytes_text (B := w.heap.size) (unval v (n + m)) (by rw [length_unval]; omega)
    have hor := parts_or hn hm hok
    generalize val (seg l 0 (n + m)) = P at *
    generalize val (seg l 0 n) = Q at *
    generalize val (seg l n m) = U at *
    have HBY := Lib.hid hby
    have HR10 := Lib.hid hr10
    have HX10 := Lib.hid hx10
    have HB10 := Lib.hid hb10
    have hdr := row_drew
    clear hby hr10 hx10 hb10 HH HP HL HS HBB HV HMM HR1 HB1 HX2 HR2 HB2 HB3 HR3 HX3 HO3 HB4 HR4 HX4 HO4 HB5 HR5 HX5 HB6 HR6 HX6 HP6 HB7 HR7 HX7 HP7 HQ7 KR KX KB HG HG1 HG2 HQ8 HY8 HQ9 HY9 HY10 hp67 hb56 hin1 hin2 s67 hs23 hs12 hp6 hg6 hp7 hg7 hok hcap hN hw hM
    have h2w : Two w.heap.size w10.drew w.heap.size w1.heap.size sv3 sv5 (unval v (n + m)) := ⟨HR10.out, HX10.out⟩
    have H2W := Lib.hid h2w
    clear h2w
    refine wp_of_frame [none, none, some (.int .i64 m), none, none, none, none, none, none, none, none, some (.pointer (some ⟨w.heap.size, 0, none⟩)), some (.pointer (some ⟨w1.heap.size, 0, none⟩)), none, some (.int .i64 0), some (.int .i64 0), none, none, some (.int .u64 P), none, some (.int .u64 Q), some (.int .i64 0), some (.int .u64 U), some (.int .i64 0), none, none, none, none, none, none, none, none, none, none, none, none, none, none, none, none, none, none, none, none, none, none, none, none, none, none, none, none, none, none, none, none, none, none, none, none, none, none, none, none, none, none, none, none, none, none, none, none, none, none, none, none, none, none, none, none, none, none, none, none, none, none, none, none, none, none, none, none, none, none, none, none, none, none, none, none, none, none, none, none, none, none, none, none, none, none, none, none, none, none, none, none, none, none, none, none, none, none, none, none, none, none, none, none, none, none, none, none, none, none, none, none, none, none, none, none, none, none, none, none, none, none, none, none, none, none, none, none, none, none, none, none, none, none, none, none] (by
      simp only [Fr, Holes]
      repeat apply Exists.intro
      rfl) ?_
    intro a' hfr
    simp only [Fr, Holes] at hfr
    repeat (obtain ⟨_, hfr⟩ := hfr)
    refine wp_region_noPanic ?_
    refine wp_region_held_drew (S := fun w' => Two w.heap.size w' w.heap.size w1.heap.size sv3 sv5 (unval v (n + m))) (by kernel_rfl) H2W.out (fun hS => ?_)
    refine wpAnyH_ready (rs := [0]) (by kernel_rfl) (by simp) ?_
    refine AllReadyH.cons rfl (fun K hK => ?_) AllReadyH.nil
    go_simp
    refine (alive1_any _).mono ?_
    rintro e w11 ⟨rfl, hb11⟩
    try go_simp
    refine hK.out _ _ (Two.later H2W.out hb11) (fun hS => ?_)
    clear hK K
    try simp only [Act.put, List.setIfInBounds_toArray, List.set_cons_zero, List.set_cons_succ]
    refine take_at 1 126 (v := ?v1) (by simp only [List.getElem?_toArray, List.getElem?_cons_succ, List.getElem?_cons_zero]; rfl) rfl (by kernel_rfl) (by kernel_rfl) (by kernel_rfl) (fun _ _ _ h => h) (Or.inl ⟨by rfl, ?y1⟩) hS ?_
    case y1 => (intro W hSW; (try dsimp only at hSW); go_simp; first | done | with_reducible rfl)
    simp only [Act.put, List.setIfInBounds_toArray, List.set_cons_zero, List.set_cons_succ]
    refine take_at 2 127 (v := ?v2) (by simp only [List.getElem?_toArray, List.getElem?_cons_succ, List.getElem?_cons_zero]; rfl) rfl (by kernel_rfl) (by kernel_rfl) (by kernel_rfl) (fun _ _ _ h => h) (Or.inl ⟨by rfl, ?y2⟩) hS ?_
    case y2 => (intro W hSW; (try dsimp only at hSW); go_simp; first | done | with_reducible rfl)
    simp only [Act.put, List.setIfInBounds_toArray, List.set_cons_zero, List.set_cons_succ]
    refine take_at 3 128 (v := ?v3) (by simp only [List.getElem?_toArray, List.getElem?_cons_succ, List.getElem?_cons_zero]; rfl) rfl (by kernel_rfl) (by kernel_rfl) (by kernel_rfl) (fun _ _ _ h => h) (Or.inl ⟨by rfl, ?y3⟩) hS ?_
    case y3 => (intro W hSW; (try dsimp only at hSW); go_simp; first | done | with_reducible rfl)
    simp only [Act.put, List.setIfInBounds_toArray, List.set_cons_zero, List.set_cons_succ]
    refine take_at 4 129 (v := ?v4) (by simp only [List.getElem?_toArray, List.getElem?_cons_succ, List.getElem?_cons_zero]; rfl) rfl (by kernel_rfl) (by kernel_rfl) (by kernel_rfl) (fun _ _ _ h => h) (Or.inl ⟨by rfl, ?y4⟩) hS ?_
    case y4 => (intro W hSW; (try dsimp only at hSW); go_simp; first | done | with_reducible rfl)
    simp only [Act.put, List.setIfInBounds_toArray, List.set_cons_zero, List.set_cons_succ]
    refine take_at 5 130 (v := ?v5) (by simp only [List.getElem?_toArray, List.getElem?_cons_succ, List.getElem?_cons_zero]; rfl) rfl (by kernel_rfl) (by kernel_rfl) (by kernel_rfl) (fun _ _ _ h => h) (Or.inl ⟨by rfl, ?y5⟩) hS ?_
    case y5 => (intro W hSW; (try dsimp only at hSW); go_simp; first | done | with_reducible rfl)
    simp only [Act.put, List.setIfInBounds_toArray, List.set_cons_zero, List.set_cons_succ]
    refine take_at 6 131 (v := ?v6) (by simp only [List.getElem?_toArray, List.getElem?_cons_succ, List.getElem?_cons_zero]; rfl) rfl (by kernel_rfl) (by kernel_rfl) (by kernel_rfl) (fun _ _ _ h => h) (Or.inl ⟨by rfl, ?y6⟩) hS ?_
    case y6 => (intro W hSW; (try dsimp only at hSW); go_simp; first | done | with_reducible rfl)
    simp only [Act.put, List.setIfInBounds_toArray, List.set_cons_zero, List.set_cons_succ]
    refine take_at 7 132 (v := ?v7) (by simp only [List.getElem?_toArray, List.getElem?_cons_succ, List.getElem?_cons_zero]; rfl) rfl (by kernel_rfl) (by kernel_rfl) (by kernel_rfl) (fun _ _ _ h => h) (Or.inl ⟨by rfl, ?y7⟩) hS ?_
    case y7 => (intro W hSW; (try dsimp only at hSW); go_simp; first | done | with_reducible rfl)
    simp only [Act.put, List.setIfInBounds_toArray, List.set_cons_zero, List.set_cons_succ]
    refine take_at 8 133 (v := ?v8) (by simp only [List.getElem?_toArray, List.getElem?_cons_succ, List.getElem?_cons_zero]; rfl) rfl (by kernel_rfl) (by kernel_rfl) (by kernel_rfl) (fun _ _ _ h => h) (Or.inl ⟨by rfl, ?y8⟩) hS ?_
    case y8 => (intro W hSW; (try dsimp only at hSW); go_simp; first | done | with_reducible rfl)
    simp only [Act.put, List.setIfInBounds_toArray, List.set_cons_zero, List.set_cons_succ]
    refine take_at 9 134 (v := ?v9) (by simp only [List.getElem?_toArray, List.getElem?_cons_succ, List.getElem?_cons_zero]; rfl) rfl (by kernel_rfl) (by kernel_rfl) (by kernel_rfl) (fun _ _ _ h => h) (Or.inl ⟨by rfl, ?y9⟩) hS ?_
    case y9 => (intro W hSW; (try dsimp only at hSW); go_simp; first | done | with_reducible rfl)
    simp only [Act.put, List.setIfInBounds_toArray, List.set_cons_zero, List.set_cons_succ]
    refine take_at 10 135 (v := ?v10) (by simp only [List.getElem?_toArray, List.getElem?_cons_succ, List.getElem?_cons_zero]; rfl) rfl (by kernel_rfl) (by kernel_rfl) (by kernel_rfl) (fun _ _ _ h => h) (Or.inl ⟨by rfl, ?y10⟩) hS ?_
    case y10 => (intro W hSW; (try dsimp only at hSW); go_simp; first | done | with_reducible rfl)
    simp only [Act.put, List.setIfInBounds_toArray, List.set_cons_zero, List.set_cons_succ]
    refine take_at 13 138 (v := ?v13) (by simp only [List.getElem?_toArray, List.getElem?_cons_succ, List.getElem?_cons_zero]; rfl) rfl (by kernel_rfl) (by kernel_rfl) (by kernel_rfl) (fun _ _ _ h => h) (Or.inl ⟨by rfl, ?y13⟩) hS ?_
    case y13 => (intro W hSW; (try dsimp only at hSW); go_simp; first | done | with_reducible rfl)
    simp only [Act.put, List.setIfInBounds_toArray, List.set_cons_zero, List.set_cons_succ]
    refine wpAnyH_ready (rs := [11]) (by kernel_rfl) (by simp) ?_
    refine AllReadyH.cons rfl (fun K hK => ?_) AllReadyH.nil
    go_simp
    refine (HBY.out _ _ sv3 hS.left).mono ?_
    rintro e w12 ⟨g12, rfl, hrow12, hb12⟩
    try go_simp
    refine hK.out _ _ (Two.later hS hb12) (fun hS => ?_)
    clear hK K
    try simp only [Act.put, List.setIfInBounds_toArray, List.set_cons_zero, List.set_cons_succ]
    refine wpAnyH_more (S' := fun w' => Two w.heap.size w' w.heap.size w1.heap.size sv3 sv5 (unval v (n + m)) ∧ Row w' g12 5 (bts pk).toArray) ?_ (fun _ h => h.1)
    have hS2 : (fun w' => Two w.heap.size w' w.heap.size w1.heap.size sv3 sv5 (unval v (n + m)) ∧ Row w' g12 5 (bts pk).toArray) w12 := ⟨hS, hrow12⟩
    clear hS
    have hS := hS2
    clear hS2
    refine take_at 12 137 (v := ?v12) (by simp only [List.getElem?_toArray, List.getElem?_cons_succ, List.getElem?_cons_zero]; rfl) rfl (by kernel_rfl) (by kernel_rfl) (by kernel_rfl) (fun _ _ _ h => h) (Or.inl ⟨by rfl, ?y12⟩) hS ?_
    case y12 => (intro W hSW; (try dsimp only at hSW); go_simp; first | done | with_reducible rfl)
    simp only [Act.put, List.setIfInBounds_toArray, List.set_cons_zero, List.set_cons_succ]
    refine wpAnyH_ready (rs := [14]) (by kernel_rfl) (by simp) ?_
    refine AllReadyH.cons rfl (fun K hK => ?_) AllReadyH.nil
    go_simp
    refine (HBY.out _ _ sv5 hS.1.right).mono ?_
    rintro e w13 ⟨g13, rfl, hrow13, hb13⟩
    try go_simp
    refine hK.out _ _ (And.intro (Two.later hS.1 hb13) (hS.2.later hb13)) (fun hS => ?_)
    clear hK K
    try simp only [Act.put, List.setIfInBounds_toArray, List.set_cons_zero, List.set_cons_succ]
    refine wpAnyH_more (S' := fun w' => (Two w.heap.size w' w.heap.size w1.heap.size sv3 sv5 (unval v (n + m)) ∧ Row w' g12 5 (bts pk).toArray) ∧ Row w' g13 5 (bts pk).toArray) ?_ (fun _ h => h.1)
    have hS2 : (fun w' => (Two w.heap.size w' w.heap.size w1.heap.size sv3 sv5 (unval v (n + m)) ∧ Row w' g12 5 (bts pk).toArray) ∧ Row w' g13 5 (bts pk).toArray) w13 := ⟨hS, hrow13⟩
    clear hS
    have hS := hS2
    clear hS2
    refine take_at 15 140 (v := ?v15) (by simp only [List.getElem?_toArray, List.getElem?_cons_succ, List.getElem?_cons_zero]; rfl) rfl (by kernel_rfl) (by kernel_rfl) (by kernel_rfl) (fun _ _ _ h => h) (Or.inl ⟨by rfl, ?y15⟩) hS ?_
    case y15 => (intro W hSW; (try dsimp only at hSW); go_simp; first | done | with_reducible rfl)
    simp only [Act.put, List.setIfInBounds_toArray, List.set_cons_zero, List.set_cons_succ]
    refine take_at 16 141 (v := ?v16) (by simp only [List.getElem?_toArray, List.getElem?_cons_succ, List.getElem?_cons_zero]; rfl) rfl (by kernel_rfl) (by kernel_rfl) (by kernel_rfl) (fun _ _ _ h => h) (Or.inl ⟨by rfl, ?y16⟩) hS ?_
    case y16 => (intro W hSW; (try dsimp only at hSW); go_simp; first | done | with_reducible rfl)
    simp only [Act.put, List.setIfInBounds_toArray, List.set_cons_zero, List.set_cons_succ]
    refine take_at 17 142 (v := ?v17) (by simp only [List.getElem?_toArray, List.getElem?_cons_succ, List.getElem?_cons_zero]; rfl) rfl (by kernel_rfl) (by kernel_rfl) (by kernel_rfl) (fun _ _ _ h => h) (Or.inl ⟨by rfl, ?y17⟩) hS ?_
    case y17 => (intro W hSW; (try dsimp only at hSW); go_simp; first | done | with_reducible rfl)
    simp only [Act.put, List.setIfInBounds_toArray, List.set_cons_zero, List.set_cons_succ]
    refine take_at 18 143 (v := ?v18) (by simp only [List.getElem?_toArray, List.getElem?_cons_succ, List.getElem?_cons_zero]; rfl) rfl (by kernel_rfl) (by kernel_rfl) (by kernel_rfl) (fun _ _ _ h => h) (Or.inl ⟨by rfl, ?y18⟩) hS ?_
    case y18 => (intro W hSW; (try dsimp only at hSW); go_simp; first | done | with_reducible rfl)
    simp only [Act.put, List.setIfInBounds_toArray, List.set_cons_zero, List.set_cons_succ]
    refine take_at 19 144 (v := ?v19) (by simp only [List.getElem?_toArray, List.getElem?_cons_succ, List.getElem?_cons_zero]; rfl) rfl (by kernel_rfl) (by kernel_rfl) (by kernel_rfl) (fun _ _ _ h => h) (Or.inl ⟨by rfl, ?y19⟩) hS ?_
    case y19 => (intro W hSW; (try dsimp only at hSW); go_simp; first | done | with_reducible rfl)
    simp only [Act.put, List.setIfInBounds_toArray, List.set_cons_zero, List.set_cons_succ]
    refine take_at 20 145 (v := ?v20) (by simp only [List.getElem?_toArray, List.getElem?_cons_succ, List.getElem?_cons_zero]; rfl) rfl (by kernel_rfl) (by kernel_rfl) (by kernel_rfl) (fun _ _ _ h => h) (Or.inl ⟨by rfl, ?y20⟩) hS ?_
    case y20 => (intro W hSW; (try dsimp only at hSW); go_simp; first | done | with_reducible rfl)
    simp only [Act.put, List.setIfInBounds_toArray, List.set_cons_zero, List.set_cons_succ]
    refine take_at 21 146 (v := ?v21) (by simp only [List.getElem?_toArray, List.getElem?_cons_succ, List.getElem?_cons_zero]; rfl) rfl (by kernel_rfl) (by kernel_rfl) (by kernel_rfl) (fun _ _ _ h => h) (Or.inl ⟨by rfl, ?y21⟩) hS ?_
    case y21 => (intro W hSW; (try dsimp only at hSW); go_simp; first | done | with_reducible rfl)
    simp only [Act.put, List.setIfInBounds_toArray, List.set_cons_zero, List.set_cons_succ]
    refine take_at 22 147 (v := ?v22) (by simp only [List.getElem?_toArray, List.getElem?_cons_succ, List.getElem?_cons_zero]; rfl) rfl (by kernel_rfl) (by kernel_rfl) (by kernel_rfl) (fun _ _ _ h => h) (Or.inl ⟨by rfl, ?y22⟩) hS ?_
    case y22 => (intro W hSW; (try dsimp only at hSW); go_simp; first | done | with_reducible rfl)
    simp only [Act.put, List.setIfInBounds_toArray, List.set_cons_zero, List.set_cons_succ]
    refine take_at 23 148 (v := ?v23) (by simp only [List.getElem?_toArray, List.getElem?_cons_succ, List.getElem?_cons_zero]; rfl) rfl (by kernel_rfl) (by kernel_rfl) (by kernel_rfl) (fun _ _ _ h => h) (Or.inl ⟨by rfl, ?y23⟩) hS ?_
    case y23 => (intro W hSW; (try dsimp only at hSW); go_simp; first | done | with_reducible rfl)
    simp only [Act.put, List.setIfInBounds_toArray, List.set_cons_zero, List.set_cons_succ]
    refine take_at 24 149 (v := ?v24) (by simp only [List.getElem?_toArray, List.getElem?_cons_succ, List.getElem?_cons_zero]; rfl) rfl (by kernel_rfl) (by kernel_rfl) (by kernel_rfl) (fun _ _ _ h => h) (Or.inl ⟨by rfl, ?y24⟩) hS ?_
    case y24 => (intro W hSW; (try dsimp only at hSW); go_simp; first | done | with_reducible rfl)
    simp only [Act.put, List.setIfInBounds_toArray, List.set_cons_zero, List.set_cons_succ]
    refine take_at 25 150 (v := ?v25) (by simp only [List.getElem?_toArray, List.getElem?_cons_succ, List.getElem?_cons_zero]; rfl) rfl (by kernel_rfl) (by kernel_rfl) (by kernel_rfl) (fun _ _ _ h => h) (Or.inl ⟨by rfl, ?y25⟩) hS ?_
    case y25 => (intro W hSW; (try dsimp only at hSW); go_simp; first | done | with_reducible rfl)
    simp only [Act.put, List.setIfInBounds_toArray, List.set_cons_zero, List.set_cons_succ]
    refine take_at 26 151 (v := ?v26) (by simp only [List.getElem?_toArray, List.getElem?_cons_succ, List.getElem?_cons_zero]; rfl) rfl (by kernel_rfl) (by kernel_rfl) (by kernel_rfl) (fun _ _ _ h => h) (Or.inl ⟨by rfl, ?y26⟩) hS ?_
    case y26 => (intro W hSW; (try dsimp only at hSW); go_simp; first | done | with_reducible rfl)
    simp only [Act.put, List.setIfInBounds_toArray, List.set_cons_zero, List.set_cons_succ]
    refine take_at 27 152 (v := ?v27) (by simp only [List.getElem?_toArray, List.getElem?_cons_succ, List.getElem?_cons_zero]; rfl) rfl (by kernel_rfl) (by kernel_rfl) (by kernel_rfl) (fun _ _ _ h => h) (Or.inl ⟨by rfl, ?y27⟩) hS ?_
    case y27 => (intro W hSW; (try dsimp only at hSW); go_simp; first | done | with_reducible rfl)
    simp only [Act.put, List.setIfInBounds_toArray, List.set_cons_zero, List.set_cons_succ]
    refine take_at 28 153 (v := ?v28) (by simp only [List.getElem?_toArray, List.getElem?_cons_succ, List.getElem?_cons_zero]; rfl) rfl (by kernel_rfl) (by kernel_rfl) (by kernel_rfl) (fun _ _ _ h => h) (Or.inl ⟨by rfl, ?y28⟩) hS ?_
    case y28 => (intro W hSW; (try dsimp only at hSW); go_simp; first | done | with_reducible rfl)
    simp only [Act.put, List.setIfInBounds_toArray, List.set_cons_zero, List.set_cons_succ]
    refine take_at 29 154 (v := ?v29) (by simp only [List.getElem?_toArray, List.getElem?_cons_succ, List.getElem?_cons_zero]; rfl) rfl (by kernel_rfl) (by kernel_rfl) (by kernel_rfl) (fun _ _ _ h => h) (Or.inl ⟨by rfl, ?y29⟩) hS ?_
    case y29 => (intro W hSW; (try dsimp only at hSW); go_simp; first | done | with_reducible rfl)
    simp only [Act.put, List.setIfInBounds_toArray, List.set_cons_zero, List.set_cons_succ]
    refine take_at 30 155 (v := ?v30) (by simp only [List.getElem?_toArray, List.getElem?_cons_succ, List.getElem?_cons_zero]; rfl) rfl (by kernel_rfl) (by kernel_rfl) (by kernel_rfl) (fun _ _ _ h => h) (Or.inl ⟨by rfl, ?y30⟩) hS ?_
    case y30 => (intro W hSW; (try dsimp only at hSW); go_simp; first | done | with_reducible rfl)
    simp only [Act.put, List.setIfInBounds_toArray, List.set_cons_zero, List.set_cons_succ]
    refine take_at 31 156 (v := ?v31) (by simp only [List.getElem?_toArray, List.getElem?_cons_succ, List.getElem?_cons_zero]; rfl) rfl (by kernel_rfl) (by kernel_rfl) (by kernel_rfl) (fun _ _ _ h => h) (Or.inl ⟨by rfl, ?y31⟩) hS ?_
    case y31 => (intro W hSW; (try dsimp only at hSW); go_simp; first | done | with_reducible rfl)
    simp only [Act.put, List.setIfInBounds_toArray, List.set_cons_zero, List.set_cons_succ]
    refine take_at 32 157 (v := ?v32) (by simp only [List.getElem?_toArray, List.getElem?_cons_succ, List.getElem?_cons_zero]; rfl) rfl (by kernel_rfl) (by kernel_rfl) (by kernel_rfl) (fun _ _ _ h => h) (Or.inl ⟨by rfl, ?y32⟩) hS ?_
    case y32 => (intro W hSW; (try dsimp only at hSW); go_simp; first | done | with_reducible rfl)
    simp only [Act.put, List.setIfInBounds_toArray, List.set_cons_zero, List.set_cons_succ]
    refine take_at 33 158 (v := ?v33) (by simp only [List.getElem?_toArray, List.getElem?_cons_succ, List.getElem?_cons_zero]; rfl) rfl (by kernel_rfl) (by kernel_rfl) (by kernel_rfl) (fun _ _ _ h => h) (Or.inl ⟨by rfl, ?y33⟩) hS ?_
    case y33 => (intro W hSW; (try dsimp only at hSW); go_simp; first | done | with_reducible rfl)
    simp only [Act.put, List.setIfInBounds_toArray, List.set_cons_zero, List.set_cons_succ]
    refine take_at 34 159 (v := ?v34) (by simp only [List.getElem?_toArray, List.getElem?_cons_succ, List.getElem?_cons_zero]; rfl) rfl (by kernel_rfl) (by kernel_rfl) (by kernel_rfl) (fun _ _ _ h => h) (Or.inl ⟨by rfl, ?y34⟩) hS ?_
    case y34 => (intro W hSW; (try dsimp only at hSW); go_simp; first | done | with_reducible rfl)
    simp only [Act.put, List.setIfInBounds_toArray, List.set_cons_zero, List.set_cons_succ]
    refine take_at 35 8 (v := ?v35) (by simp only [List.getElem?_toArray, List.getElem?_cons_succ, List.getElem?_cons_zero]; rfl) rfl (by kernel_rfl) (by kernel_rfl) (by kernel_rfl) (fun _ _ _ h => h) (Or.inl ⟨by rfl, ?y35⟩) hS ?_
    case y35 => (intro W hSW; (try dsimp only at hSW); go_simp; first | done | with_reducible rfl)
    simp only [Act.put, List.setIfInBounds_toArray, List.set_cons_zero, List.set_cons_succ]
    refine wpAnyH_done (by kernel_rfl) ?_ _
    refine NoPanic.normal ?_
    go_wp2
    go_ret
    exact ⟨rfl, bl_step (bl_step (bl_step HB10.out.drew hb11) hb12) hb13⟩
  · have hg := fun (W : World) (hr : RRep W p6 g6 l 0) => get_short (n + m) W hr (by omega) (by omega)
    rw [Int.natCast_add] at hg
    have HG := Lib.hid hg
    clear hg
    go_wp2_with fail
    refine (HG.out _ HP7.out).mono ?_
    rintro e w8 ⟨rfl, hb8⟩
    have HQ8 := Lib.hid (HQ7.out.later hb8)
    have HY8 := Lib.hid (Only.of_below (S := fun k => w5.heap.size ≤ k) hb8)
    clear hb8
    by_cases hn8 : n ≤ 8 * l.length
    · have HG1 := Lib.hid (fun (W : World) (hr : RRep W p7 g7 l 0) => get_any n W hr (by omega) (by omega))
      have HG2 := Lib.hid (fun (W : World) (hr : RRep W p7 g7 l (0 + n)) => get_short m W hr (by omega) (by omega))
      go_wp2_with fail
      refine (HG1.out _ HQ8.out).mono ?_
      rintro e w9 ⟨rfl, hq9, hy9⟩
      have HQ9 := Lib.hid hq9
      have HY9 := Lib.hid (HY8.out.andThen hy9 (fun k _ hk => by omega))
      clear hq9 hy9
      go_wp2_with fail
      refine (HG2.out _ HQ9.out).mono ?_
      rintro e w10 ⟨rfl, hb10⟩
      have HY10 := Lib.hid (HY9.out.andThen (T := fun _ => False) (Only.of_below hb10) (fun _ _ hk => hk.elim))
      clear hb10
      go_wp2_with (go_at_call 17; refine (alive1_any _).mono ?_; rintro e w11 ⟨rfl, hb11⟩)
      go_ret
      exact ⟨rfl, bl_step (KB.out _ HY10.out) hb11⟩
    · have HG1 := Lib.hid (fun (W : World) (hr : RRep W p7 g7 l 0) => get_short n W hr (by omega) (by omega))
      go_wp2_with fail
      refine (HG1.out _ HQ8.out).mono ?_
      rintro e w9 ⟨rfl, hb9⟩
      have HQ9 := Lib.hid (HQ8.out.later hb9)
      have HY9 := Lib.hid (HY8.out.andThen (T := fun _ => False) (Only.of_below hb9) (fun _ _ hk => hk.elim))
      clear hb9
      go_wp2_with fail
      by_cases hm8 : m ≤ 8 * l.length
      · refine (get_any m _ HQ9.out (by omega) (by omega)).mono ?_
        rintro e w10 ⟨rfl, hq10, hy10⟩
        have HY10 := Lib.hid (HY9.out.andThen hy10 (fun k _ hk => by omega))
        clear hq10 hy10
        go_wp2_with (go_at_call 17; refine (alive1_any _).mono ?_; rintro e w11 ⟨rfl, hb11⟩)
        go_ret
        exact ⟨rfl, bl_step (KB.out _ HY10.out) hb11⟩
      · refine (get_short m _ HQ9.out (by omega) (by omega)).mono ?_
        rintro e w10 ⟨rfl, hb10⟩
        have HY10 := Lib.hid (HY9.out.andThen (T := fun _ => False) (Only.of_below hb10) (fun _ _ hk => hk.elim))
        clear hb10
        go_wp2_with (go_at_call 17; refine (alive1_any _).mono ?_; rintro e w11 ⟨rfl, hb11⟩)
        go_ret
        exact ⟨rfl, bl_step (KB.out _ HY10.out) hb11⟩
end Go.Proofs.Ytjilmgbjbkidnaa
