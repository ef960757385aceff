/-
  The document's answer for what is put: bits as a list of the call's own. The document's answer for bits as bytes. The document's answer for what is got: bytes as bits, and the number of the next of them.
-/
import Derived.Test.YtjonkpdjhjobfaaJUmtxLives02
import Derived.Shelf.Bytes.SlSmallAll
namespace Go.Proofs.Ytjonkpdjhjobfaa
open Go.RowKit

theorem Try.info4 : (Try.prog.info? 4).map (fun i => (i.zero, i.size, i.bytes)) = some (some (.bool false), 1, 1) := by kernel_rfl
/-- bits as values -/
def bls (l : List Bool) : List Value := l.map Value.bool
theorem length_bls (l : List Bool) : (bls l).length = l.length := by simp [bls]
theorem bls_append (l k : List Bool) : bls (l ++ k) = bls l ++ bls k := by simp [bls]
theorem bls_at {l : List Bool} {i : Nat} {b : Bool} (h : l[i]? = some b) : (bls l)[i]? = some (.bool b) := by simp [bls, h]
theorem bls_one (l : List Bool) : ∀ v ∈ bls l, v.oneCell' = true := by
  intro v hv
  simp only [bls, List.mem_map] at hv
  obtain ⟨b, _, rfl⟩ := hv
  rfl

theorem nat_eq0 (q : Nat) : ((q : Int) == 0) = (q == 0) := by
  rw [Bool.eq_iff_iff, beq_iff_eq, beq_iff_eq]
  omega
theorem ret_u64 {q q' : Nat} (h : q / 2 = q') : Value.int .u64 ((q : Int) / 2) = .int .u64 (q' : Int) := by
  subst h
  simp
theorem half_pow (v k : Nat) : v / 2 ^ k / 2 = v / 2 ^ (k + 1) := by rw [Nat.div_div_eq_div_mul, ← Nat.pow_succ]

set_option maxHeartbeats 800000 in
theorem fits_nat (v n : Nat) (w : World) (hn : n ≤ 64) (hv : v < 18446744073709551616) : Calls Try.prog 173 #[.int .u64 v, .int .i64 n] w fun e w' => e = .returned (.bool (v / 2 ^ n == 0)) ∧ w = w' := by
  go_enter Try.func173, Try.ntmps173
  go_wp2
  go_loopw [0, 5] (fun x i wr => ∃ k : Nat, k ≤ n ∧ x = .int .u64 ((v / 2 ^ k : Nat) : Int) ∧ i = .int .i64 k ∧ w = wr) (fun _ i _ => n - (intOf i).toNat)
  case atStart => exact ⟨0, by omega, by simp, rfl, rfl⟩
  case round =>
    obtain ⟨k, hk, rfl, rfl, rfl⟩ := hrel
    have hh := Lib.hid (half_pow v k)
    have hle : v / 2 ^ k ≤ v := Nat.div_le_self _ _
    generalize hq : v / 2 ^ k = q at *
    have HQ := Lib.hid hq
    clear hq
    by_cases hlt : k < n
    · go_wp2
      go_roundw
      case rel => exact ⟨k + 1, by omega, ret_u64 hh.out, by go_num, trivial⟩
      case measure => simp [intOf]; omega
    · obtain rfl : k = n := by omega
      go_wp2
      go_ret
      refine ⟨ret_bool ?_, rfl⟩
      rw [HQ.out]
      exact nat_eq0 q

/-- a number's lowest bits, the lowest first -/
def lows (v n : Nat) : List Bool := (List.range n).map fun j => v / 2 ^ j % 2 == 1
theorem lows_succ (v n : Nat) : lows v (n + 1) = lows v n ++ [v / 2 ^ n % 2 == 1] := by simp [lows, List.range_succ]
theorem lows_at {v n j : Nat} (h : j < n) : (lows v n)[j]? = some (v / 2 ^ j % 2 == 1) := by simp [lows, h]

/-- a list of bits of the call's own -/
def OwnB (B : Nat) (w : World) (x : Value) (bl : List Bool) : Prop := w.ownsRow B 4 1 x bl.length (bls bl) ∧ (bl = [] → x = .slice none 0 0)
theorem OwnB.nil (B : Nat) (w : World) : OwnB B w (.slice none 0 0) [] := ⟨World.ownsRow_nil _ _ _ _, fun _ => rfl⟩
theorem OwnB.later {B : Nat} {w v : World} {x : Value} {bl : List Bool} (h : OwnB B w x bl) (hb : Below w.heap.size w v) : OwnB B v x bl :=
  ⟨own_only h.1 (S := fun _ => False) (.of_below hb) (fun _ _ h => h), h.2⟩
theorem OwnB.form {B : Nat} {w : World} {x : Value} {bl : List Bool} (h : OwnB B w x bl) : ∃ A c, x = .slice A bl.length c := by
  rcases h.1.2 with ⟨rfl, h0⟩ | ⟨g, c, cur, rfl, _⟩
  · exact ⟨none, 0, by rw [h0]⟩
  · exact ⟨_, c, rfl⟩

theorem run_append_none {P : Program} (w : World) (t ty e : TypeId) (i : TypeInfo) (ht : P.underlying t = some (.slice e)) (hi : P.info? e = some i) :
    (Builtin.append_ #[t, t] ty #[.slice none 0 0, .slice none 0 0]).run P w = .ok (.slice none 0 0) w := by
  simp [Builtin.append_, run_underlying ht, sizeOf, typeInfo, hi, Builtin.lenOf, Builtin.firstCells]
theorem wpList_append_none {P : Program} (w : World) {ops : Array Oper} {rest : List Oper} {o : Oper} {a : Act} {Q : Exit → Act → World → Prop} (hgd : o.guard = none) (s x : Operand) (t : TypeId)
    (ho : o.op = .call { callee := .builtin .append, args := #[s, x], argTypes := #[t, t] }) (e : TypeId) (i : TypeInfo) (ht : P.underlying t = some (.slice e)) (hi : P.info? e = some i)
    (hs : a.eval s = .slice none 0 0) (hx : a.eval x = .slice none 0 0) (h : wpList P ops Q rest (a.put o.dst (.slice none 0 0)) w) : wpList P ops Q (o :: rest) a w := by
  refine wpList_plain hgd fun K hK => ?_
  unfold Oper.wp execOp
  simp only [ho, resolve, invoke, builtin, Sem.run_bind, Sem.run_pure, Result.andThen_ok, List.map_toArray, List.map_cons, List.map_nil, hs, hx, run_append_none w t o.type e i ht hi]
  exact hK _ _ h

theorem low_bit (v j : Nat) : (((v / 2 ^ j : Nat) : Int) % 2 == 1) = (v / 2 ^ j % 2 == 1) := by
  rw [Bool.eq_iff_iff, beq_iff_eq, beq_iff_eq]
  omega

set_option maxRecDepth 100000 in
set_option maxHeartbeats 3200000 in
theorem refput_ok {B : Nat} {w : World} {x : Value} {bl : List Bool} (v n : Nat) (hx : OwnB B w x bl) (hn : n ≤ 64) (h : v < 2 ^ n) (hl : bl.length + n ≤ 65536) (hv : v < 18446744073709551616) :
    Calls Try.prog 95 #[x, .int .u64 v, .int .i64 n] w fun e w' => ∃ x', e = .returned (.tuple #[x', .int .i64 0]) ∧ OwnB w.heap.size w' x' (bl ++ unval v n) ∧ Below w.heap.size w w' := by
  have hf := fits_nat v n w hn hv
  rw [Nat.div_eq_of_lt h] at hf
  have HF := Lib.hid hf
  obtain ⟨i0, hi, hi0, hi1, hi2⟩ := info_parts Try.info4
  obtain ⟨A, c, rfl⟩ := hx.form
  have HX := Lib.hid hx
  clear hf hx h
  go_enter Try.func95, Try.ntmps95
  go_wp2_with (go_at_call 173; refine HF.out.mono ?_; rintro e w1 ⟨rfl, rfl⟩)
  go_loopw [1, 8, 10] (fun y o i wr => ∃ k : Nat, k ≤ n ∧ y = .int .u64 ((v / 2 ^ k : Nat) : Int) ∧ i = .int .i64 k ∧ wr.ownsRow w.heap.size 4 1 o k (bls (lows v k)) ∧ Below w.heap.size w wr) (fun _ _ i _ => n - (intOf i).toNat)
  case atStart => exact ⟨0, by omega, by simp, rfl, World.ownsRow_nil _ _ _ _, Below.refl _ _⟩
  case round =>
    obtain ⟨k, hk, rfl, rfl, hown, hbr⟩ := hrel
    have HO := Lib.hid hown
    have HB := Lib.hid hbr
    clear hown hbr
    by_cases hlt : k < n
    · have hh := Lib.hid (half_pow v k)
      have hle : v / 2 ^ k ≤ v := Nat.div_le_self _ _
      have hbit := low_bit v k
      have hls := Lib.hid (lows_succ v k)
      generalize hq : v / 2 ^ k = q at *
      clear hq
      go_wp2_with (at_builtin; refine wpList_append_lies _ rfl _ _ _ (by rfl) w.heap.size 4 i0 (.bool false) 1 1 Try.underlying50 hi hi0 hi1 hi2 rfl (by omega) u8 k _ (by rfl) (HO.out.alloc _) ⟨wr.heap.size, 0, none⟩ 1 1 [.bool (q % 2 == 1)] (by rfl) (by rfl) ?h1 ?h2 ?h3 ?h4 ?h5 ?h6 (wr.heap.size + 1) ?h7 ?_)
      case h1 => exact cell_one_new _ _ _
      case h2 => intro u hu; simp at hu; subst hu; rfl
      case h3 => omega
      case h4 => unfold maxLen; omega
      case h5 => omega
      case h6 => have := HB.out.size; simp; omega
      case h7 => simp
      intro g cap w2 hown2 hgrow _ _
      have hb2 : Below w.heap.size w w2 := (HB.out.alloc HB.out.size _).grown hgrow (by have := HB.out.size; simp; omega) (fun r hr => (HO.out.lt r hr).1)
      have hown3 : w2.ownsRow w.heap.size 4 1 (.slice (some ⟨g, 0, none⟩) (k + 1) cap) (k + 1) (bls (lows v (k + 1))) := by rw [hls.out, bls_append]; exact hown2
      have HO2 := Lib.hid hown3
      have HB2 := Lib.hid hb2
      clear hown2 hgrow hown3 hb2
      go_wp2
      go_roundw
      case rel => exact ⟨k + 1, by omega, ret_u64 hh.out, by go_num, HO2.out, HB2.out⟩
      case measure => simp [intOf]; omega
    · obtain rfl : n = k := by omega
      have hv8 : ∃ A8 c8, u8 = .slice A8 n c8 := by
        rcases HO.out.2 with ⟨rfl, h0⟩ | ⟨g, c, cur, rfl, _⟩
        · exact ⟨none, 0, by rw [h0]⟩
        · exact ⟨_, c, rfl⟩
      obtain ⟨A8, c8, rfl⟩ := hv8
      clear hlt hk
      by_cases hb : bl = []
      · subst hb
        have e0 := HX.out.2 rfl
        injection e0 with e1 _ e2
        subst e1
        subst e2
        go_wp2_with (at_builtin; refine wpList_append_none _ rfl _ _ _ (by rfl) 4 i0 Try.underlying50 hi (by rfl) (by rfl) ?_)
        go_loopw [9, 11] (fun o i wq => ∃ (m : Nat) (z : Int), m ≤ n ∧ z + 1 = m ∧ i = .int .i64 z ∧ OwnB w.heap.size wq o (([] : List Bool) ++ unval (v / 2 ^ m) (n - m)) ∧ wq.ownsRow w.heap.size 4 1 (.slice A8 n c8) n (bls (lows v n)) ∧ (∀ r, o.ownBlock = some r → (Value.slice A8 n c8).ownBlock ≠ some r) ∧ Below w.heap.size w wq) (fun _ i _ => (intOf i + 1).toNat)
        case atStart => exact ⟨n, (n : Int) - 1, by omega, by omega, rfl, by rw [Nat.sub_self]; exact OwnB.nil _ _, HO.out, (fun r hr => by simp [Value.ownBlock] at hr), HB.out⟩
        case round =>
          obtain ⟨m, z, hm, hz, rfl, hout, hlow, hap, hbq⟩ := hrel
          have HOUT := Lib.hid hout
          have HLOW := Lib.hid hlow
          have HAP := Lib.hid hap
          have HBQ := Lib.hid hbq
          clear hout hlow hap hbq HO HB HX
          rcases Nat.eq_zero_or_pos m with h0 | h0
          · subst h0
            obtain rfl : z = -1 := by omega
            go_wp2
            refine bodyPost_ret (v := .tuple #[u9, .int .i64 0]) (by simp [results, Try.results95, go_sem]) rfl ⟨_, rfl, ?_, HBQ.out⟩
            have h1 := HOUT.out
            rw [Nat.pow_zero, Nat.div_one, Nat.sub_zero] at h1
            exact h1
          · obtain ⟨j, rfl⟩ : ∃ j, m = j + 1 := ⟨m - 1, by omega⟩
            obtain rfl : z = (j : Int) := by omega
            obtain ⟨g8, c8', e8, _, _⟩ := HLOW.out.form (by omega)
            injection e8 with e8 _ e9
            subst e8
            subst e9
            have hc := (HLOW.out.cellAt j (by omega)).trans (bls_at (lows_at (v := v) (show j < n by omega)))
            have hj0 : (0 : Int) ≤ (j : Int) := by omega
            have hj1 : (j : Int) < (n : Int) := by omega
            have hnext : (([] : List Bool) ++ unval (v / 2 ^ (j + 1)) (n - (j + 1))) ++ [v / 2 ^ j % 2 == 1] = ([] : List Bool) ++ unval (v / 2 ^ j) (n - j) := by
              have e1 : n - j = n - (j + 1) + 1 := by omega
              rw [e1, unval, half_pow, List.append_assoc]
            have hlen : (([] : List Bool) ++ unval (v / 2 ^ (j + 1)) (n - (j + 1))).length < 65536 := by
              rw [List.length_append, length_unval]
              omega
            generalize ([] : List Bool) ++ unval (v / 2 ^ (j + 1)) (n - (j + 1)) = cur at *
            generalize (v / 2 ^ j % 2 == 1) = bit at *
            have HN := Lib.hid hnext
            clear hnext
            go_wp2_with (at_builtin; go_loud (refine wpList_append_lies _ rfl _ _ _ (by rfl) w.heap.size 4 i0 (.bool false) 1 1 Try.underlying50 hi hi0 hi1 hi2 rfl (by omega) u9 cur.length _ (by rfl) (HOUT.out.1.alloc _) ⟨wr.heap.size, 0, none⟩ 1 1 [.bool bit] (by rfl) (by rfl) (cell_one_new _ _ _) (fun u hu => by simp at hu; subst hu; rfl) (by omega) (by unfold maxLen; omega) (by omega) (by have := HBQ.out.size; simp; omega) (wr.heap.size + 1) (by simp) ?_))
            intro g cap w2 hown2 hgrow hgg _
            have hb2 : Below w.heap.size w w2 := (HBQ.out.alloc HBQ.out.size _).grown hgrow (by have := HBQ.out.size; simp; omega) (fun r hr => (HOUT.out.1.lt r hr).1)
            have hlow2 := own_only HLOW.out ((((Only.refl (fun k => u9.ownBlock = some k) wr).alloc _).grown hgrow (fun k hk => .inl hk))) (fun k hk hk' => HAP.out k hk' hk)
            have h8 := (HLOW.out.lt g8 rfl).2
            have hap2 : ∀ r, (Value.slice (some ⟨g, 0, none⟩) (cur.length + 1) cap).ownBlock = some r → (Value.slice (some ⟨g8, 0, none⟩) n c8).ownBlock ≠ some r := by
              intro r hr
              have : g = r := by simpa [Value.ownBlock] using hr
              subst this
              rcases hgg with h | h
              · exact HAP.out g h
              · intro h'
                have : g8 = g := by simpa [Value.ownBlock] using h'
                omega
            have hout2 : OwnB w.heap.size w2 (.slice (some ⟨g, 0, none⟩) (cur.length + 1) cap) (([] : List Bool) ++ unval (v / 2 ^ j) (n - j)) := by
              rw [← HN.out]
              refine ⟨?_, fun h => by simp at h⟩
              rw [List.length_append, bls_append]
              exact hown2
            have H2 := Lib.hid (And.intro hout2 (And.intro hlow2 (And.intro hap2 hb2)))
            clear hout2 hlow2 hap2 hb2 hown2 hgrow hgg hc h8
            go_wp2
            go_roundw
            case rel => exact ⟨j, (j : Int) - 1, by omega, by omega, by go_num, H2.out⟩
            case measure => simp [intOf]
      · have hpos : 0 < bl.length := List.length_pos_iff.2 hb
        obtain ⟨g0, cap0, e0, _, _⟩ := HX.out.1.form hpos
        injection e0 with e1 _ _
        subst e1
        have HXR := Lib.hid (HX.out.later (show Below w.heap.size w wr from HB.out))
        go_wp2_with (at_builtin; refine wpList_append_lies _ rfl _ _ _ (by rfl) w.heap.size 4 i0 (.bool false) 1 1 Try.underlying50 hi hi0 hi1 hi2 rfl (by omega) (.slice none 0 0) 0 [] (by rfl) (World.ownsRow_nil _ _ _ _) ⟨g0, 0, none⟩ bl.length c (bls bl) (by rfl) (by rw [length_bls, Nat.mul_one]) (HXR.out.1.cells (g := g0) rfl) (bls_one bl) hpos (by unfold maxLen; omega) (by omega) HB.out.size wr.heap.size rfl ?_)
        intro g cap w1 hown1 hgrow1 hgg1 _
        have hb1 : Below w.heap.size w w1 := HB.out.grown hgrow1 HB.out.size (fun r hr => by simp [Value.ownBlock] at hr)
        have hlow1 := own_only HO.out ((Only.refl (fun _ => False) wr).grown hgrow1 (fun k hk => by simp [Value.ownBlock] at hk)) (fun _ _ h => h)
        have hap1 : ∀ r, (Value.slice (some ⟨g, 0, none⟩) (bl.length) cap).ownBlock = some r → (Value.slice A8 n c8).ownBlock ≠ some r := by
          intro r hr
          have : g = r := by simpa [Value.ownBlock] using hr
          subst this
          rcases hgg1 with h | h
          · simp [Value.ownBlock] at h
          · intro h'
            have := (HO.out.lt g h').2
            omega
        have hout1 : OwnB w.heap.size w1 (.slice (some ⟨g, 0, none⟩) (bl.length) cap) (bl ++ unval (v / 2 ^ n) (n - n)) := by
          rw [Nat.sub_self, unval, List.append_nil]
          refine ⟨?_, fun h => absurd h hb⟩
          exact hown1
        have H1 := Lib.hid (And.intro hout1 (And.intro hlow1 (And.intro hap1 hb1)))
        clear hout1 hlow1 hap1 hb1 hown1 hgrow1 hgg1 HXR
        go_wp2_with fail
        go_loopw [9, 11] (fun o i wq => ∃ (m : Nat) (z : Int), m ≤ n ∧ z + 1 = m ∧ i = .int .i64 z ∧ OwnB w.heap.size wq o (bl ++ unval (v / 2 ^ m) (n - m)) ∧ wq.ownsRow w.heap.size 4 1 (.slice A8 n c8) n (bls (lows v n)) ∧ (∀ r, o.ownBlock = some r → (Value.slice A8 n c8).ownBlock ≠ some r) ∧ Below w.heap.size w wq) (fun _ i _ => (intOf i + 1).toNat)
        case atStart => exact ⟨n, (n : Int) - 1, by omega, by omega, rfl, H1.out⟩
        case round =>
          obtain ⟨m, z, hm, hz, rfl, hout, hlow, hap, hbq⟩ := hrel
          have HOUT := Lib.hid hout
          have HLOW := Lib.hid hlow
          have HAP := Lib.hid hap
          have HBQ := Lib.hid hbq
          clear hout hlow hap hbq HO HB HX
          rcases Nat.eq_zero_or_pos m with h0 | h0
          · subst h0
            obtain rfl : z = -1 := by omega
            go_wp2
            refine bodyPost_ret (v := .tuple #[u9, .int .i64 0]) (by simp [results, Try.results95, go_sem]) rfl ⟨_, rfl, ?_, HBQ.out⟩
            have h1 := HOUT.out
            rw [Nat.pow_zero, Nat.div_one, Nat.sub_zero] at h1
            exact h1
          · obtain ⟨j, rfl⟩ : ∃ j, m = j + 1 := ⟨m - 1, by omega⟩
            obtain rfl : z = (j : Int) := by omega
            obtain ⟨g8, c8', e8, _, _⟩ := HLOW.out.form (by omega)
            injection e8 with e8 _ e9
            subst e8
            subst e9
            have hc := (HLOW.out.cellAt j (by omega)).trans (bls_at (lows_at (v := v) (show j < n by omega)))
            have hj0 : (0 : Int) ≤ (j : Int) := by omega
            have hj1 : (j : Int) < (n : Int) := by omega
            have hnext : (bl ++ unval (v / 2 ^ (j + 1)) (n - (j + 1))) ++ [v / 2 ^ j % 2 == 1] = bl ++ unval (v / 2 ^ j) (n - j) := by
              have e1 : n - j = n - (j + 1) + 1 := by omega
              rw [e1, unval, half_pow, List.append_assoc]
            have hlen : (bl ++ unval (v / 2 ^ (j + 1)) (n - (j + 1))).length < 65536 := by
              rw [List.length_append, length_unval]
              omega
            generalize bl ++ unval (v / 2 ^ (j + 1)) (n - (j + 1)) = cur at *
            generalize (v / 2 ^ j % 2 == 1) = bit at *
            have HN := Lib.hid hnext
            clear hnext
            go_wp2_with (at_builtin; go_loud (refine wpList_append_lies _ rfl _ _ _ (by rfl) w.heap.size 4 i0 (.bool false) 1 1 Try.underlying50 hi hi0 hi1 hi2 rfl (by omega) u9 cur.length _ (by rfl) (HOUT.out.1.alloc _) ⟨wr.heap.size, 0, none⟩ 1 1 [.bool bit] (by rfl) (by rfl) (cell_one_new _ _ _) (fun u hu => by simp at hu; subst hu; rfl) (by omega) (by unfold maxLen; omega) (by omega) (by have := HBQ.out.size; simp; omega) (wr.heap.size + 1) (by simp) ?_))
            intro g cap w2 hown2 hgrow hgg _
            have hb2 : Below w.heap.size w w2 := (HBQ.out.alloc HBQ.out.size _).grown hgrow (by have := HBQ.out.size; simp; omega) (fun r hr => (HOUT.out.1.lt r hr).1)
            have hlow2 := own_only HLOW.out ((((Only.refl (fun k => u9.ownBlock = some k) wr).alloc _).grown hgrow (fun k hk => .inl hk))) (fun k hk hk' => HAP.out k hk' hk)
            have h8 := (HLOW.out.lt g8 rfl).2
            have hap2 : ∀ r, (Value.slice (some ⟨g, 0, none⟩) (cur.length + 1) cap).ownBlock = some r → (Value.slice (some ⟨g8, 0, none⟩) n c8).ownBlock ≠ some r := by
              intro r hr
              have : g = r := by simpa [Value.ownBlock] using hr
              subst this
              rcases hgg with h | h
              · exact HAP.out g h
              · intro h'
                have : g8 = g := by simpa [Value.ownBlock] using h'
                omega
            have hout2 : OwnB w.heap.size w2 (.slice (some ⟨g, 0, none⟩) (cur.length + 1) cap) (bl ++ unval (v / 2 ^ j) (n - j)) := by
              rw [← HN.out]
              refine ⟨?_, fun h => by simp at h⟩
              rw [List.length_append, bls_append]
              exact hown2
            have H2 := Lib.hid (And.intro hout2 (And.intro hlow2 (And.intro hap2 hb2)))
            clear hout2 hlow2 hap2 hb2 hown2 hgrow hgg hc h8
            go_wp2
            go_roundw
            case rel => exact ⟨j, (j : Int) - 1, by omega, by omega, by go_num, H2.out⟩
            case measure => simp [intOf]
end Go.Proofs.Ytjonkpdjhjobfaa
namespace Go.Proofs.Ytjonkpdjhjobfaa
open Go.RowKit

/-- where the elements of a slice of bits lie -/
def SrcB (w : World) (A : Option Addr) (xs : List Value) : Prop := 0 < xs.length → ∃ b off, A = some ⟨b, off, none⟩ ∧ ∀ j u, xs[j]? = some u → w.cell? ⟨b, off + j, none⟩ = some u
theorem SrcB.later {w v : World} {A : Option Addr} {xs : List Value} (h : SrcB w A xs) (hb : Below w.heap.size w v) : SrcB v A xs := by
  intro h0
  obtain ⟨b, off, hA, hc⟩ := h h0
  exact ⟨b, off, hA, fun j u hu => kept_box hb (hc j u hu)⟩
theorem OwnB.src {B : Nat} {w : World} {A : Option Addr} {n c : Nat} {bl : List Bool} (h : OwnB B w (.slice A n c) bl) : SrcB w A (bls bl) := by
  intro h0
  rw [length_bls] at h0
  obtain ⟨g, cap, e, _, _⟩ := h.1.form h0
  injection e with e1 e2 _
  subst e1
  refine ⟨g, 0, rfl, fun j u hu => ?_⟩
  have h1 := h.1.cells (g := g) rfl j u hu
  rw [add_zero_addr] at h1
  rw [Nat.zero_add]
  exact h1

theorem conv_own {w : World} {B : Nat} {x : Value} {n : Nat} {l : List Nat} (h : w.ownsRow B 5 1 x n (bts l)) (hb : ∀ b ∈ l, b < 256) :
    (convert 38 9 x).run Try.prog w = .ok (.string (strOf l)) w := by
  have hl : l.length = n := by
    have := h.1
    rw [length_bts, Nat.mul_one] at this
    exact this
  rcases h.2 with ⟨rfl, h0⟩ | ⟨g, cap, cur, rfl, _⟩
  · have e : l = [] := List.eq_nil_of_length_eq_zero (by omega)
    subst e
    exact run_convert_bytes_nil w 38 5 Try.underlying38 Try.underlying5 0 0 9 Try.underlying9
  · have hx := run_convert_bytes_back (P := Try.prog) w 38 9 5 ⟨g, 0, none⟩ cap (l.map UInt8.ofNat) Try.underlying38 Try.underlying5 Try.underlying9 (fun j hj => by
      have hj' : j < l.length := by simpa using hj
      have h1 : (bts l)[j]? = some (.int .u8 (l[j] : Nat)) := bts_at (List.getElem?_eq_getElem hj')
      rw [h.cells (g := g) rfl j _ h1, List.getElem_map]
      have h3 : (UInt8.ofNat l[j]).toNat = l[j] := UInt8.toNat_ofNat_of_lt' (hb _ (List.getElem_mem hj'))
      rw [h3])
    rw [List.length_map, hl] at hx
    exact hx

/-- the first bytes; the first bits of one -/
def packTo (bl : List Bool) (m : Nat) : List Nat := (List.range m).map (byteAt bl)
theorem packTo_succ (bl : List Bool) (m : Nat) : packTo bl (m + 1) = packTo bl m ++ [byteAt bl m] := by simp [packTo, List.range_succ]
def eightTo (bl : List Bool) (m k : Nat) : List Bool := (List.range k).map fun j => bl.getD (8 * m + j) false
theorem eightTo_succ (bl : List Bool) (m k : Nat) : val (eightTo bl m (k + 1)) = 2 * val (eightTo bl m k) + (bl.getD (8 * m + k) false).toNat := by
  unfold eightTo
  rw [List.range_succ, List.map_append, List.map_singleton, val_snoc]
theorem eightTo_lt (bl : List Bool) (m k : Nat) (h : k < 8) : val (eightTo bl m k) < 128 := by
  have h1 := val_lt (eightTo bl m k)
  have h2 : (eightTo bl m k).length = k := by simp [eightTo]
  rw [h2] at h1
  exact Nat.lt_of_lt_of_le h1 (Nat.le_trans (Nat.pow_le_pow_right (by omega) (show k ≤ 7 by omega)) (by decide))

set_option maxRecDepth 100000 in
set_option maxHeartbeats 3200000 in
theorem refbytes_any {w : World} {A : Option Addr} {bl : List Bool} (c : Nat) (hs : SrcB w A (bls bl)) (hn : bl.length ≤ 65536) :
    Calls Try.prog 97 #[.slice A bl.length c] w fun e w' => ∃ x', e = .returned x' ∧ w'.ownsRow w.heap.size 5 1 x' (packLen bl.length) (bts (pack bl)) ∧ Below w.heap.size w w' := by
  obtain ⟨i0, hi, hi0, hi1, hi2⟩ := info5_parts
  have HS := Lib.hid hs
  clear hs
  go_enter Try.func97, Try.ntmps97
  go_wp2
  go_loopw [3, 4] (fun o i wr => ∃ m : Nat, 8 * m < bl.length + 8 ∧ i = .int .i64 (8 * (m : Int)) ∧ wr.ownsRow w.heap.size 5 1 o m (bts (packTo bl m)) ∧ Below w.heap.size w wr) (fun _ i _ => bl.length + 8 - (intOf i).toNat)
  case atStart => exact ⟨0, by omega, rfl, World.ownsRow_nil _ _ _ _, Below.refl _ _⟩
  case round =>
    obtain ⟨m, hm, rfl, hown, hbr⟩ := hrel
    have HO := Lib.hid hown
    have HB := Lib.hid hbr
    clear hown hbr
    obtain ⟨w1, rfl⟩ : ∃ w1, w1 = wr := ⟨wr, rfl⟩
    by_cases hlt : 8 * m < bl.length
    · have hdec : 8 * (m : Int) < (bl.length : Int) := by omega
      go_wp2
      go_loopw [5, 6] (fun y i wq => ∃ k : Nat, k ≤ 8 ∧ y = .int .u8 ((val (eightTo bl m k) : Nat) : Int) ∧ i = .int .i64 k ∧ w1 = wq) (fun _ i _ => 8 - (intOf i).toNat)
      case atStart => exact ⟨0, by omega, rfl, rfl, rfl⟩
      case round =>
        obtain ⟨k, hk, rfl, rfl, rfl⟩ := hrel
        rcases Nat.lt_or_ge k 8 with hk8 | hk8
        · have hv := eightTo_lt bl m k hk8
          have hnx := eightTo_succ bl m k
          generalize val (eightTo bl m k) = q at *
          by_cases hin : 8 * m + k < bl.length
          · obtain ⟨b, off, rfl, hc⟩ := HS.out (by rw [length_bls]; omega)
            have hget : bl[8 * m + k]? = some bl[8 * m + k] := List.getElem?_eq_getElem hin
            rw [List.getD_eq_getElem?_getD, hget, Option.getD_some] at hnx
            have hcell := kept_box HB.out (hc _ _ (bls_at hget))
            generalize bl[8 * m + k] = bit at *
            have HN := Lib.hid hnx
            clear hnx hget hc
            cases bit
            · go_wp2
              go_roundw
              case rel => exact ⟨k + 1, by omega, by rw [HN.out]; go_num, by go_num, trivial⟩
              case measure => simp [intOf]; omega
            · go_wp2
              go_roundw
              case rel => exact ⟨k + 1, by omega, by rw [HN.out]; go_num, by go_num, trivial⟩
              case measure => simp [intOf]; omega
          · rw [List.getD_eq_getElem?_getD, List.getElem?_eq_none (by omega), Option.getD_none] at hnx
            have HN := Lib.hid hnx
            clear hnx
            go_wp2
            go_roundw
            case rel => exact ⟨k + 1, by omega, by rw [HN.out]; go_num, by go_num, trivial⟩
            case measure => simp [intOf]; omega
        · obtain rfl : k = 8 := by omega
          have hlt8 := byteAt_lt bl m
          rw [show val (eightTo bl m 8) = byteAt bl m from rfl]
          have hpk := Lib.hid (packTo_succ bl m)
          generalize byteAt bl m = q at *
          go_wp2_with (at_builtin; go_loud (refine wpList_append_lies _ rfl _ _ _ (by rfl) w.heap.size 5 i0 (.int .u8 0) 1 1 Try.underlying38 hi hi0 hi1 hi2 rfl (by omega) u3 m _ (by rfl) (HO.out.alloc _) ⟨w1.heap.size, 0, none⟩ 1 1 [.int .u8 q] (by rfl) (by rfl) (cell_one_new _ _ _) (fun u hu => by simp at hu; subst hu; rfl) (by omega) (by unfold maxLen; omega) (by omega) (by have := HB.out.size; simp; omega) (w1.heap.size + 1) (by simp) ?_))
          intro g cap w2 hown2 hgrow _ _
          have hb2 : Below w.heap.size w w2 := (HB.out.alloc HB.out.size _).grown hgrow (by have := HB.out.size; simp; omega) (fun r hr => (HO.out.lt r hr).1)
          have hown3 : w2.ownsRow w.heap.size 5 1 (.slice (some ⟨g, 0, none⟩) (m + 1) cap) (m + 1) (bts (packTo bl (m + 1))) := by rw [hpk.out, bts_append]; exact hown2
          have H2 := Lib.hid (And.intro hown3 hb2)
          clear hown2 hgrow hown3 hb2
          go_wp2
          go_roundw
          case rel => exact ⟨m + 1, by omega, by go_num, H2.out⟩
          case measure => simp [intOf]; omega
    · go_wp2
      go_ret
      refine ⟨_, rfl, ?_, HB.out⟩
      have hmp : packLen bl.length = m := by unfold packLen; omega
      rw [hmp]
      have hpp : pack bl = packTo bl m := by rw [← hmp]; rfl
      rw [hpp]
      exact HO.out
end Go.Proofs.Ytjonkpdjhjobfaa
namespace Go.Proofs.Ytjonkpdjhjobfaa
open Go.RowKit

/-- one more bit behind a list of the call's own -/
theorem OwnB.more {B g cap : Nat} {w0 w w2 : World} {x : Value} {bl : List Bool} {bit : Bool} {o : Obj} (h : OwnB B w x bl) (hb : Below B w0 w) (hB : B ≤ w.heap.size) (hown : w2.ownsRow B 4 1 (.slice (some ⟨g, 0, none⟩) (bl.length + 1) cap) (bl.length + 1) (bls bl ++ [.bool bit]))
    (hgrow : (w.alloc o).grownBy w2 x.ownBlock) : OwnB B w2 (.slice (some ⟨g, 0, none⟩) (bl.length + 1) cap) (bl ++ [bit]) ∧ Below B w0 w2 := by
  refine ⟨⟨?_, fun h => by simp at h⟩, (hb.alloc hB _).grown hgrow (by simp; omega) (fun r hr => (h.1.lt r hr).1)⟩
  rw [List.length_append, bls_append]
  exact hown

end Go.Proofs.Ytjonkpdjhjobfaa
