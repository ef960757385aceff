/-
  The document's answers for sums: More, Close, Open.
-/
import Derived.Test.YtcpjalkonfjgbaaCheckC
import Derived.Test.YtcpjalkonfjgbaaRefBytes
namespace Go.Proofs.Ytcpjalkonfjgbaa
open Go.RowKit

theorem T_low {s : Nat} (h : s < 32768) : T s = 2 * s := by rw [T_small h, Nat.mul_comm]
theorem T_high {s : Nat} (h : 32768 ≤ s) (h2 : s < 65536) : T s = (2 * s - 65536) ^^^ 4129 := by
  unfold T
  rw [show s / 32768 = 1 by omega, Nat.one_mul, show 2 * s % 65536 = 2 * s - 65536 by omega]
theorem mb_go32 (s x : Nat) (hs : s < 65536) (hx : x < 256) : bits .xor .u32 (s : Int) (256 * (x : Int)) = ((s ^^^ 256 * x : Nat) : Int) := by
  have h1 : 256 * (x : Int) = ((256 * x : Nat) : Int) := by omega
  rw [h1, u32_xor_nat _ _ (by omega) (by omega)]
theorem T_go32 (s : Nat) (h : 32768 ≤ s) (h2 : s < 65536) : bits .xor .u32 (2 * (s : Int) - 65536) 4129 = ((T s : Nat) : Int) := by
  have h1 : 2 * (s : Int) - 65536 = ((2 * s - 65536 : Nat) : Int) := by omega
  have h3 : (4129 : Int) = ((4129 : Nat) : Int) := rfl
  rw [h1, h3, u32_xor_nat _ _ (by omega) (by omega), T_high h h2]

set_option maxRecDepth 100000 in
set_option maxHeartbeats 1600000 in
theorem refmore_any {A : Option Addr} {cap : Nat} {l : List Nat} (s n : Nat) (hn : l.length = n) (hs : s < 65536) (hm : n ≤ maxLen) (w : World) (hsrc : Src w A (bts l)) (hb : ∀ b ∈ l, b < 256) :
    Calls Try.prog 14 #[.int .u16 s, .slice A n cap] w fun e w' => e = .returned (.int .u16 (more s l)) ∧ w = w' := by
  have HN := Lib.hid hn
  have HS := Lib.hid hsrc
  have HB := Lib.hid hb
  clear hn hsrc hb
  unfold maxLen at hm
  go_enter Try.func14, Try.ntmps14
  go_wp2
  go_loopw [5, 6] (fun v i wr => ∃ k m : Nat, k ≤ n ∧ m < 65536 ∧ v = .int .u32 m ∧ i = .int .i64 k ∧ Hid (m = more s (l.take k)) ∧ w = wr) (fun _ i _ => n - (intOf i).toNat)
  case atStart => exact ⟨0, s, by omega, hs, by first | rfl | go_num, rfl, rfl, rfl⟩
  case round =>
    obtain ⟨k, m, hk, hm', rfl, rfl, HQ, rfl⟩ := hrel
    by_cases hlt : k < n
    · have hkl : k < l.length := by have := HN.out; omega
      have hx : l[k]? = some l[k] := List.getElem?_eq_getElem hkl
      obtain ⟨ad, rfl, hc⟩ := HS.out (by rw [length_bts]; omega)
      have hcell := hc _ _ (bts_at hx)
      have hxb := HB.out _ (List.getElem_mem hkl)
      have hst := more_take_succ (s := s) hkl
      generalize l[k] = x at *
      have HST := Lib.hid hst
      have hg := mb_go32 m x hm' hxb
      have hlt2 : (k : Int) < (n : Int) := by omega
      have hk0 : (0 : Int) ≤ (k : Int) := by omega
      have hxl : m ^^^ 256 * x < 65536 := xor_lt' hm' (by omega)
      have HMB := Lib.hid (show mb m x = Tn 8 (m ^^^ 256 * x) from rfl)
      generalize m ^^^ 256 * x = z at *
      clear hc hx hst
      go_wp2
      go_loopw [5, 7] (fun v j wr => ∃ (q y : Nat), q ≤ 8 ∧ y < 65536 ∧ v = .int .u32 y ∧ j = .int .i64 q ∧ Hid (y = Tn q z) ∧ w = wr) (fun _ j _ => 8 - (intOf j).toNat)
      case atStart => exact ⟨0, z, by omega, hxl, by first | rfl | (rw [hg]), rfl, rfl, rfl⟩
      case round =>
        obtain ⟨q, y, hq, hy, rfl, rfl, HY, rfl⟩ := hrel
        rcases Nat.lt_or_ge q 8 with hq8 | hq8
        · rcases Nat.lt_or_ge y 32768 with hy1 | hy1
          · have HT := Lib.hid (T_low hy1)
            have hno : ¬ (65536 : Int) ≤ 2 * (y : Int) := by omega
            have hTl := T_lt hy
            go_wp2
            go_roundw
            case rel => exact ⟨q + 1, T y, by omega, hTl, by rw [HT.out]; go_num, by go_num, by rw [HY.out]; rfl, trivial⟩
            case measure => simp [intOf]; omega
          · have HT := Lib.hid (T_go32 y hy1 hy)
            have hyes : (65536 : Int) ≤ 2 * (y : Int) := by omega
            have hTl := T_lt hy
            go_wp2
            go_roundw
            case rel => exact ⟨q + 1, T y, by omega, hTl, by rw [← HT.out], by go_num, by rw [HY.out]; rfl, trivial⟩
            case measure => simp [intOf]; omega
        · obtain rfl : q = 8 := by omega
          go_wp2
          go_roundw
          case rel => exact ⟨k + 1, y, by omega, hy, rfl, by go_num, by rw [HY.out, HST.out, ← HQ.out, HMB.out]; exact Lib.hid rfl, trivial⟩
          case measure => simp [intOf]; omega
    · obtain rfl : k = n := by omega
      have HQ2 := Lib.hid (show m = more s l by rw [HQ.out, ← HN.out, List.take_length])
      go_wp2
      go_ret
      exact ⟨by rw [HQ2.out]; first | rfl | skip, rfl⟩

theorem run_append_empty {P : Program} (w : World) (t ty e : TypeId) (i : TypeInfo) (ht : P.underlying t = some (.slice e)) (hi : P.info? e = some i) (A : Option Addr) (c : Nat) :
    (Builtin.append_ #[t, t] ty #[.slice none 0 0, .slice A 0 c]).run P w = .ok (.slice none 0 0) w := by
  cases A <;> simp [Builtin.append_, run_underlying ht, sizeOf, typeInfo, hi, Builtin.lenOf, Builtin.firstCells, loadCells, loadCellsFrom]
theorem wpList_append_empty {P : Program} (w : World) {ops : Array Oper} {rest : List Oper} {o : Oper} {a : Act} {Q : Exit → Act → World → Prop} (hgd : o.guard = none) (s x : Operand) (t : TypeId)
    (ho : o.op = .call { callee := .builtin .append, args := #[s, x], argTypes := #[t, t] }) (e : TypeId) (i : TypeInfo) (ht : P.underlying t = some (.slice e)) (hi : P.info? e = some i)
    (hs : a.eval s = .slice none 0 0) (A : Option Addr) (c : Nat) (hx : a.eval x = .slice A 0 c) (h : wpList P ops Q rest (a.put o.dst (.slice none 0 0)) w) : wpList P ops Q (o :: rest) a w := by
  refine wpList_plain hgd fun K hK => ?_
  unfold Oper.wp execOp
  simp only [ho, resolve, invoke, builtin, Sem.run_bind, Sem.run_pure, Result.andThen_ok, List.map_toArray, List.map_cons, List.map_nil, hs, hx, run_append_empty w t o.type e i ht hi]
  exact hK _ _ h

theorem two_new (w : World) (u v : Value) : ∀ j x, [u, v][j]? = some x → (w.alloc (.cells #[u, v] 5)).cell? ((⟨w.heap.size, 0, none⟩ : Addr).add j) = some x := by
  intro j x hx
  rw [add_zero_addr]
  exact (Row.made w 5 #[u, v]).read (by simpa using hx)

theorem two_one (a b : Int) : ∀ u ∈ [Value.int .u8 a, .int .u8 b], u.oneCell' = true := by
  intro u hu
  simp at hu
  rcases hu with rfl | rfl <;> rfl

set_option maxRecDepth 100000 in
set_option maxHeartbeats 1600000 in
theorem refclose_any {A : Option Addr} {cap : Nat} {l : List Nat} (n : Nat) (hn : l.length = n) (hm : n ≤ 3000) (w : World) (hsrc : Src w A (bts l)) (hb : ∀ b ∈ l, b < 256) :
    Calls Try.prog 17 #[.slice A n cap] w fun e w' => ∃ x, e = .returned x ∧ w'.ownsRow w.heap.size 5 1 x (n + 2) (bts (closed l)) ∧ Below w.heap.size w w' := by
  obtain ⟨i0, hi, hi0, hi1, hi2⟩ := info5_parts
  have HC := Lib.hid (refmore_any (cap := cap) 65535 n hn (by omega) (by unfold maxLen; omega) w hsrc hb)
  have hlt := more_lt (s := 65535) (by omega) hb
  have HCL := Lib.hid (show closed l = l ++ [more 65535 l / 256, more 65535 l % 256] from rfl)
  generalize more 65535 l = s at *
  have HS := Lib.hid hsrc
  have hlen : (bts l).length = n := by rw [length_bts]; exact hn
  have HL := Lib.hid hlen
  have HN := Lib.hid hn
  have hu1 : IntKind.u8.wrap ((s : Int) / 256) = ((s / 256 : Nat) : Int) := by rw [IntKind.wrap_u8]; omega
  have hu2 : IntKind.u8.wrap ((s : Int) % 256) = ((s % 256 : Nat) : Int) := by rw [IntKind.wrap_u8]; omega
  clear hsrc hb hlen hn
  have hbt : bts [s / 256, s % 256] = [.int .u8 ((s : Int) / 256), .int .u8 ((s : Int) % 256)] := rfl
  have HBT := Lib.hid hbt
  clear hbt
  rcases Nat.eq_zero_or_pos n with h0 | h0
  · subst h0
    have HLN := Lib.hid (List.eq_nil_of_length_eq_zero HN.out)
    go_enter Try.func17, Try.ntmps17
    go_wp2_with (first
      | (go_at_call 14; refine HC.out.mono ?_; rintro e w1 ⟨rfl, rfl⟩)
      | (at_builtin; refine wpList_append_empty _ rfl _ _ _ (by rfl) 5 i0 Try.underlying23 hi (by rfl) A cap (by rfl) ?_)
      | (at_builtin; refine wpList_append_lies _ rfl _ _ _ (by rfl) w.heap.size 5 i0 (.int .u8 0) 1 1 Try.underlying23 hi hi0 hi1 hi2 rfl (by omega) (.slice none 0 0) 0 [] (by rfl) (World.ownsRow_nil _ _ _ _) ⟨w.heap.size, 0, none⟩ 2 2 [.int .u8 ((s : Int) / 256), .int .u8 ((s : Int) % 256)] (by rfl) (by rfl) (two_new _ _ _) (two_one _ _) (by omega) (by unfold maxLen; omega) (by omega) (by simp) (w.heap.size + 1) (by simp) ?_))
    intro g c2 w2 hown hgrow _ _
    have hb2 : Below w.heap.size w w2 := ((Below.refl w.heap.size w).alloc (Nat.le_refl _) _).grown hgrow (by simp) (fun r hr => by simp [Value.ownBlock] at hr)
    have HO := Lib.hid (show w2.ownsRow w.heap.size 5 1 (.slice (some ⟨g, 0, none⟩) 2 c2) 2 (bts (closed l)) by
      rw [HCL.out, HLN.out, List.nil_append, HBT.out]
      exact hown)
    clear hown hgrow
    go_wp2
    go_ret
    exact ⟨_, rfl, HO.out, hb2⟩
  · obtain ⟨ad, rfl, hcs⟩ := HS.out (by rw [HL.out]; exact h0)
    have HCS := Lib.hid hcs
    clear hcs
    go_enter Try.func17, Try.ntmps17
    go_wp2_with (first
      | (go_at_call 14; refine HC.out.mono ?_; rintro e w1 ⟨rfl, rfl⟩)
      | (at_builtin; refine wpList_append_lies _ rfl _ _ _ (by rfl) w.heap.size 5 i0 (.int .u8 0) 1 1 Try.underlying23 hi hi0 hi1 hi2 rfl (by omega) (.slice none 0 0) 0 [] (by rfl) (World.ownsRow_nil _ _ _ _) ad n cap (bts l) (by rfl) (by rw [HL.out, Nat.mul_one]) HCS.out (bts_one l) h0 (by unfold maxLen; omega) (by omega) (Nat.le_refl _) w.heap.size rfl ?_))
    intro g c1 w1 hown hgrow _ _
    have hb1 : Below w.heap.size w w1 := (Below.refl w.heap.size w).grown hgrow (Nat.le_refl _) (fun r hr => by simp [Value.ownBlock] at hr)
    have HO1 := Lib.hid hown
    have HB1 := Lib.hid hb1
    have hsz1 := hb1.size
    clear hown hgrow hb1
    go_wp2_with (at_builtin; refine wpList_append_lies _ rfl _ _ _ (by rfl) w.heap.size 5 i0 (.int .u8 0) 1 1 Try.underlying23 hi hi0 hi1 hi2 rfl (by omega) (.slice (some ⟨g, 0, none⟩) n c1) n (bts l) (by first | rfl | simp) (HO1.out.alloc _) ⟨w1.heap.size, 0, none⟩ 2 2 [.int .u8 ((s : Int) / 256), .int .u8 ((s : Int) % 256)] (by rfl) (by rfl) (two_new _ _ _) (two_one _ _) (by omega) (by unfold maxLen; omega) (by omega) (by simp; omega) (w1.heap.size + 1) (by simp) ?_)
    intro g2 c2 w2 hown hgrow _ _
    have hb2 : Below w.heap.size w w2 := (HB1.out.alloc hsz1 _).grown hgrow (by simp; omega) (fun r hr => (HO1.out.lt r hr).1)
    have HO := Lib.hid (show w2.ownsRow w.heap.size 5 1 (.slice (some ⟨g2, 0, none⟩) (n + 2) c2) (n + 2) (bts (closed l)) by
      rw [HCL.out, bts_append, HBT.out]
      exact hown)
    clear hown hgrow
    go_wp2
    go_ret
    exact ⟨_, rfl, HO.out, hb2⟩
end Go.Proofs.Ytcpjalkonfjgbaa
