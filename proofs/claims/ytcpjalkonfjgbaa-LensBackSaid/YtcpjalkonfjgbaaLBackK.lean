/-
  LensBack: lengths go there and back, whatever stands behind them; and what is read has, written, the bytes that it was read from: the law walked.
-/
import Derived.Test.YtcpjalkonfjgbaaLReads
import Derived.Deep.RegionHeld3
import Derived.Test.YtcpjalkonfjgbaaHand
namespace Go.Proofs.Ytcpjalkonfjgbaa
open Go.RowKit

theorem src_preA {w : World} {A : Option Addr} {l : List Nat} (k : Nat) (h : Src w A (bts l)) : Src w A (bts (l.take k)) := by
  intro h0
  have hl : (bts (l.take k)).length ≤ (bts l).length := by rw [length_bts, length_bts, List.length_take]; omega
  obtain ⟨ad, hA, hc⟩ := h (by omega)
  refine ⟨ad, hA, fun j u hu => hc j u ?_⟩
  have e : bts (l.take k) = (bts l).take k := by simp [bts, List.map_take]
  rw [e, List.getElem?_take] at hu
  split at hu
  · exact hu
  · cases hu
theorem conv_srcA {w : World} {A : Option Addr} {c : Nat} {l : List Nat} (h : Src w A (bts l)) (hb : ∀ b ∈ l, b < 256) :
    (convert 23 9 (.slice A l.length c)).run Try.prog w = .ok (.string (strOf l)) w := by
  cases hl : l with
  | nil => exact run_convert_bytes_zero w 23 5 Try.underlying23 (by kernel_rfl) A c 9 (by kernel_rfl)
  | cons b0 r =>
    rw [← hl]
    obtain ⟨ad, rfl, hc⟩ := h (by rw [length_bts, hl]; simp)
    have hx := run_convert_bytes_back (P := Try.prog) w 23 9 5 ad c (l.map UInt8.ofNat) Try.underlying23 (by kernel_rfl) (by kernel_rfl) (fun j hj => by
      have hj' : j < l.length := by simpa using hj
      have h2 := hc j _ (bts_at (List.getElem?_eq_getElem hj'))
      rw [h2, List.getElem_map]
      have h3 : (UInt8.ofNat l[j]).toNat = l[j] := UInt8.toNat_ofNat_of_lt' (hb _ (List.getElem_mem hj'))
      rw [h3])
    rw [List.length_map] at hx
    exact hx

/-- what is read of bytes, and written again -/
theorem read_again {bs : List Nat} (x : Int) (n : Nat) (hn : bs.length = n) (hm : n ≤ 3000) (hb : ∀ b ∈ bs, b < 256) : ∃ (f gE : Int) (k : Nat) (S : ByteArray), (f = 0 → gE = 0 ∧ k ≤ n) ∧
    ∀ W A cap, n ≤ cap → Src W A (bts bs) → Calls Try.prog 23 #[.slice A n cap, .int .i64 x] W fun e w' => ∃ Am lm cm, e = .returned (.tuple #[.slice Am lm cm, .int .i64 (k : Int), .int .i64 f]) ∧ Below W.heap.size W w' ∧
      (∀ W', Below w'.heap.size w' W' → Calls Try.prog 19 #[.slice Am lm cm, .int .i64 x] W' fun e w'' => ∃ Ay ky cy, e = .returned (.tuple #[.slice Ay ky cy, .int .i64 gE]) ∧ Below W'.heap.size W' w'' ∧ (f = 0 → ∀ W3, Below w''.heap.size w'' W3 → (convert 23 9 (.slice Ay ky cy)).run Try.prog W3 = .ok (.string S) W3)) ∧
      (f = 0 → ∀ W3, Below W.heap.size W W3 → (convert 23 9 (.slice A k cap)).run Try.prog W3 = .ok (.string S) W3) := by
  cases hx : okW x
  · refine ⟨9, 9, 0, strOf [], fun h => absurd h (by decide), fun W A cap _ _ => ?_⟩
    refine (read_kind A n cap W hx).mono ?_
    rintro e w' ⟨rfl, rfl⟩
    refine ⟨none, 0, 0, rfl, Below.refl _ _, fun W' _ => ?_, fun h => absurd h (by decide)⟩
    refine (write_bad _ x 9 W' (by decide) (fault_kind _ W' hx)).mono ?_
    rintro e w'' ⟨rfl, rfl⟩
    exact ⟨none, 0, 0, rfl, Below.refl _ _, fun h => absurd h (by decide)⟩
  · rcases okW_nat hx with rfl | rfl
    · obtain ⟨l, k, er, hr⟩ : ∃ l k er, readF bs 11 = (l, k, er) := ⟨_, _, _, rfl⟩
      by_cases he : er = 0
      · subst he
        obtain ⟨h0, h23, hrg, hkn, hkp, hpk⟩ := read_write hb hr
        have hlen : (l.map (fun n : Nat => (n : Int))).length = l.length := by simp
        have hl0 : 1 ≤ l.length := by have := List.length_pos_iff.2 h0; omega
        refine ⟨0, 0, k, strOf (bs.take k), fun _ => ⟨rfl, by omega⟩, fun W A cap hc hs => ?_⟩
        refine (read_11 n cap W hn (by omega) hc hs hb).mono ?_
        rintro e w' ⟨h, hbl⟩
        rw [hr] at h
        rcases h with ⟨_, u, rfl, hu⟩ | ⟨h, _⟩
        · obtain ⟨Ay, rfl, _⟩ := hu.read
          have hsr : Src w' Ay (insN l) := src_ints hu
          rw [hlen]
          refine ⟨Ay, _, _, rfl, hbl, fun W' hb' => ?_, fun _ W3 hb3 => ?_⟩
          · refine (write_ok_11 (L := l) l.length l.length W' rfl hl0 h23 hrg (src_laterV hsr hb')).mono ?_
            rintro e w'' ⟨g, rfl, _, hrow, hb''⟩
            refine ⟨_, _, _, rfl, hb'', fun _ W3 hb3 => ?_⟩
            have h9 := conv_str (c := packLen (l.length * (11 + 1))) (hrow.later hb3) (pack_small _)
            rw [length_pack, length_wbl, hpk] at h9
            exact h9
          · have h9 := conv_srcA (c := cap) (src_preA k (src_laterV hs hb3)) (fun b hx => hb b (List.mem_of_mem_take hx))
            rw [List.length_take, hn, Nat.min_eq_left (by omega)] at h9
            exact h9
        · exact absurd rfl h
      · refine ⟨er, 4, 0, strOf [], fun h => absurd h he, fun W A cap hc hs => ?_⟩
        refine (read_11 n cap W hn (by omega) hc hs hb).mono ?_
        rintro e w' ⟨h, hbl⟩
        rw [hr] at h
        rcases h with ⟨h, _⟩ | ⟨_, rfl⟩
        · exact absurd h he
        · refine ⟨none, _, _, rfl, hbl, fun W' _ => ?_, fun h => absurd h he⟩
          refine (write_bad _ 11 4 W' (by decide) (fault_11 (l := []) 0 0 W' rfl (by simp [maxLen]) (fun h0 => absurd h0 (by simp [ins])))).mono ?_
          rintro e w'' ⟨rfl, rfl⟩
          exact ⟨none, 0, 0, rfl, Below.refl _ _, fun h => absurd h he⟩
    · obtain ⟨l, k, er, hr⟩ : ∃ l k er, readF bs 15 = (l, k, er) := ⟨_, _, _, rfl⟩
      by_cases he : er = 0
      · subst he
        obtain ⟨h0, h23, hrg, hkn, hkp, hpk⟩ := read_write hb hr
        have hlen : (l.map (fun n : Nat => (n : Int))).length = l.length := by simp
        have hl0 : 1 ≤ l.length := by have := List.length_pos_iff.2 h0; omega
        refine ⟨0, 0, k, strOf (bs.take k), fun _ => ⟨rfl, by omega⟩, fun W A cap hc hs => ?_⟩
        refine (read_15 n cap W hn (by omega) hc hs hb).mono ?_
        rintro e w' ⟨h, hbl⟩
        rw [hr] at h
        rcases h with ⟨_, u, rfl, hu⟩ | ⟨h, _⟩
        · obtain ⟨Ay, rfl, _⟩ := hu.read
          have hsr : Src w' Ay (insN l) := src_ints hu
          rw [hlen]
          refine ⟨Ay, _, _, rfl, hbl, fun W' hb' => ?_, fun _ W3 hb3 => ?_⟩
          · refine (write_ok_15 (L := l) l.length l.length W' rfl hl0 h23 hrg (src_laterV hsr hb')).mono ?_
            rintro e w'' ⟨g, rfl, _, hrow, hb''⟩
            refine ⟨_, _, _, rfl, hb'', fun _ W3 hb3 => ?_⟩
            have h9 := conv_str (c := packLen (l.length * (15 + 1))) (hrow.later hb3) (pack_small _)
            rw [length_pack, length_wbl, hpk] at h9
            exact h9
          · have h9 := conv_srcA (c := cap) (src_preA k (src_laterV hs hb3)) (fun b hx => hb b (List.mem_of_mem_take hx))
            rw [List.length_take, hn, Nat.min_eq_left (by omega)] at h9
            exact h9
        · exact absurd rfl h
      · refine ⟨er, 4, 0, strOf [], fun h => absurd h he, fun W A cap hc hs => ?_⟩
        refine (read_15 n cap W hn (by omega) hc hs hb).mono ?_
        rintro e w' ⟨h, hbl⟩
        rw [hr] at h
        rcases h with ⟨h, _⟩ | ⟨_, rfl⟩
        · exact absurd h he
        · refine ⟨none, _, _, rfl, hbl, fun W' _ => ?_, fun h => absurd h he⟩
          refine (write_bad _ 15 4 W' (by decide) (fault_15 (l := []) 0 0 W' rfl (by simp [maxLen]) (fun h0 => absurd h0 (by simp [ins])))).mono ?_
          rintro e w'' ⟨rfl, rfl⟩
          exact ⟨none, 0, 0, rfl, Below.refl _ _, fun h => absurd h he⟩

set_option maxRecDepth 100000 in
set_option maxHeartbeats 1600000 in
theorem back_guard (A A2 A3 : Option Addr) (n n2 n3 cap cap2 cap3 : Nat) (x : Int) (w : World) (h : 60 < n ∨ 100 < n2 ∨ 200 < n3) :
    Calls Try.prog 8 #[.slice A n cap, .int .i64 x, .slice A2 n2 cap2, .slice A3 n3 cap3] w fun e w' => e = .returned (.bool true) ∧ Below w.heap.size w w' := by
  rcases Nat.lt_or_ge 60 n with h1 | h1
  · have h1' : (60 : Int) < (n : Int) := by omega
    clear h
    go_enter Try.func8, Try.ntmps8
    go_wp2_with (go_at_call 18; refine (lalive_any _).mono ?_; rintro e w1 ⟨rfl, hb1⟩)
    go_ret
    exact ⟨rfl, hb1⟩
  · have h1' : ¬ (60 : Int) < (n : Int) := by omega
    rcases Nat.lt_or_ge 100 n2 with h2 | h2
    · have h2' : (100 : Int) < (n2 : Int) := by omega
      clear h
      go_enter Try.func8, Try.ntmps8
      go_wp2_with (go_at_call 18; refine (lalive_any _).mono ?_; rintro e w1 ⟨rfl, hb1⟩)
      go_ret
      exact ⟨rfl, hb1⟩
    · have h2' : ¬ (100 : Int) < (n2 : Int) := by omega
      have h3' : (200 : Int) < (n3 : Int) := by omega
      clear h
      go_enter Try.func8, Try.ntmps8
      go_wp2_with (go_at_call 18; refine (lalive_any _).mono ?_; rintro e w1 ⟨rfl, hb1⟩)
      go_ret
      exact ⟨rfl, hb1⟩

theorem run_append_zero {P : Program} (w : World) (t ty e : TypeId) (i : TypeInfo) (ht : P.underlying t = some (.slice e)) (hi : P.info? e = some i) (a A : Option Addr) (n c c' : Nat) (hn : n ≤ c) :
    (Builtin.append_ #[t, t] ty #[.slice a n c, .slice A 0 c']).run P w = .ok (.slice a n c) w := by
  cases A <;> cases a <;> simp [Builtin.append_, run_underlying ht, sizeOf, typeInfo, hi, Builtin.lenOf, Builtin.firstCells, loadCells, loadCellsFrom, hn, storeCells]
theorem wpList_append_zero {P : Program} (w : World) {ops : Array Oper} {rest : List Oper} {o : Oper} {a : Act} {Q : Exit → Act → World → Prop} (hgd : o.guard = none) (s x : Operand) (t : TypeId)
    (ho : o.op = .call { callee := .builtin .append, args := #[s, x], argTypes := #[t, t] }) (e : TypeId) (i : TypeInfo) (ht : P.underlying t = some (.slice e)) (hi : P.info? e = some i)
    (a0 : Option Addr) (n c : Nat) (hs : a.eval s = .slice a0 n c) (A : Option Addr) (c' : Nat) (hx : a.eval x = .slice A 0 c') (hn : n ≤ c) (h : wpList P ops Q rest (a.put o.dst (.slice a0 n c)) w) : wpList P ops Q (o :: rest) a w := by
  refine wpList_plain hgd fun K hK => ?_
  unfold Oper.wp execOp
  simp only [ho, resolve, invoke, builtin, Sem.run_bind, Sem.run_pure, Result.andThen_ok, List.map_toArray, List.map_cons, List.map_nil, hs, hx, run_append_zero w t o.type e i ht hi a0 A n c c' hn]
  exact hK _ _ h
theorem own_empty (w1 : World) {B : Nat} (hB : B ≤ w1.heap.size) : (w1.alloc (.cells #[] 5)).ownsRow B 5 1 (.slice (some ⟨w1.heap.size, 0, none⟩) 0 0) 0 [] :=
  ⟨rfl, .inr ⟨w1.heap.size, 0, #[], rfl, hB, heap_alloc_new w1 _, Nat.le_refl _, by simp [maxLen], rfl, rfl⟩⟩
theorem own_cap {B : Nat} {w : World} {A : Option Addr} {n c k : Nat} {e : TypeId} {xs : List Value} (h : w.ownsRow B e 1 (.slice A n c) k xs) : k ≤ c := by
  rcases h.2 with ⟨h0, h1⟩ | ⟨g, cap, cur, h0, h1, h2, h3, _⟩
  · omega
  · injection h0 with _ _ h5
    omega
theorem row_cells {w : World} {g : Nat} {xs : List Value} (h : Row w g 5 xs.toArray) : ∀ j u, xs[j]? = some u → w.cell? ((⟨g, 0, none⟩ : Addr).add j) = some u := by
  intro j u hu
  rw [add_zero_addr]
  exact h.read (by simpa using hu)
/-- lengths read back -/
theorem rd_back {v : Value} {l : List Int} {L bs : List Nat} {wd n K : Nat} {x : Int} {w : World} (h : Calls Try.prog 23 #[v, .int .i64 x] w (RdAns w bs wd)) (hr : readF bs wd = (L, K, 0)) (hL : L.map (fun n : Nat => (n : Int)) = l) (hn : l.length = n) :
    Calls Try.prog 23 #[v, .int .i64 x] w fun e w' => ∃ A, e = .returned (.tuple #[.slice A n n, .int .i64 (K : Int), .int .i64 0]) ∧ Below w.heap.size w w' ∧ Src w' A (ins l) := by
  refine h.mono ?_
  rintro e w' ⟨h1, hb⟩
  rw [hr] at h1
  rcases h1 with ⟨_, u, rfl, hu⟩ | ⟨h1, _⟩
  · simp only [hL] at hu
    obtain ⟨A, rfl, _⟩ := hu.read
    have hsr := src_ints hu
    rw [hn]
    exact ⟨A, rfl, hb, hsr⟩
  · exact absurd rfl h1
end Go.Proofs.Ytcpjalkonfjgbaa
