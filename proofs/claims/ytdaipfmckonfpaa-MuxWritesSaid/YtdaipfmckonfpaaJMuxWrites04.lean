/-
  What Close and Open do: a copy with the sum behind it, and what is ahead of it. What Open does: the bytes ahead of their sum, or why there are none. A list of the call's own of one-cell elements: one more (append); how it looks. mux: a block. mux: the part with which bytes begin. mux: the parts of a block's bytes.
-/
import Derived.Test.YtdaipfmckonfpaaJMuxWrites03
import Derived.Test.YtdaipfmckonfpaaJMuxWrites02
import Derived.StillTailTactics
import Derived.Test.YtdaipfmckonfpaaJMuxWrites01
namespace Go.Proofs.Ytdaipfmckonfpaa
open Go.RowKit

theorem make_many (n : Nat) (h : n ≤ 281474976710656) (w : World) :
    (Instr.makeSlice 42 (.int .i64 (n : Int)) (.int .i64 (n : Int))).run Try.prog w = .ok (.slice (some ⟨w.heap.size, 0, none⟩) n n) (w.alloc (.cells (zeros n).toArray 5)) := by
  obtain ⟨i, hi, hz, hs, hb⟩ := info5_parts
  have h := run_make (P := Try.prog) w 42 5 i _ Try.underlying42 hi hz .i64 .i64 n n (by omega) (Int.le_refl _) (by rw [hb]; omega) (by omega)
  rw [h, hs, Nat.mul_one, Int.toNat_natCast, ← made_zeros]
  rfl

/-- bytes with their sum behind -/
def closed (l : List Nat) : List Nat := l ++ [more 65535 l / 256, more 65535 l % 256]
theorem length_closed (l : List Nat) : (closed l).length = l.length + 2 := by simp [closed]
theorem closed_lt {l : List Nat} (h : ∀ b ∈ l, b < 256) : ∀ b ∈ closed l, b < 256 := by
  have := more_lt (s := 65535) (by omega) h
  intro b hb
  simp only [closed, List.mem_append, List.mem_cons, List.not_mem_nil, or_false] at hb
  rcases hb with hb | rfl | rfl
  · exact h b hb
  · omega
  · omega

theorem splice_front (n m : Nat) (cs : List Value) (h : cs.length = n) : splice (zeros (n + m)) 0 cs = cs ++ zeros m := by
  simp [splice, h, zeros]

set_option maxRecDepth 100000 in
set_option maxHeartbeats 1600000 in
theorem close_any {A : Option Addr} {cap : Nat} {l : List Nat} (n : Nat) (hn : l.length = n) (hm : n ≤ 140737488351232) (w : World) (hsrc : Src w A (bts l)) (hb : ∀ b ∈ l, b < 256) :
    Calls Try.prog 78 #[.slice A n cap] w fun e w' => ∃ g, e = .returned (.slice (some ⟨g, 0, none⟩) (n + 2 : Nat) (n + 2 : Nat)) ∧ w.heap.size ≤ g ∧ Row w' g 5 (bts (closed l)).toArray ∧ Below w.heap.size w w' := by
  have HC := Lib.hid (of_any (cap := cap) n hn (by unfold maxLen; omega) w hsrc hb)
  have hlt := more_lt (s := 65535) (by omega) hb
  have hmk := fun w => (show _ = _ from make_many (n + 2) (by omega) w : (Instr.makeSlice 42 (.int .i64 ((n : Int) + 2)) (.int .i64 ((n : Int) + 2))).run Try.prog w = .ok (.slice (some ⟨w.heap.size, 0, none⟩) (n + 2) (n + 2)) (w.alloc (.cells (zeros (n + 2)).toArray 5)))
  have hlen : (bts l).length = n := by rw [length_bts]; exact hn
  have HCL := Lib.hid (show closed l = l ++ [more 65535 l / 256, more 65535 l % 256] from rfl)
  generalize more 65535 l = s at *
  have HS := Lib.hid hsrc
  have HL := Lib.hid hlen
  have HN := Lib.hid hn
  have hsz : (Try.prog.info? 5).map (·.size) = some 1 := by
    obtain ⟨i, hi, _, h1, _⟩ := info5_parts
    rw [hi]
    simp [h1]
  clear hsrc hb hlen hn
  go_enter Try.func78, Try.ntmps78
  go_wp2_with (first
    | (go_at_call 137; refine HC.out.mono ?_; rintro e w1 ⟨rfl, rfl⟩)
    | (refine wpList_copy_splice rfl _ _ 42 42 rfl 5 Try.underlying42 hsz (some ⟨w.heap.size, 0, none⟩) A (n + 2) (n + 2) n cap rfl rfl w.heap.size 0 (zeros (n + 2)) 5 ?h1 (bts l) ?h2 ?h3 ?h4 ?h5 w.heap.size w ?h6 (Nat.le_refl _) ?_))
  case h1 => exact heap_alloc_new _ _
  case h2 => rw [HL.out]; exact (Nat.min_eq_left (by omega)).symm
  case h3 =>
    intro h0
    obtain ⟨ad, hA, hc⟩ := HS.out h0
    refine ⟨ad, hA, fun j v hv => ?_⟩
    have hx := hc j v hv
    exact (World.cell?_alloc_some w _ _ (by rw [hx]; rfl)).trans hx
  case h4 => rw [HL.out, length_zeros]; omega
  case h5 => exact bts_one l
  case h6 => exact bl_alloc (Below.refl _ _) _
  intro w1 hrow hb
  have hr : Row w1 w.heap.size 5 (bts l ++ zeros 2).toArray := by
    have h := hrow.out
    rw [splice_front n 2 _ HL.out] at h
    exact h
  have HB := Lib.hid hb
  clear hrow hb hmk
  have hf0 := hr.free n
  have hf1 := hr.free (n + 1)
  have c0 : w1.cell? ⟨w.heap.size, n, none⟩ = some (.int .u8 0) := hr.read (by
    rw [List.getElem?_toArray, List.getElem?_append_right (by rw [HL.out]; omega), HL.out, Nat.sub_self]
    rfl)
  have c1 : w1.cell? ⟨w.heap.size, n + 1, none⟩ = some (.int .u8 0) := hr.read (by
    rw [List.getElem?_toArray, List.getElem?_append_right (by rw [HL.out]; omega), HL.out, Nat.add_sub_cancel_left]
    rfl)
  have hlt0 : (n : Int) < ((n + 2 : Nat) : Int) := by omega
  have hlt1 : (n : Int) + 1 < ((n + 2 : Nat) : Int) := by omega
  go_wp2
  go_ret
  refine ⟨w.heap.size, rfl, Nat.le_refl _, ?_, (HB.out.setCell (Nat.le_refl _) _).setCell (Nat.le_refl _) _⟩
  have h := (hr.written n (.int .u8 ((s : Int) / 256))).written (n + 1) (.int .u8 ((s : Int) % 256))
  rw [HCL.out, bts_append]
  have e : (((bts l ++ zeros 2).toArray.setIfInBounds n (.int .u8 ((s : Int) / 256))).setIfInBounds (n + 1) (.int .u8 ((s : Int) % 256))) = (bts l ++ bts [s / 256, s % 256]).toArray := by
    rw [List.setIfInBounds_toArray, List.setIfInBounds_toArray]
    congr 1
    rw [List.set_append_right _ _ (by rw [HL.out]; omega), List.set_append_right _ _ (by rw [HL.out]; omega), HL.out, Nat.sub_self, Nat.add_sub_cancel_left]
    rfl
  rw [e] at h
  exact h
end Go.Proofs.Ytdaipfmckonfpaa
namespace Go.Proofs.Ytdaipfmckonfpaa
open Go.RowKit

set_option maxHeartbeats 400000 in
theorem open_short (A : Option Addr) (n cap : Nat) (hn : n < 2) (w : World) :
    Calls Try.prog 84 #[.slice A n cap] w fun e w' => e = .returned (.tuple #[.slice none 0 0, .int .i64 8]) ∧ w = w' := by
  go_enter Try.func84, Try.ntmps84
  go_wp2
  exact bodyPost_ret (v := .tuple #[.slice none 0 0, .int .i64 8]) (by simp [results, Try.results84, go_sem]) rfl ⟨rfl, rfl⟩

theorem or_go (hi lo : Nat) (hh : hi < 256) (hl : lo < 256) : bits .or .u16 ((hi : Int) * 256) (lo : Int) = ((256 * hi + lo : Nat) : Int) := by
  have h1 : (hi : Int) * 256 = ((2 ^ 8 * hi : Nat) : Int) := by omega
  rw [h1, u16_or_nat _ _ (by omega) (by omega), ← Nat.two_pow_add_eq_or_of_lt (i := 8) hl hi]

theorem src_two {w : World} {ad : Addr} {l : List Nat} {n hi lo : Nat} (hn : l.length = n) (hsrc : Src w (some ad) (bts (l ++ [hi, lo]))) :
    Src w (some ad) (bts l) ∧ w.cell? (ad.add n) = some (.int .u8 hi) ∧ w.cell? (ad.add (n + 1)) = some (.int .u8 lo) := by
  have h2 : (bts [hi, lo]).length = 2 := rfl
  have hcc : ∀ j u, (bts (l ++ [hi, lo]))[j]? = some u → w.cell? (ad.add j) = some u := by
    obtain ⟨ad', e0, hcc⟩ := hsrc (by rw [bts_append, List.length_append]; omega)
    injection e0 with e0
    subst e0
    exact hcc
  refine ⟨fun _ => ⟨ad, rfl, fun j u hu => hcc j u ?_⟩, hcc n _ ?_, hcc (n + 1) _ ?_⟩
  · rw [bts_append, List.getElem?_append_left (List.getElem?_eq_some_iff.1 hu).1]
    exact hu
  · rw [bts_append, List.getElem?_append_right (by rw [length_bts]; omega), length_bts, hn, Nat.sub_self]
    rfl
  · rw [bts_append, List.getElem?_append_right (by rw [length_bts]; omega), length_bts, hn, Nat.add_sub_cancel_left]
    rfl

set_option maxRecDepth 100000 in
set_option maxHeartbeats 1600000 in
theorem open_wrong {ad : Addr} {cap : Nat} {l : List Nat} (n hi lo : Nat) (hn : l.length = n) (hm : n ≤ 140737488351232) (hc : n + 2 ≤ cap) (w : World) (hsrc : Src w (some ad) (bts (l ++ [hi, lo]))) (hb : ∀ b ∈ l, b < 256) (hh : hi < 256) (hl : lo < 256)
    (hs : more 65535 l ≠ 256 * hi + lo) :
    Calls Try.prog 84 #[.slice (some ad) (n + 2 : Nat) cap] w fun e w' => e = .returned (.tuple #[.slice none 0 0, .int .i64 13]) ∧ Below w.heap.size w w' := by
  obtain ⟨hs1, c0, c1⟩ := src_two hn hsrc
  have hlt := more_lt (s := 65535) (by omega) hb
  have HC := fun W (h : Src W (some ad) (bts l)) => (of_any (cap := cap) n hn (by unfold maxLen; omega) W h hb)
  generalize more 65535 l = s at *
  have HCC := Lib.hid HC
  have HO := or_go hi lo hh hl
  have HNE := Lib.hid hs
  have hnc : n ≤ cap := by omega
  have hn0 : (0 : Int) ≤ (n : Int) := by omega
  have hn1 : (n : Int) < (n : Int) + 2 := by omega
  have hn2 : (n : Int) + 1 < (n : Int) + 2 := by omega
  have hn3 : (0 : Int) ≤ (n : Int) + 1 := by omega
  have hw1 : IntKind.i64.wrap ((n : Int) + 1) = (n : Int) + 1 := by rw [IntKind.wrap_i64]; omega
  have hw2 : IntKind.u16.wrap (hi : Int) = hi := by rw [IntKind.wrap_u16]; omega
  have hw3 : IntKind.u16.wrap ((hi : Int) * 256) = (hi : Int) * 256 := by rw [IntKind.wrap_u16]; omega
  have hw4 : IntKind.u16.wrap (lo : Int) = lo := by rw [IntKind.wrap_u16]; omega
  have hw5 : ((n : Int) + 1).toNat = n + 1 := by omega
  have hneq : ((s : Int) != 256 * (hi : Int) + lo) = true := by simp; omega
  clear hsrc hb hn hs HC
  go_enter Try.func84, Try.ntmps84
  go_wp2
  refine wp_region_still_lit (by kernel_rfl) (by kernel_rfl) ?_
  change wpStill _ _ w.drew (fun b => _) _ _
  have d0 : w.drew.cell? (ad.add n) = some (.int .u8 hi) := c0
  have d1 : w.drew.cell? ⟨ad.block, ad.off + (n + 1), none⟩ = some (.int .u8 lo) := c1
  have ds : Src w.drew (some ad) (bts l) := hs1
  have HDS := Lib.hid ds
  clear c0 c1 hs1 ds
  generalize w.drew = w9 at *
  repeat still_step
  still_call ((HCC.out w9 HDS.out).mono fun _ _ h => ⟨h.1, h.2.symm⟩)
  repeat still_step
  refine wpStill_nil ?_
  go_wp2
  exact bodyPost_ret (v := .tuple #[.slice none 0 0, .int .i64 13]) (by simp [results, Try.results84, go_sem]) rfl ⟨rfl, bl_drew (Below.refl _ _)⟩

set_option maxRecDepth 100000 in
set_option maxHeartbeats 1600000 in
theorem open_right {ad : Addr} {cap : Nat} {l : List Nat} (n hi lo : Nat) (hn : l.length = n) (hm : n ≤ 140737488351232) (hc : n + 2 ≤ cap) (w : World) (hsrc : Src w (some ad) (bts (l ++ [hi, lo]))) (hb : ∀ b ∈ l, b < 256) (hh : hi < 256) (hl : lo < 256)
    (hs : more 65535 l = 256 * hi + lo) :
    Calls Try.prog 84 #[.slice (some ad) (n + 2 : Nat) cap] w fun e w' => ∃ g, e = .returned (.tuple #[.slice (some ⟨g, 0, none⟩) n n, .int .i64 0]) ∧ w.heap.size ≤ g ∧ Row w' g 5 (bts l).toArray ∧ Below w.heap.size w w' := by
  obtain ⟨hs1, c0, c1⟩ := src_two hn hsrc
  have hlt := more_lt (s := 65535) (by omega) hb
  have HC := fun W (h : Src W (some ad) (bts l)) => (of_any (cap := cap) n hn (by unfold maxLen; omega) W h hb)
  generalize more 65535 l = s at *
  have HCC := Lib.hid HC
  have HO := or_go hi lo hh hl
  have hnc : n ≤ cap := by omega
  have hn0 : (0 : Int) ≤ (n : Int) := by omega
  have hn1 : (n : Int) < (n : Int) + 2 := by omega
  have hn2 : (n : Int) + 1 < (n : Int) + 2 := by omega
  have hn3 : (0 : Int) ≤ (n : Int) + 1 := by omega
  have hw1 : IntKind.i64.wrap ((n : Int) + 1) = (n : Int) + 1 := by rw [IntKind.wrap_i64]; omega
  have hw2 : IntKind.u16.wrap (hi : Int) = hi := by rw [IntKind.wrap_u16]; omega
  have hw3 : IntKind.u16.wrap ((hi : Int) * 256) = (hi : Int) * 256 := by rw [IntKind.wrap_u16]; omega
  have hw4 : IntKind.u16.wrap (lo : Int) = lo := by rw [IntKind.wrap_u16]; omega
  have hw5 : ((n : Int) + 1).toNat = n + 1 := by omega
  have hneq : ((s : Int) != 256 * (hi : Int) + lo) = false := by simp; omega
  have hmk := make_many n (by omega)
  have HL := Lib.hid (show (bts l).length = n by rw [length_bts]; exact hn)
  have HSW := Lib.hid hs1
  have hsz : (Try.prog.info? 5).map (·.size) = some 1 := by
    obtain ⟨i, hi, _, h1, _⟩ := info5_parts
    rw [hi]
    simp [h1]
  clear hsrc hb hn hs HC
  go_enter Try.func84, Try.ntmps84
  go_wp2
  refine wp_region_still_lit (by kernel_rfl) (by kernel_rfl) ?_
  change wpStill _ _ w.drew (fun b => _) _ _
  have d0 : w.drew.cell? (ad.add n) = some (.int .u8 hi) := c0
  have d1 : w.drew.cell? ⟨ad.block, ad.off + (n + 1), none⟩ = some (.int .u8 lo) := c1
  have ds : Src w.drew (some ad) (bts l) := hs1
  have HDS := Lib.hid ds
  clear c0 c1 hs1 ds
  generalize w.drew = w9 at *
  repeat still_step
  still_call ((HCC.out w9 HDS.out).mono fun _ _ h => ⟨h.1, h.2.symm⟩)
  repeat still_step
  refine wpStill_nil ?_
  clear d0 d1 HDS
  go_wp2_with (refine wpList_copy_splice rfl _ _ 42 42 rfl 5 Try.underlying42 hsz (some ⟨w.heap.size, 0, none⟩) (some ad) n n (n + 2) cap rfl rfl w.heap.size 0 (zeros n) 5 ?h1 (bts l) ?h2 ?h3 ?h4 ?h5 w.heap.size w ?h6 (Nat.le_refl _) ?_)
  case h1 => exact heap_alloc_new _ _
  case h2 => rw [HL.out]; exact (Nat.min_eq_right (by omega)).symm
  case h3 =>
    intro h0
    obtain ⟨ad', hA, hc⟩ := HSW.out h0
    injection hA with hA
    subst hA
    intro j v hv
    have hx := hc j v hv
    exact (World.cell?_alloc_some w.drew _ _ (by rw [show w.drew.cell? _ = w.cell? _ from rfl, hx]; rfl)).trans hx
  case h4 => rw [HL.out, length_zeros]; omega
  case h5 => exact bts_one l
  case h6 => exact bl_alloc (bl_drew (Below.refl _ _)) _
  intro w1 hrow hb
  have hr : Row w1 w.heap.size 5 (bts l).toArray := by
    have h := hrow.out
    rw [splice_all n _ HL.out] at h
    exact h
  have HB := Lib.hid hb
  clear hrow hb hmk
  go_wp2
  exact bodyPost_ret (v := .tuple #[.slice (some ⟨w.heap.size, 0, none⟩) n n, .int .i64 0]) (by simp [results, Try.results84, go_sem]) rfl ⟨_, rfl, Nat.le_refl _, hr, HB.out⟩
end Go.Proofs.Ytdaipfmckonfpaa
namespace Go.Proofs.Ytdaipfmckonfpaa
open Go.RowKit

theorem wpList_is {P : Program} {ops : Array Oper} {rest : List Oper} {o : Oper} {a : Act} {w : World} {Q : Exit → Act → World → Prop} (hgd : o.guard = none) (s x : Operand) (t : TypeId)
    (ho : o.op = .call { callee := .builtin .append, args := #[s, x], argTypes := #[t, t] }) (v u : Value) (hs : a.eval s = v) (hx : a.eval x = u) {v' : Value} {w' : World}
    (hr : (Builtin.append_ #[t, t] o.type #[v, u]).run P w = .ok v' w') (h : wpList P ops Q rest (a.put o.dst v') w') : wpList P ops Q (o :: rest) a w :=
  wpList_plain hgd fun _ hK => by
    unfold Oper.wp execOp
    simp only [ho, resolve, invoke, builtin, Sem.run_bind, Sem.run_pure, Result.andThen_ok, List.map_toArray, List.map_cons, List.map_nil, hs, hx, hr]
    exact hK _ _ h
theorem add_zero_o (g j : Nat) : (⟨g, 0, none⟩ : Addr).add j = ⟨g, j, none⟩ := by
  unfold Addr.add
  split
  · rename_i h; rw [h]
  · simp
section
variable {m n : Nat} {w v : World} {x u z : Value} {xs : List Value} {T E by' : Nat}
/-- what lies behind a slice: in one block, that is not older than block m -/
def SlAt (m E : Nat) (w : World) (A : Option Addr) (xs : List Value) : Prop :=
  xs ≠ [] → ∃ (g : Nat) (cs : Array Value), A = some ⟨g, 0, none⟩ ∧ m ≤ g ∧ Row w g E cs ∧ ∀ (i : Nat) (u : Value), xs[i]? = some u → cs[i]? = some u
theorem SlAt.only {S : Nat → Prop} {A : Option Addr} (h : SlAt m E w A xs) (ho : Only S w v) (hS : ∀ g cs, Row w g E cs → m ≤ g → ¬ S g) : SlAt m E v A xs := by
  intro hne
  obtain ⟨g, cs, h1, h2, h3, h4⟩ := h hne
  exact ⟨g, cs, h1, h2, h3.only ho (hS g cs h3 h2), h4⟩
theorem SlAt.later {A : Option Addr} (h : SlAt m E w A xs) (hb : Below w.heap.size w v) : SlAt m E v A xs := h.only (S := fun _ => False) (.of_below hb) (fun _ _ _ _ hk => hk)
theorem SlAt.cell {A : Option Addr} (h : SlAt m E w A xs) {i : Nat} {u : Value} (hu : xs[i]? = some u) : ∃ g, A = some ⟨g, 0, none⟩ ∧ w.cell? ⟨g, i, none⟩ = some u := by
  obtain ⟨g, cs, h1, h2, h3, h4⟩ := h (by rintro rfl; simp at hu)
  exact ⟨g, h1, h3.read (h4 i u hu)⟩
end
end Go.Proofs.Ytdaipfmckonfpaa
namespace Go.Proofs.Ytdaipfmckonfpaa
open Go.RowKit

/-- parts' bytes -/
def wb (L : List PartM) : List Nat := L.flatMap fun m => hdP m.id.toNat m.r.bs.length ++ m.r.bs
theorem wb_append (L M : List PartM) : wb (L ++ M) = wb L ++ wb M := by simp [wb]
theorem length_wb (L : List PartM) : (wb L).length = psum (plens L) := by
  induction L with
  | nil => rfl
  | cons m L ih =>
    rw [show m :: L = [m] ++ L from rfl, wb_append, List.length_append, ih]
    simp [wb, hdP, psum, plens]
    omega
theorem wb_take {L : List PartM} {k : Nat} {m : PartM} (h : L[k]? = some m) : wb (L.take (k + 1)) = (wb (L.take k) ++ hdP m.id.toNat m.r.bs.length) ++ m.r.bs := by
  rw [List.take_add_one, h, wb_append]
  simp [wb]
theorem psum_take_le (L : List PartM) (k : Nat) : psum (plens (L.take k)) ≤ psum (plens L) := by
  have h : psum (plens L) = psum (plens (L.take k)) + psum (plens (L.drop k)) := by
    rw [← length_wb, ← length_wb, ← length_wb, ← List.length_append, ← wb_append, List.take_append_drop]
  omega
theorem good_part {L : List PartM} (h : faultM L = 0) : L.length ≤ 16 ∧ psum (plens L) ≤ 4094 ∧ ∀ m ∈ L, 1 ≤ m.id ∧ m.id ≤ 31 ∧ 1 ≤ m.r.bs.length ∧ m.r.bs.length ≤ 2047 := by
  unfold faultM at h
  split at h
  · cases h
  · rename_i h1
    split at h
    · cases h
    · rename_i h2
      simp only [Bool.or_eq_true, decide_eq_true_eq, not_or] at h2
      refine ⟨by omega, by omega, fun m hm => ?_⟩
      have h3 : ¬ bad m = true := fun h3 => h1 (List.any_eq_true.2 ⟨m, hm, h3⟩)
      unfold bad badP at h3
      simp only [Bool.or_eq_true, decide_eq_true_eq, not_or] at h3
      omega
theorem hdP_lt {id n : Nat} (hi : id < 32) (hn : n < 2048) : ∀ b ∈ hdP id n, b < 256 := by
  intro b hb
  simp only [hdP, List.mem_cons, List.not_mem_nil, or_false] at hb
  rcases hb with rfl | rfl <;> omega
theorem wb_lt {L : List PartM} (h : faultM L = 0) (hb : ∀ m ∈ L, ∀ b ∈ m.r.bs, b < 256) : ∀ b ∈ wb L, b < 256 := by
  obtain ⟨_, _, h3⟩ := good_part h
  intro b hm
  simp only [wb, List.mem_flatMap, List.mem_append] at hm
  obtain ⟨m, hmL, hm | hm⟩ := hm
  · have := h3 m hmL
    exact hdP_lt (by omega) (by omega) b hm
  · exact hb m hmL b hm
theorem XSrc.ok {W : World} {A : Option Addr} {L : List PartM} (h : XSrc W A L) : ∀ m ∈ L, m.r.ok W := fun m hm => by
  obtain ⟨k, hk⟩ := List.getElem?_of_mem hm
  obtain ⟨b, o, _, h2⟩ := h (by have := (List.getElem?_eq_some_iff.1 hk).1; omega)
  exact (h2 k m hk).2.2
set_option maxRecDepth 100000 in
set_option maxHeartbeats 800000 in
theorem mwrite_no {A : Option Addr} {L : List PartM} (n cap : Nat) (w : World) (hL : L.length = n) (hn : n ≤ 1000) (hs : XSrc w A L) (hd : ∀ m ∈ L, m.r.bs.length ≤ 100000) (hf : faultM L ≠ 0) :
    Calls Try.prog 25 #[.slice A n cap] w fun e w' => e = .returned (.tuple #[.slice none 0 0, .int .i64 (faultM L)]) ∧ Below w.heap.size w w' := by
  have HC := Lib.hid (mfault_any n cap w hL hn hs hd)
  have HF := fault_cases L
  generalize faultM L = z at *
  clear hs hL hd
  rcases HF with rfl | rfl | rfl
  · exact absurd rfl hf
  · go_enter Try.func25, Try.ntmps25
    go_wp2_with (go_at_call 76; (with_reducible refine (HC.out).mono ?_); rintro e w1 ⟨rfl, hb⟩)
    exact bodyPost_ret (v := .tuple #[.slice none 0 0, .int .i64 2]) (by simp [results, Try.results25, go_sem]) rfl ⟨rfl, hb⟩
  · go_enter Try.func25, Try.ntmps25
    go_wp2_with (go_at_call 76; (with_reducible refine (HC.out).mono ?_); rintro e w1 ⟨rfl, hb⟩)
    exact bodyPost_ret (v := .tuple #[.slice none 0 0, .int .i64 3]) (by simp [results, Try.results25, go_sem]) rfl ⟨rfl, hb⟩
set_option maxRecDepth 100000 in
set_option maxHeartbeats 3200000 in
theorem mwrite_ok {A : Option Addr} {L : List PartM} (n N cap : Nat) (w : World) (hL : L.length = n) (hs : XSrc w A L) (hf : faultM L = 0) (hN : psum (plens L) = N) :
    Calls Try.prog 25 #[.slice A n cap] w fun e w' => ∃ g, e = .returned (.tuple #[.slice (some ⟨g, 0, none⟩) (N + 2 : Nat) (N + 2 : Nat), .int .i64 0]) ∧ w.heap.size ≤ g ∧ Row w' g 5 (bts (closed (wb L))).toArray ∧ Below w.heap.size w w' := by
  obtain ⟨g1, g2, g3⟩ := good_part hf
  have HC := Lib.hid (mfault_any n cap w hL (by omega) hs (fun m hm => by have := g3 m hm; omega))
  rw [hf] at HC
  have HG := Lib.hid g3
  have HLe := Lib.hid (fun k => show (wb (L.take k)).length ≤ 4094 by rw [length_wb]; exact Nat.le_trans (psum_take_le L k) g2)
  have HWB := Lib.hid (wb_lt hf (fun m hm => (hs.ok m hm).2.2.2))
  have HLN := Lib.hid (show (wb L).length = N by rw [length_wb]; exact hN)
  have HS := Lib.hid hs
  have HL := Lib.hid hL
  have hN2 : N ≤ 4094 := by omega
  have hn16 : n ≤ 16 := by omega
  clear hs hL hf hN g1 g2 g3
  go_enter Try.func25, Try.ntmps25
  go_wp2_with (go_at_call 76; (with_reducible refine (HC.out).mono ?_); rintro e w0 ⟨rfl, hb0⟩; (have HB0 := Lib.hid hb0; clear hb0))
  go_loopw [5, 15] (fun x i wr => ∃ k t : Nat, ∃ A' c', k ≤ n ∧ i = .int .i64 k ∧ x = .slice A' t c' ∧ t ≤ 4094 ∧ Hid ((wb (L.take k)).length = t) ∧ Hid (OwnY w.heap.size wr x (wb (L.take k))) ∧ Hid (Below w.heap.size w wr)) (fun _ i _ => n - (intOf i).toNat)
  case atStart => exact ⟨0, 0, none, 0, by omega, rfl, rfl, by omega, Lib.hid rfl, Lib.hid (World.ownsRow_nil _ _ _ _), HB0⟩
  case round =>
    obtain ⟨k, t, Ax, cx, hk, rfl, rfl, ht, HT, HO, HB⟩ := hrel
    by_cases hlt : k < n
    · obtain ⟨ab, ao, rfl, hc⟩ := HS.out (by rw [HL.out]; omega)
      obtain ⟨⟨id, ⟨RA, rcap, bs⟩⟩, hr⟩ : ∃ r, L[k]? = some r := ⟨_, List.getElem?_eq_getElem (by rw [HL.out]; exact hlt)⟩
      obtain ⟨e0, e1, e2⟩ := hc k _ hr
      have hm := HG.out _ (List.mem_of_getElem? hr)
      simp only at hm
      obtain ⟨id, rfl⟩ : ∃ q : Nat, id = q := ⟨id.toNat, by omega⟩
      have HTK := Lib.hid (wb_take hr)
      simp only [Int.toNat_natCast] at HTK
      have HT2 := Lib.hid (HLe.out (k + 1))
      rw [HTK.out] at HT2
      obtain ⟨bn, hbn⟩ : ∃ bn, bs.length = bn := ⟨_, rfl⟩
      have f0 := cell_below HB.out e0
      have f1 := cell_below HB.out e1
      simp only [RowB.v] at f0 f1
      have HOK := Lib.hid e2.1
      simp only at HOK
      rw [hbn] at f1 hm HTK HT2
      have HBN := Lib.hid hbn
      have HM := Lib.hid hm
      have hkI : (k : Int) < (n : Int) := by omega
      have R1 := Lib.hid (Row.made wr 57 #[.int .i64 id, .slice RA bn rcap])
      have HB1 := Lib.hid (bl_alloc (Below.refl wr.heap.size wr) (.cells #[.int .i64 id, .slice RA bn rcap] 57))
      have r0 := R1.out.read (i := 0) rfl
      have r1 := R1.out.read (i := 1) rfl
      clear hc hr e0 e1 e2 hbn hm
      go_wp2_with fail
      refine (head_any id bn rcap _ (by have := HM.out; omega) (by have := HM.out; omega)).mono ?_
      rintro e w1 ⟨g1, rfl, hg1, hrow, hb1⟩
      have hbA := bl_step HB1.out hb1
      have hO1 := HO.out.later hbA
      obtain ⟨A1, c1, W1, hrun1, ho1, hb2, hon1, hat1⟩ := app_bytes 2 2 hO1 (Nat.le_trans HB.out.size hbA.size) (row_src hrow) rfl (by rw [HT.out]; omega)
      rw [HT.out] at hrun1 ho1
      have R2 := (R1.out.later hb1).only hon1 (own_apart hO1 (R1.out.later hb1) (by decide))
      have r21 := R2.read (i := 1) rfl
      have hBW := HB.out.trans (((hbA).mono HB.out.size).trans hb2)
      have hl1 : (wb (L.take k) ++ hdP id bn).length = t + 2 := by rw [List.length_append, HT.out]; rfl
      obtain ⟨A2, c2, W2, hrun2, ho2, hb3, hon2, hat2⟩ := app_bytes bn rcap ho1 hBW.size (src_later HOK.out hBW) HBN.out (by have := HM.out; rw [hl1]; omega)
      rw [hl1] at hrun2 ho2
      rw [← HTK.out] at ho2
      have HO2 := Lib.hid ho2
      have HB9 := Lib.hid (hBW.trans hb3)
      have HL2 := Lib.hid (show (wb (L.take (k + 1))).length = t + 2 + bn by rw [HTK.out, List.length_append, hl1, HBN.out])
      clear hbA hO1 ho1 hb2 hon1 hat1 R2 hBW hl1 ho2 hb3 hon2 hat2 hrow hb1 hg1 r0 r1
      go_wp2_with (first
        | (at_builtin; refine wpList_is rfl (.tmp 19) (.tmp 21) 42 rfl _ _ (by rfl) (by rfl) hrun1 ?_; clear hrun1)
        | (at_builtin; refine wpList_is rfl (.tmp 23) (.tmp 25) 42 rfl _ _ (by rfl) (by rfl) hrun2 ?_; clear hrun2))
      go_roundw
      case rel => exact ⟨k + 1, t + 2 + bn, _, _, by omega, by go_num, by rfl, by have := HT2.out; rw [← HTK.out, HL2.out] at this; exact this, HL2, HO2, HB9⟩
      case measure => simp [intOf]; omega
    · have hkn : k = n := by omega
      subst hkn
      have HO2 := Lib.hid (show OwnY w.heap.size wr (.slice Ax t cx) (wb L) by have h := HO.out; rwa [List.take_of_length_le (by rw [HL.out]; exact Nat.le_refl _)] at h)
      obtain rfl : t = N := by have h := HT.out; rw [List.take_of_length_le (by rw [HL.out]; exact Nat.le_refl _), HLN.out] at h; exact h.symm
      go_wp2_with (go_at_call 78; (with_reducible refine (close_any (cap := cx) t HLN.out (by omega) _ HO2.out.src HWB.out).mono ?_); rintro e w1 ⟨g, rfl, hg, hrow, hb1⟩)
      exact bodyPost_ret (v := .tuple #[.slice (some ⟨g, 0, none⟩) (t + 2 : Nat) (t + 2 : Nat), .int .i64 0]) (by simp [results, Try.results25, go_sem]) rfl ⟨g, rfl, Nat.le_trans HB.out.size hg, hrow, bl_step HB.out hb1⟩
end Go.Proofs.Ytdaipfmckonfpaa
namespace Go.Proofs.Ytdaipfmckonfpaa
open Go.RowKit

def zpart : Value := .agg #[.int .i64 0, .slice none 0 0]
/-- what is wrong with a first part -/
def firstF (l : List Nat) : Int := if l.length < 2 then 8 else if l.length < 2 + (256 * l.getD 0 0 + l.getD 1 0) % 2048 then 8 else if (256 * l.getD 0 0 + l.getD 1 0) / 2048 = 0 ∨ (256 * l.getD 0 0 + l.getD 1 0) % 2048 = 0 then 3 else 0
theorem Try.infopart : (Try.prog.info? 57).map (·.size) = some 2 := by kernel_rfl
theorem Try.underpart : (Try.prog.underlying 57).map (fun d => match d with | .struct _ => true | _ => false) = some true := by kernel_rfl
theorem underpart_parts : ∃ fs, Try.prog.underlying 57 = some (.struct fs) := by
  obtain ⟨d, hd, h⟩ := Option.map_eq_some_iff.1 Try.underpart
  cases d with
  | struct fs => exact ⟨fs, hd⟩
  | _ => simp at h
theorem part_ret {tmps : Array Value} {w : World} {g : Nat} {id A : Value} {e : Value} (hp : tmps.getD 2 undef = .pointer (some ⟨g, 0, none⟩)) (hg : Row w g 57 #[id, A]) (he : tmps.getD 3 undef = e) :
    (results Try.f85 tmps).run Try.prog w = .ok (.tuple #[.agg #[id, A], e]) w := by
  obtain ⟨fs, hu⟩ := underpart_parts
  rw [results_two (fn := Try.f85) rfl tmps w g 57 _ fs hp hg hu Try.infopart, he]
theorem part_set {B g : Nat} {w w3 : World} {a b x y : Value} (h : Row w3 g 57 #[a, b]) (hB : B ≤ g) (hb : Below B w w3) :
    Row ((w3.setCell ⟨g, 0, none⟩ x).setCell ⟨g, 1, none⟩ y) g 57 #[x, y] ∧ Below B w ((w3.setCell ⟨g, 0, none⟩ x).setCell ⟨g, 1, none⟩ y) :=
  ⟨(h.written 0 x).written 1 y, (hb.setCell hB x).setCell hB y⟩
set_option maxRecDepth 100000 in
set_option maxHeartbeats 800000 in
theorem first_tiny {A : Option Addr} (m c : Nat) (w : World) (hm : m < 2) :
    Calls Try.prog 85 #[.slice A m c] w fun e w' => e = .returned (.tuple #[zpart, .int .i64 8]) ∧ Below w.heap.size w w' := by
  have hm' : (m : Int) < 2 := by omega
  have HB1 := Lib.hid (bl_alloc (Below.refl w.heap.size w) (.cells #[.int .i64 0, .slice none 0 0] 57))
  have HR := Lib.hid (Row.made w 57 #[.int .i64 0, .slice none 0 0])
  go_enter Try.func85, Try.ntmps85
  go_wp2
  exact bodyPost_ret (part_ret rfl HR.out rfl) rfl ⟨rfl, HB1.out⟩
set_option maxRecDepth 100000 in
set_option maxHeartbeats 1600000 in
theorem first_two {b o x y id q : Nat} (m c : Nat) (w : World) (hv : 256 * x + y = 2048 * id + q) (hq : q < 2048) (hx : x < 256) (hy : y < 256) (hm : 2 ≤ m) (hmc : m ≤ c) (hc9 : c ≤ 9223372036854775807) (hs : Src w (some ⟨b, o, none⟩) (bts [x, y])) :
    Calls Try.prog 85 #[.slice (some ⟨b, o, none⟩) m c] w fun e w' => e = .returned (.tuple (if m < 2 + q then #[zpart, .int .i64 8] else if id = 0 ∨ q = 0 then #[zpart, .int .i64 3] else #[.agg #[.int .i64 id, .slice (some ⟨b, o + 2, none⟩) q q], .int .i64 0])) ∧ Below w.heap.size w w' := by
  have hm' : ¬ (m : Int) < 2 := by omega
  have e1 : (256 * x + y) / 256 = x ∧ (256 * x + y) % 256 = y := by omega
  have e2 : (256 * x + y) / 2048 = id ∧ (256 * x + y) % 2048 = q := by omega
  have hgd := get_hd (v := 256 * x + y) (by omega)
  rw [e1.1, e1.2, e2.1, e2.2] at hgd
  have HV5 := Lib.hid hgd.1
  have HV11 := Lib.hid (show val (seg [x, y] (0 + 5) 11) = q from hgd.2)
  have hid : id < 32 := by omega
  obtain ⟨W0, hW0⟩ : ∃ W0, W0 = w.alloc (.cells #[.int .i64 0, .slice none 0 0] 57) := ⟨_, rfl⟩
  have hb0 : Below w.heap.size w W0 := by rw [hW0]; exact bl_alloc (Below.refl _ _) _
  have HR0 := Lib.hid (show Row W0 w.heap.size 57 #[.int .i64 0, .slice none 0 0] by rw [hW0]; exact Row.made _ _ _)
  have HSZ := Lib.hid (show W0.heap.size = w.heap.size + 1 by rw [hW0]; simp)
  have HB0 := Lib.hid hb0
  have HRD := Lib.hid (read_any (some ⟨b, o, none⟩) c [x, y] W0 (by simp) (by simp; omega) (src_later hs hb0) (by simp; omega))
  have hi1 : IntKind.i64.wrap (id : Int) = (id : Int) := by rw [IntKind.wrap_i64]; omega
  have hi2 : IntKind.i64.wrap (q : Int) = (q : Int) := by rw [IntKind.wrap_i64]; omega
  clear hs e1 e2 hgd hb0 hv
  generalize hRR : (if m < 2 + q then #[zpart, .int .i64 8] else if id = 0 ∨ q = 0 then #[zpart, .int .i64 3] else #[.agg #[.int .i64 id, .slice (some ⟨b, o + 2, none⟩) q q], .int .i64 0] : Array Value) = RR
  have HRR := Lib.hid hRR
  clear hRR
  go_enter Try.func85, Try.ntmps85
  go_upto_region 1 with fail
  rw [← hW0]
  clear hW0
  go_upto_region 7 with (first
    | (go_at_call 139; refine HRD.out.mono ?_; rintro e w1 ⟨p, g, rfl, hp, hg, hr1, hb1⟩; (have R1 := Lib.hid (HR0.out.later hb1); have H5 := Lib.hid (get_any 5 w1 hr1 (by omega) (by simp)); rw [HV5.out] at H5; have HR1 := Lib.hid hr1; have HB1 := Lib.hid hb1; clear hr1 hb1))
    | (go_at_call 140; refine H5.out.mono ?_; rintro e w2 ⟨rfl, hr2, hy2⟩; (have R2 := Lib.hid (R1.out.only hy2 (R1.out.apart HR1.out.1 (by decide))); have H11 := Lib.hid (get_any 11 w2 hr2 (by omega) (by simp)); rw [HV11.out] at H11; have HR2 := Lib.hid hr2; have HB2 := Lib.hid (get_below hy2 hp HB1.out.size); clear hr2 hy2 H5))
    | (go_at_call 140; refine H11.out.mono ?_; rintro e w3 ⟨rfl, hr3, hy3⟩; (have R3 := Lib.hid (R2.out.only hy3 (R2.out.apart HR2.out.1 (by decide))); have HB3 := Lib.hid (get_below hy3 hp (Nat.le_trans HB1.out.size HB2.out.size)); clear hr3 hy3 H11)))
  have HB9 := Lib.hid (bl_step HB0.out (HB1.out.trans (HB2.out.trans HB3.out)))
  have hf0 := R3.out.free 0
  have hf1 := R3.out.free 1
  have c0 := R3.out.read (i := 0) rfl
  have c1 := R3.out.read (i := 1) rfl
  clear HB1 HB2 HB3 HR1 HR2 R1 R2 HRD
  by_cases h1 : m < 2 + q
  · have HQ := Lib.hid (show RR = #[zpart, .int .i64 8] by rw [← HRR.out, if_pos h1])
    have h1' : (m : Int) < 2 + q := by omega
    go_wp2
    exact bodyPost_ret (part_ret rfl (part_set R3.out (Nat.le_refl _) HB9.out).1 rfl) rfl ⟨by rw [HQ.out]; rfl, (part_set R3.out (Nat.le_refl _) HB9.out).2⟩
  · have h1' : ¬ (m : Int) < 2 + q := by omega
    by_cases h2 : id = 0
    · have HQ := Lib.hid (show RR = #[zpart, .int .i64 3] by rw [← HRR.out, if_neg h1, if_pos (.inl h2)])
      have h2' : ((id : Int) == 0) = true := by rw [h2]; rfl
      go_wp2
      exact bodyPost_ret (part_ret rfl (part_set R3.out (Nat.le_refl _) HB9.out).1 rfl) rfl ⟨by rw [HQ.out]; rfl, (part_set R3.out (Nat.le_refl _) HB9.out).2⟩
    · have h2' : ((id : Int) == 0) = false := by rw [beq_eq_false_iff_ne]; omega
      by_cases h3 : q = 0
      · have HQ := Lib.hid (show RR = #[zpart, .int .i64 3] by rw [← HRR.out, if_neg h1, if_pos (.inr h3)])
        have h3' : ((q : Int) == 0) = true := by rw [h3]; rfl
        go_wp2
        exact bodyPost_ret (part_ret rfl (part_set R3.out (Nat.le_refl _) HB9.out).1 rfl) rfl ⟨by rw [HQ.out]; rfl, (part_set R3.out (Nat.le_refl _) HB9.out).2⟩
      · have HQ := Lib.hid (show RR = #[.agg #[.int .i64 id, .slice (some ⟨b, o + 2, none⟩) q q], .int .i64 0] by rw [← HRR.out, if_neg h1, if_neg (by omega)])
        have h3' : ((q : Int) == 0) = false := by rw [beq_eq_false_iff_ne]; omega
        have h5 : (2 : Int) + q ≤ c := by omega
        have h6 : (2 : Int) + q - 2 = q := by omega
        have h7 : ((2 : Int) + q).toNat = 2 + q := by omega
        go_wp2
        exact bodyPost_ret (part_ret rfl (part_set R3.out (Nat.le_refl _) HB9.out).1 rfl) rfl ⟨by rw [HQ.out]; rfl, (part_set R3.out (Nat.le_refl _) HB9.out).2⟩
end Go.Proofs.Ytdaipfmckonfpaa
namespace Go.Proofs.Ytdaipfmckonfpaa
open Go.RowKit

theorem Try.infoparts : (Try.prog.info? 57).map (fun i => (i.zero, i.size, i.bytes)) = some (some (.agg #[.int .i64 0, .slice none 0 0]), 2, 32) := by kernel_rfl
theorem Try.underparts : Try.prog.underlying 40 = some (.slice 57) := by kernel_rfl
def hd16 (l : List Nat) : Nat := 256 * l.getD 0 0 + l.getD 1 0
theorem firstF_eq (l : List Nat) : firstF l = if l.length < 2 then 8 else if l.length < 2 + hd16 l % 2048 then 8 else if hd16 l / 2048 = 0 ∨ hd16 l % 2048 = 0 then 3 else 0 := rfl
/-- the parts of bytes, and why there are none -/
def preadR : Nat → List Nat → List (Nat × List Nat) × Int
  | 0, l => ([], if l = [] then 0 else 2)
  | r + 1, l => if l = [] then ([], 0) else if firstF l ≠ 0 then ([], firstF l) else ((hd16 l / 2048, (l.drop 2).take (hd16 l % 2048)) :: (preadR r (l.drop (2 + hd16 l % 2048))).1, (preadR r (l.drop (2 + hd16 l % 2048))).2)
theorem first_any {b o : Nat} {l : List Nat} (m c : Nat) (w : World) (hl : l.length = m) (hmc : m ≤ c) (hc9 : c ≤ 9223372036854775807) (hs : Src w (some ⟨b, o, none⟩) (bts l)) (hb : ∀ x ∈ l, x < 256) :
    Calls Try.prog 85 #[.slice (some ⟨b, o, none⟩) m c] w fun e w' => e = .returned (.tuple #[if firstF l = 0 then .agg #[.int .i64 ((hd16 l / 2048 : Nat) : Int), .slice (some ⟨b, o + 2, none⟩) (hd16 l % 2048) (hd16 l % 2048)] else zpart, .int .i64 (firstF l)]) ∧ Below w.heap.size w w' := by
  by_cases hm : m < 2
  · rw [firstF_eq, hl, if_pos hm]
    exact first_tiny m c w hm
  · match l, hl with
    | [], hl => simp at hl; omega
    | [_], hl => simp at hl; omega
    | x :: y :: t, hl =>
      have hx := hb x (by simp)
      have hy := hb y (by simp)
      have e : hd16 (x :: y :: t) = 256 * x + y := rfl
      have hs2 : Src w (some ⟨b, o, none⟩) (bts [x, y]) := by
        intro _
        obtain ⟨ad, h1, h2⟩ := hs (by simp [bts])
        refine ⟨ad, h1, fun j u hu => h2 j u ?_⟩
        match j, hu with
        | 0, hu => exact hu
        | 1, hu => exact hu
        | j + 2, hu => simp [bts] at hu
      have h := first_two (b := b) (o := o) (x := x) (y := y) (id := (256 * x + y) / 2048) (q := (256 * x + y) % 2048) m c w (by omega) (by omega) hx hy (by omega) hmc hc9 hs2
      refine h.mono ?_
      rintro e' w' ⟨rfl, hbl⟩
      refine ⟨?_, hbl⟩
      rw [firstF_eq, e, hl, if_neg hm]
      by_cases h1 : m < 2 + (256 * x + y) % 2048
      · rw [if_pos h1, if_pos h1]; rfl
      · rw [if_neg h1, if_neg h1]
        by_cases h2 : (256 * x + y) / 2048 = 0 ∨ (256 * x + y) % 2048 = 0
        · rw [if_pos h2, if_pos h2]; rfl
        · rw [if_neg h2, if_neg h2, if_pos rfl]
set_option maxHeartbeats 400000 in
theorem mclip_any {A : Option Addr} (k c : Nat) (w : World) (hk : k ≤ c) (hc : c ≤ 9223372036854775807) (h0 : A = none → c = 0) :
    Calls Try.prog 86 #[.slice A k c] w fun e w' => e = .returned (.slice A k k) ∧ w = w' := by
  have hk' : (k : Int) ≤ (c : Int) := by omega
  cases A with
  | none =>
    obtain rfl := h0 rfl
    obtain rfl : k = 0 := by omega
    go_enter Try.func86, Try.ntmps86
    go_wp2
    go_ret
    exact ⟨rfl, rfl⟩
  | some ad =>
    go_enter Try.func86, Try.ntmps86
    go_wp2
    go_ret
    exact ⟨rfl, rfl⟩
def rkey (m : PartM) : Nat × List Nat := (m.id.toNat, m.r.bs)
def pcells (L : List PartM) : List Value := L.flatMap fun m => [.int .i64 m.id, m.r.v]
theorem pcells_snoc (L : List PartM) (m : PartM) : pcells (L ++ [m]) = pcells L ++ [.int .i64 m.id, m.r.v] := by simp [pcells]
theorem pcells_at {L : List PartM} {k : Nat} {m : PartM} (h : L[k]? = some m) : (pcells L)[k * 2]? = some (.int .i64 m.id) ∧ (pcells L)[k * 2 + 1]? = some m.r.v := by
  induction L generalizing k with
  | nil => simp at h
  | cons a L ih =>
    cases k with
    | zero =>
      simp at h
      subst h
      exact ⟨rfl, rfl⟩
    | succ k =>
      simp at h
      obtain ⟨h1, h2⟩ := ih h
      refine ⟨?_, ?_⟩
      · rw [show (k + 1) * 2 = k * 2 + 2 by omega]
        exact h1
      · rw [show (k + 1) * 2 + 1 = k * 2 + 1 + 2 by omega]
        exact h2
theorem own_xsrc {B j c : Nat} {v : World} {A : Option Addr} {L : List PartM} (h : v.ownsRow B 57 2 (.slice A j c) j (pcells L)) (hok : ∀ m ∈ L, m.r.ok v) : XSrc v A L := by
  intro h0
  rcases h.2 with ⟨h1, h2⟩ | ⟨g, cap, cur, h1, h2, h3, h4, h5, h6, h7⟩
  · exfalso
    have h3 := h.1
    rw [h2] at h3
    have h4 : (pcells L).length = 2 * L.length := by
      clear h h0 hok h3
      induction L with
      | nil => rfl
      | cons a L ih => rw [show a :: L = [a] ++ L from rfl]; simp [pcells] at ih ⊢; omega
    omega
  · injection h1 with hA _ _
    refine ⟨g, 0, hA, fun k m hm => ?_⟩
    obtain ⟨h8, h9⟩ := pcells_at hm
    have hrd : ∀ (i : Nat) (u : Value), (pcells L)[i]? = some u → v.cell? ⟨g, i, none⟩ = some u := fun i u hu => by
      refine Row.read (t := 57) (cs := cur) h3 ?_
      rw [← h7, List.getElem?_take] at hu
      split at hu
      · simpa using hu
      · cases hu
    rw [Nat.zero_add]
    exact ⟨hrd _ _ h8, hrd _ _ h9, hok m (List.mem_of_getElem? hm)⟩
section
variable {m n : Nat} {w v : World} {x z : Value} {xs : List Value} {T E by' : Nat}
theorem own_next2 (hT : Try.prog.underlying T = some (.slice E)) (hI : (Try.prog.info? E).map (fun i => (i.zero, i.size, i.bytes)) = some (some z, 2, by')) (hz : z.cells.size = 2) (hby : by' ≤ 40) (a b : Value) (ha : a.oneCell' = true) (hb : b.oneCell' = true) (h : w.ownsRow m E 2 x n xs) (hm : m ≤ w.heap.size) (hn : n ≤ 100000) :
    ∃ A' c' w2, (Builtin.append_ #[T, T] T #[x, .slice (some ⟨w.heap.size, 0, none⟩) 1 1]).run Try.prog (w.alloc (.cells #[a, b] E)) = .ok (.slice A' (n + 1) c') w2 ∧
      w2.ownsRow m E 2 (.slice A' (n + 1) c') (n + 1) (xs ++ [a, b]) ∧ Only (fun k => x.ownBlock = some k) w w2 := by
  obtain ⟨i0, hi, hi0, hi1, hi2⟩ := info_parts hI
  have hbA := bl_alloc (Below.refl w.heap.size w) (.cells #[a, b] E)
  have a4' := own_only h (S := fun _ => False) (.of_below hbA) (fun _ _ hk => hk)
  obtain ⟨v', w2, hrun, hown, hgr, _, hat⟩ := run_append_own_at (P := Try.prog) (w := w.alloc (.cells #[a, b] E)) m T T E i0 z 2 by' hT hi hi0 hi1 hi2 hz (by omega) x n xs a4' ⟨w.heap.size, 0, none⟩ 1 1 [a, b] rfl
    (fun j u' hu' => by
      match j, hu' with
      | 0, hu' =>
        simp only [List.getElem?_cons_zero, Option.some.injEq] at hu'
        subst hu'
        rw [add_zero_o]
        exact (Row.made w E #[a, b]).read rfl
      | 1, hu' =>
        simp only [List.getElem?_cons_succ, List.getElem?_cons_zero, Option.some.injEq] at hu'
        subst hu'
        rw [add_zero_o]
        exact (Row.made w E #[a, b]).read rfl
      | j + 2, hu' => simp at hu') (by intro y hy; simp at hy; rcases hy with rfl | rfl <;> assumption) (by unfold maxLen; omega) (by have := Nat.mul_le_mul (show n + 1 ≤ 100001 by omega) hby; omega) (by have := hbA.size; omega)
  have hon : Only (fun k => x.ownBlock = some k) w w2 := (Only.of_below hbA).andThen ((Only.refl _ _).grown hgr (fun k hk => .inl hk) : Only (fun k => x.ownBlock = some k) _ _) (fun k _ hk => hk)
  obtain ⟨A', c', rfl⟩ : ∃ A' c', v' = .slice A' (n + 1) c' := by
    rcases hown.2 with ⟨_, e⟩ | ⟨g, cap, cur, e, _⟩
    · omega
    · exact ⟨some ⟨g, 0, none⟩, cap, e⟩
  exact ⟨A', c', w2, hrun, hown, hon⟩
end
end Go.Proofs.Ytdaipfmckonfpaa
