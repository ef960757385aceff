/-
  Small plain lemmas: frames with holes at a jump, memory below a block, a row's last step. What numbers of a space may be, as the code and the document say. seqnum: the number that lies so far behind another. seqnum: how far one number is from another. txwin: plain mathematics of a window (its first end, and what of the numbers behind it is acknowledged). rxwin: plain mathematics of a window of what comes (the first number's place, and which numbers from it on are whole). What one call may change in memory: some blocks alone; and what stays.
-/
import Derived.Test.YtgdpjaojlhdhdaaProg
import Derived.WalkKit
import Derived.WalkSpells
import Derived.WalkLawsBesides
import Derived.Deep.QuietTactic
import Derived.BigQuiet
import Derived.Lib.Hide
import Derived.Deep.RegionHeld3
import Derived.Deep.RegionWith
import Derived.WalkMore
import Derived.ScopeJumps
import Derived.Deep.AppendLies
import Derived.Maps.AppendAt
namespace Go.Proofs.Ytgdpjaojlhdhdaa
open Go.RowKit

/-- a list of values, some of them known -/
def Holes : List (Option Value) → (List Value → Prop) → Prop
  | [], k => k []
  | some v :: r, k => Holes r fun l => k (v :: l)
  | none :: r, k => ∃ u, Holes r fun l => k (u :: l)
/-- the frame at a jump -/
def Fr (xs : List (Option Value)) (a : Act) : Prop := Holes xs fun l => a = { tmps := l.toArray, defers := [] }

theorem ret_bool {a b : Bool} (h : a = b) : Ending.returned (.bool a) = .returned (.bool b) := by rw [h]
theorem ret_int {k : IntKind} {a b : Int} (h : a = b) : Ending.returned (.int k a) = .returned (.int k b) := by rw [h]
theorem ret_ints {k l : IntKind} {a b c d : Int} (h : a = b) (h' : c = d) : Ending.returned (.tuple #[.int k a, .int l c]) = .returned (.tuple #[.int k b, .int l d]) := by rw [h, h']

theorem bcell {W w1 : World} (hb : Below W.heap.size W w1) : (∀ b o, b < W.heap.size → w1.cell? ⟨b, o, none⟩ = W.cell? ⟨b, o, none⟩) ∧ (∀ b o, b < W.heap.size → w1.frozen? ⟨b, o, none⟩ = W.frozen? ⟨b, o, none⟩) :=
  ⟨fun b o h => hb.cell (p := ⟨b, o, none⟩) h, fun b o h => hb.frozen (p := ⟨b, o, none⟩) h⟩
theorem bl_step {w a b : World} (h : Below w.heap.size w a) (k : Below a.heap.size a b) : Below w.heap.size w b := h.trans (k.mono h.size)
theorem bl_alloc {w a : World} (h : Below w.heap.size w a) (o : Obj) : Below w.heap.size w (a.alloc o) := h.alloc h.size o
theorem bl_drew {w a : World} (h : Below w.heap.size w a) : Below w.heap.size w a.drew := h.drew

/-- a cell known in a world is known in one that is alike below -/
theorem kept_box {w v : World} {g j : Nat} {x : Value} (hb : Below v.heap.size v w) (h : v.cell? ⟨g, j, none⟩ = some x) : w.cell? ⟨g, j, none⟩ = some x :=
  (hb.cell (p := ⟨g, j, none⟩) (by
    rcases Nat.lt_or_ge g v.heap.size with h1 | h1
    · exact h1
    · exfalso
      simp [World.cell?, Array.getElem?_eq_none h1] at h)).trans h

/-- block g holds just these cells, none of them frozen -/
def Row (w : World) (g : Nat) (t : TypeId) (cs : Array Value) : Prop := w.heap[g]? = some (.cells cs t (0, 0))
section
variable {w v : World} {g : Nat} {t : TypeId} {cs : Array Value}
theorem Row.inside (h : Row w g t cs) : g < w.heap.size := by
  rcases Nat.lt_or_ge g w.heap.size with h1 | h1
  · exact h1
  · exfalso
    unfold Row at h
    rw [Array.getElem?_eq_none h1] at h
    cases h
theorem Row.read (h : Row w g t cs) {i : Nat} {x : Value} (hx : cs[i]? = some x) : w.cell? ⟨g, i, none⟩ = some x := (cell_of_row w g i cs t (0, 0) h).trans hx
theorem Row.free (h : Row w g t cs) (i : Nat) : w.frozen? ⟨g, i, none⟩ = false := by
  unfold Row at h
  simp [World.frozen?, h]
theorem Row.made (w : World) (t : TypeId) (cs : Array Value) : Row (w.alloc (.cells cs t)) w.heap.size t cs := heap_alloc_new w _
theorem Row.later (h : Row w g t cs) (hb : Below w.heap.size w v) : Row v g t cs := (hb.block g h.inside).trans h
theorem Row.more (h : Row w g t cs) (o : Obj) : Row (w.alloc o) g t cs := (Below.heap_alloc w o g h.inside).trans h
theorem Row.drawn (h : Row w g t cs) : Row w.drew g t cs := h
theorem Row.written (h : Row w g t cs) (i : Nat) (x : Value) : Row (w.setCell ⟨g, i, none⟩ x) g t (cs.setIfInBounds i x) := by
  unfold Row at h ⊢
  simp [World.setCell, Array.getElem?_modify, h]
theorem Row.elsewhere (h : Row w g t cs) {p : Addr} (hp : g ≠ p.block) (x : Value) : Row (w.setCell p x) g t cs := (Below.heap_setCell w p x g hp).trans h
end
end Go.Proofs.Ytgdpjaojlhdhdaa
namespace Go.Proofs.Ytgdpjaojlhdhdaa
open Go.RowKit

def rt (b : Int) : Bool := decide (1 ≤ b ∧ b ≤ 16)
def sz (b : Int) : Int := if rt b then 2 ^ b.toNat else 0
def okn (b n : Int) : Bool := decide (0 ≤ n ∧ n < sz b)

theorem rt_true {b : Int} (h : rt b = true) : 1 ≤ b ∧ b ≤ 16 := of_decide_eq_true h
theorem rt_false {b : Int} (h : rt b = false) : b < 1 ∨ 16 < b := by have := of_decide_eq_false h; omega
theorem rt_of {b : Int} (h1 : 1 ≤ b) (h2 : b ≤ 16) : rt b = true := decide_eq_true ⟨h1, h2⟩
theorem rt_not {b : Int} (h : b < 1 ∨ 16 < b) : rt b = false := decide_eq_false (by omega)
theorem sz_cases {b : Int} (h : rt b = true) : sz b = 2 ∨ sz b = 4 ∨ sz b = 8 ∨ sz b = 16 ∨ sz b = 32 ∨ sz b = 64 ∨ sz b = 128 ∨ sz b = 256 ∨ sz b = 512 ∨ sz b = 1024 ∨ sz b = 2048 ∨ sz b = 4096 ∨ sz b = 8192 ∨ sz b = 16384 ∨ sz b = 32768 ∨ sz b = 65536 := by
  obtain ⟨h1, h2⟩ := rt_true h
  unfold sz
  rw [if_pos h]
  obtain rfl | rfl | rfl | rfl | rfl | rfl | rfl | rfl | rfl | rfl | rfl | rfl | rfl | rfl | rfl | rfl : b = 1 ∨ b = 2 ∨ b = 3 ∨ b = 4 ∨ b = 5 ∨ b = 6 ∨ b = 7 ∨ b = 8 ∨ b = 9 ∨ b = 10 ∨ b = 11 ∨ b = 12 ∨ b = 13 ∨ b = 14 ∨ b = 15 ∨ b = 16 := by omega
  all_goals simp
theorem sz_zero {b : Int} (h : rt b = false) : sz b = 0 := by unfold sz; rw [h]; rfl


set_option maxHeartbeats 400000 in
theorem sqright_any (b : Int) (w : World) :
    Calls Try.prog 298 #[.agg #[.int .i64 b]] w fun e w' => e = .returned (.bool (rt b)) ∧ Below w.heap.size w w' := by
  go_enter Try.func298, Try.ntmps298
  go_wp2
  go_loop [4] (fun i => ∃ k : Nat, k ≤ 16 ∧ i = .int .i64 k ∧ (b < 1 ∨ k < b)) (fun i => 16 - (intOf i).toNat)
  case atStart => exact ⟨0, by omega, rfl, by omega⟩
  case round =>
    obtain ⟨k, hk, rfl, hb⟩ := hrel
    go_wp2
    · go_ret
      exact ⟨ret_bool (rt_of (by omega) (by omega)).symm, (Below.refl _ _).alloc (Nat.le_refl _) _⟩
    · go_round
      case rel => exact ⟨k + 1, by omega, by go_num, by omega⟩
      case measure => simp [intOf]; omega
    · go_ret
      exact ⟨ret_bool (rt_not (by omega)).symm, (Below.refl _ _).alloc (Nat.le_refl _) _⟩



set_option maxHeartbeats 400000 in
theorem sqsize_any (b : Int) (w : World) :
    Calls Try.prog 192 #[.agg #[.int .i64 b]] w fun e w' => e = .returned (.int .i64 (sz b)) ∧ Below w.heap.size w w' := by
  cases hr : rt b
  · rw [sz_zero hr]
    have H := Lib.hid hr
    clear hr
    go_enter Try.func192, Try.ntmps192
    go_wp2_with (go_at_call 298; refine (sqright_any _ _).mono ?_; rintro e w1 ⟨rfl, hb⟩; rw [H.out])
    go_ret
    exact ⟨rfl, ((Below.refl _ _).alloc (Nat.le_refl _) _).trans (hb.mono (by simp))⟩
  · have hs := sz_cases hr
    obtain ⟨h1, h2⟩ := rt_true hr
    have hs : sz b = 2 ^ b.toNat := by unfold sz; rw [if_pos hr]
    have Hs := Lib.hid hs
    have H := Lib.hid hr
    clear hr hs
    go_enter Try.func192, Try.ntmps192
    go_wp2_with (go_at_call 298; refine (sqright_any _ _).mono ?_; rintro e w1 ⟨rfl, hb⟩; obtain ⟨hc, hf⟩ := bcell hb; rw [H.out])
    go_ret
    have hw : wrap64 (2 ^ b.toNat) = 2 ^ b.toNat := by rw [← Hs.out]; exact IntWalk.wrap64_in _ ⟨by omega, by omega⟩
    exact ⟨ret_int (hw.trans Hs.out.symm), ((Below.refl _ _).alloc (Nat.le_refl _) _).trans (hb.mono (by simp))⟩

theorem sz_bd (b : Int) : 0 ≤ sz b ∧ sz b ≤ 65536 := by
  cases h : rt b
  · rw [sz_zero h]; omega
  · have := sz_cases h; omega

set_option maxHeartbeats 400000 in
theorem sqis_any (b n : Int) (w : World) :
    Calls Try.prog 185 #[.agg #[.int .i64 b], .int .i64 n] w fun e w' => e = .returned (.bool (okn b n)) ∧ Below w.heap.size w w' := by
  by_cases hn : 0 ≤ n
  · have ho : okn b n = decide (n < sz b) := by unfold okn; simp [hn]
    have H := Lib.hid ho
    clear ho
    go_enter Try.func185, Try.ntmps185
    go_wp2_with (go_at_call 192; refine (sqsize_any _ _).mono ?_; rintro e w1 ⟨rfl, hb⟩)
    go_ret
    exact ⟨ret_bool H.out.symm, ((Below.refl _ _).alloc (Nat.le_refl _) _).trans (hb.mono (by simp))⟩
  · have ho : okn b n = false := decide_eq_false (by omega)
    have H := Lib.hid ho
    clear ho
    go_enter Try.func185, Try.ntmps185
    go_wp2
    go_ret
    exact ⟨ret_bool H.out.symm, ((Below.refl _ _).alloc (Nat.le_refl _) _)⟩

set_option maxHeartbeats 400000 in
theorem rsize_any (b : Int) (w : World) :
    Calls Try.prog 59 #[.int .i64 b] w fun e w' => e = .returned (.int .i64 (sz b)) ∧ w = w' := by
  cases hr : rt b
  · rw [sz_zero hr]
    have hb := rt_false hr
    clear hr
    by_cases h1 : b < 1
    · go_enter Try.func59, Try.ntmps59
      go_wp2
      go_ret
      exact ⟨rfl, rfl⟩
    · have h2 : 16 < b := by omega
      go_enter Try.func59, Try.ntmps59
      go_wp2
      go_ret
      exact ⟨rfl, rfl⟩
  · obtain ⟨h1, h2⟩ := rt_true hr
    have hs : sz b = 2 ^ b.toNat := by unfold sz; rw [if_pos hr]
    have Hs := Lib.hid hs
    clear hr hs
    go_enter Try.func59, Try.ntmps59
    go_wp2
    go_loop [3, 4] (fun v i => ∃ k n : Nat, (k : Int) ≤ b ∧ i = .int .i64 k ∧ v = .int .i64 n ∧ Hid (n = 2 ^ k) ∧ n ≤ 65536) (fun _ i => (b - intOf i).toNat)
    case atStart => exact ⟨0, 1, by omega, rfl, rfl, Lib.hid rfl, by omega⟩
    case round =>
      obtain ⟨k, n, hk, rfl, rfl, hn, hnb⟩ := hrel
      by_cases hlt : (k : Int) < b
      · go_wp2
        go_round
        case rel =>
          have e := hn.out
          have h15 : n ≤ 2 ^ 15 := by rw [e]; exact Nat.pow_le_pow_right (by omega) (by omega)
          exact ⟨k + 1, 2 * n, by omega, by go_num, by go_num, Lib.hid (by rw [e, Nat.pow_succ]; omega), by omega⟩
        case measure => simp [intOf]; omega
      · go_wp2
        go_ret
        have hkb : b.toNat = k := by omega
        exact ⟨ret_int (by rw [Hs.out, hkb, hn.out]; simp), rfl⟩

set_option maxHeartbeats 400000 in
theorem ris_any (b n : Int) (w : World) :
    Calls Try.prog 180 #[.int .i64 b, .int .i64 n] w fun e w' => e = .returned (.bool (okn b n)) ∧ w = w' := by
  by_cases hn : 0 ≤ n
  · have ho : okn b n = decide (n < sz b) := by unfold okn; simp [hn]
    have H := Lib.hid ho
    clear ho
    go_enter Try.func180, Try.ntmps180
    go_wp2_with (go_at_call 59; refine (rsize_any _ _).mono ?_; rintro e w1 ⟨rfl, rfl⟩)
    go_ret
    exact ⟨ret_bool H.out.symm, rfl⟩
  · have ho : okn b n = false := decide_eq_false (by omega)
    have H := Lib.hid ho
    clear ho
    go_enter Try.func180, Try.ntmps180
    go_wp2
    go_ret
    exact ⟨ret_bool H.out.symm, rfl⟩

end Go.Proofs.Ytgdpjaojlhdhdaa
namespace Go.Proofs.Ytgdpjaojlhdhdaa
open Go.RowKit

def flt (b : Int) (xs : List Int) : Int := if rt b then (if xs.all (okn b) then 0 else 1) else 3

theorem all_take_step {xs : List Int} {p : Int → Bool} {k : Nat} (hk : k < xs.length) (h : (xs.take k).all p = true) (hx : p xs[k] = true) : (xs.take (k + 1)).all p = true := by
  rw [List.take_succ_eq_append_getElem hk, List.all_append, h]; simp [hx]
theorem all_take_out {xs : List Int} {p : Int → Bool} {k : Nat} (hk : k < xs.length) (hx : p xs[k] = false) : xs.all p = false := by
  rw [List.all_eq_false]; exact ⟨xs[k], List.getElem_mem _, by simp [hx]⟩

set_option maxHeartbeats 400000 in
theorem fault_any (b : Int) (xs : List Int) (g : Nat) (w : World) (hx : ∀ i, (h : i < xs.length) → w.cell? ⟨g, i, none⟩ = some (.int .i64 xs[i])) (hg : g < w.heap.size) (hl : xs.length ≤ 3) :
    Calls Try.prog 272 #[.agg #[.int .i64 b], .slice (some ⟨g, 0, none⟩) xs.length xs.length] w fun e w' => e = .returned (.int .i64 (flt b xs)) ∧ Below w.heap.size w w' := by
  have HX := Lib.hid hx
  clear hx
  cases hr : rt b
  · have hf : flt b xs = 3 := by unfold flt; rw [hr]; rfl
    have HF := Lib.hid hf
    have H := Lib.hid hr
    clear hr hf
    go_enter Try.func272, Try.ntmps272
    go_wp2_with (go_at_call 298; refine (sqright_any _ _).mono ?_; rintro e w1 ⟨rfl, hb⟩; rw [H.out])
    go_ret
    exact ⟨ret_int HF.out.symm, ((Below.refl _ _).alloc (Nat.le_refl _) _).trans (hb.mono (by simp))⟩
  · have hf : flt b xs = if xs.all (okn b) then 0 else 1 := by unfold flt; rw [hr]; rfl
    have HF := Lib.hid hf
    have H := Lib.hid hr
    clear hr hf
    go_enter Try.func272, Try.ntmps272
    go_wp2_with (go_at_call 298; refine (sqright_any _ _).mono ?_; rintro e w1 ⟨rfl, hb⟩; rw [H.out])
    go_loopw [12] (fun i wr => ∃ k : Nat, k ≤ xs.length ∧ i = .int .i64 k ∧ Hid ((xs.take k).all (okn b) = true) ∧ Below (w.alloc (.cells #[.int .i64 b] 100)).heap.size (w.alloc (.cells #[.int .i64 b] 100)) wr) (fun i _ => xs.length - (intOf i).toNat)
    case atStart => exact ⟨0, by omega, rfl, Lib.hid (by simp), hb⟩
    case round =>
      obtain ⟨k, hk, rfl, hall, hbr⟩ := hrel
      have hfin : Below w.heap.size w wr := ((Below.refl _ _).alloc (Nat.le_refl _) _).trans (hbr.mono (by simp))
      have hbox : wr.cell? ⟨w.heap.size, 0, none⟩ = some (.int .i64 b) := (hbr.cell (p := ⟨w.heap.size, 0, none⟩) (by simp)).trans (by simp)
      by_cases hlt : k < xs.length
      · have hcell : wr.cell? ⟨g, k, none⟩ = some (.int .i64 xs[k]) := ((hbr.cell (p := ⟨g, k, none⟩) (by simp; omega)).trans (World.cell?_alloc_lt w _ _ hg)).trans (HX.out k hlt)
        have HB := Lib.hid hbr
        clear hb hbr
        cases ho : okn b xs[k]
        · have hA := Lib.hid (all_take_out hlt ho)
          have HO := Lib.hid ho
          clear ho
          go_wp2_with (go_at_call 185; refine (sqis_any _ _ _).mono ?_; rintro e w1 ⟨rfl, hb1⟩; rw [HO.out])
          go_ret
          exact ⟨ret_int (by rw [HF.out, hA.out]; rfl), hfin.trans (hb1.mono hfin.size)⟩
        · have hA := Lib.hid (all_take_step hlt hall.out ho)
          have HO := Lib.hid ho
          clear ho
          go_wp2_with (go_at_call 185; refine (sqis_any _ _ _).mono ?_; rintro e w1 ⟨rfl, hb1⟩; rw [HO.out])
          go_roundw
          case rel => exact ⟨k + 1, by omega, by go_num, hA, HB.out.trans (hb1.mono HB.out.size)⟩
          case measure => simp [intOf]; omega
      · clear hb
        go_wp2
        go_ret
        exact ⟨ret_int (by rw [HF.out, ← List.take_of_length_le (i := k) (l := xs) (by omega), hall.out]; rfl), hfin⟩

theorem okn_true {b n : Int} (h : okn b n = true) : 0 ≤ n ∧ n < sz b := of_decide_eq_true h
theorem okn_false {b n : Int} (h : okn b n = false) : n < 0 ∨ sz b ≤ n := by have := of_decide_eq_false h; omega

theorem flt_ok {b : Int} {xs : List Int} (hr : rt b = true) (h : xs.all (okn b) = true) : flt b xs = 0 := by
  unfold flt; rw [hr, h]; rfl
theorem flt_ne {b : Int} {xs : List Int} (h : (rt b && xs.all (okn b)) = false) : flt b xs = 1 ∨ flt b xs = 3 := by
  unfold flt
  cases hr : rt b
  · right; rfl
  · left
    rw [hr, Bool.true_and] at h
    rw [h]; rfl
theorem all1 {p : Int → Bool} (a : Int) : [a].all p = p a := by simp

theorem cells1 {w : World} {a : Int} (i : Nat) (hi : i < [a].length) : (w.alloc (.cells #[.int .i64 a] 3)).cell? ⟨w.heap.size, i, none⟩ = some (.int .i64 [a][i]) := by
  match i, hi with
  | 0, _ => simp
theorem fault1 (b a : Int) (w : World) (g : Nat) (hg : w.heap.size = g) : Calls Try.prog 272 #[.agg #[.int .i64 b], .slice (some ⟨g, 0, none⟩) 1 1] (w.alloc (.cells #[.int .i64 a] 3)) fun e w' => e = .returned (.int .i64 (flt b [a])) ∧ Below (w.alloc (.cells #[.int .i64 a] 3)).heap.size (w.alloc (.cells #[.int .i64 a] 3)) w' := by
  subst hg
  exact fault_any b [a] w.heap.size _ cells1 (by simp) (by simp)
def GoE (b n c : Int) : Int := if rt b && [n].all (okn b) then (if c < -65536 ∨ 65536 < c then 1 else 0) else flt b [n]
def GoV (b n c : Int) : Int := if rt b && [n].all (okn b) then (if c < -65536 ∨ 65536 < c then 0 else (n + c) % sz b) else 0

theorem sz_dvd {b : Int} (hr : rt b = true) (x : Int) : (x + 65536) % sz b = x % sz b := by
  obtain h | h | h | h | h | h | h | h | h | h | h | h | h | h | h | h := sz_cases hr <;> rw [h] <;> omega

set_option maxHeartbeats 800000 in
theorem Go_any (b n c : Int) (w : World) :
    Calls Try.prog 159 #[.agg #[.int .i64 b], .int .i64 n, .int .i64 c] w fun e w' => e = .returned (.tuple #[.int .i64 (GoV b n c), .int .i64 (GoE b n c)]) ∧ Below w.heap.size w w' := by
  cases hq : rt b && [n].all (okn b)
  · have hv : GoV b n c = 0 := by unfold GoV; rw [hq]; rfl
    have he : GoE b n c = flt b [n] := by unfold GoE; rw [hq]; rfl
    have hn' : (flt b [n] != 0) = true := by have := flt_ne hq; simp; omega
    have HV := Lib.hid hv
    have HE := Lib.hid he
    clear hv hq he
    rw [HV.out, HE.out]
    go_enter Try.func159, Try.ntmps159
    go_wp2
    go_step3
    go_wp2_with (go_at_call 272; refine (fault1 b n _ _ ?_).mono ?_; simp; rintro e w1 ⟨rfl, hb1⟩)
    rw [Exit.noGoto_ret]
    go_ret2
    exact ⟨rfl, by repeat (first | exact Below.refl _ _ | refine bl_alloc ?_ _ | refine bl_drew ?_ | refine bl_step ?_ (by assumption))⟩
  · have hv : GoV b n c = if c < -65536 ∨ 65536 < c then 0 else (n + c) % sz b := by unfold GoV; rw [hq]; rfl
    have hge : GoE b n c = if c < -65536 ∨ 65536 < c then 1 else 0 := by unfold GoE; rw [hq]; rfl
    rw [all1, Bool.and_eq_true] at hq
    obtain ⟨hr, h1⟩ := hq
    have he : flt b [n] = 0 := flt_ok hr (by rw [all1, h1])
    have hs := sz_cases hr
    have hz : 2 ≤ sz b ∧ sz b ≤ 65536 := by omega
    obtain ⟨hz1, hz2⟩ := hz
    obtain ⟨ha1, ha2⟩ := okn_true h1
    have HV := Lib.hid hv
    have HG := Lib.hid hge
    have HE := Lib.hid he
    have HR := Lib.hid hr
    clear hv he hr h1 hge hs
    rw [HV.out, HG.out]
    by_cases c1 : c < -65536
    · rw [if_pos (Or.inl c1), if_pos (Or.inl c1)]
      go_enter Try.func159, Try.ntmps159
      go_wp2
      go_step3
      go_wp2_with (go_at_call 272; refine (fault1 b n _ _ ?_).mono ?_; simp; rintro e w1 ⟨rfl, hb1⟩; obtain ⟨hc1, hf1⟩ := bcell hb1; rw [HE.out])
      rw [Exit.noGoto_ret]
      go_ret2
      exact ⟨rfl, by repeat (first | exact Below.refl _ _ | refine bl_alloc ?_ _ | refine bl_drew ?_ | refine bl_step ?_ (by assumption))⟩
    · by_cases c2 : 65536 < c
      · rw [if_pos (Or.inr c2), if_pos (Or.inr c2)]
        go_enter Try.func159, Try.ntmps159
        go_wp2
        go_step3
        go_wp2_with (go_at_call 272; refine (fault1 b n _ _ ?_).mono ?_; simp; rintro e w1 ⟨rfl, hb1⟩; obtain ⟨hc1, hf1⟩ := bcell hb1; rw [HE.out])
        rw [Exit.noGoto_ret]
        go_ret2
        exact ⟨rfl, by repeat (first | exact Below.refl _ _ | refine bl_alloc ?_ _ | refine bl_drew ?_ | refine bl_step ?_ (by assumption))⟩
      · rw [if_neg (by omega), if_neg (by omega)]
        by_cases c3 : c < 0
        · go_enter Try.func159, Try.ntmps159
          go_wp2
          refine wp_scope_jumps 0 (fun a' w' => Fr [some (.agg #[.int .i64 b]), some (.int .i64 n), some (.int .i64 c), some (.pointer (some ⟨w.heap.size, 0, none⟩)), none, none, none, none, none, none, none, none, none, none, none, none, none, none, none, none, none, none, none, none, none, none, none, none, none, none, none, none, none, none, none, none, none, none, none] a' ∧ Below (w.alloc (.cells #[.int .i64 b] 100)).heap.size (w.alloc (.cells #[.int .i64 b] 100)) w') (fun _ _ => 0) rfl ?_ ?_
          · go_wp2_with (first
              | (go_at_call 272; refine (fault1 b n _ _ ?_).mono ?_; simp; rintro e w1 ⟨rfl, hb1⟩; obtain ⟨hc1, hf1⟩ := bcell hb1; rw [HE.out])
              | (go_at_call 192; refine (sqsize_any _ _).mono ?_; rintro e w2 ⟨rfl, hb2⟩))
            go_step3
            refine ⟨rfl, ?_, ?_⟩
            · simp only [Fr, Holes]
              repeat apply Exists.intro
              rfl
            · exact ((Below.refl _ _).alloc (by simp) _).trans (hb1.mono (by simp))
          · rintro a' w' ⟨hfr, hbr⟩
            simp only [Fr, Holes] at hfr
            repeat (obtain ⟨_, hfr⟩ := hfr)
            have hbox : w'.cell? ⟨w.heap.size, 0, none⟩ = some (.int .i64 b) := (hbr.cell (p := ⟨w.heap.size, 0, none⟩) (by simp)).trans (by simp)
            have HB := Lib.hid hbr
            clear hbr
            go_wp2_with (go_at_call 192; refine (sqsize_any _ _).mono ?_; rintro e w2 ⟨rfl, hb2⟩)
            simp only [Exit.jump]
            go_ret2
            exact ⟨ret_ints (sz_dvd HR.out _) rfl, bl_step (((Below.refl _ _).alloc (Nat.le_refl _) _).trans (HB.out.mono (by simp))) hb2⟩
        · go_enter Try.func159, Try.ntmps159
          go_wp2
          go_step3
          go_wp2_with (first
            | (go_at_call 272; refine (fault1 b n _ _ ?_).mono ?_; simp; rintro e w1 ⟨rfl, hb1⟩; obtain ⟨hc1, hf1⟩ := bcell hb1; rw [HE.out])
            | (go_at_call 192; refine (sqsize_any _ _).mono ?_; rintro e w2 ⟨rfl, hb2⟩))
          rw [Exit.noGoto_ret]
          go_ret2
          exact ⟨rfl, by repeat (first | exact Below.refl _ _ | refine bl_alloc ?_ _ | refine bl_drew ?_ | refine bl_step ?_ (by assumption))⟩
theorem go_val {b n c : Int} (hr : rt b = true) (h1 : okn b n = true) (h2 : -65536 ≤ c) (h3 : c ≤ 65536) : GoE b n c = 0 ∧ GoV b n c = (n + c) % sz b := by
  have hq : (rt b && [n].all (okn b)) = true := by rw [all1, hr, h1]; rfl
  unfold GoE GoV
  rw [hq]
  simp only [if_true]
  rw [if_neg (by omega), if_neg (by omega)]
  exact ⟨rfl, rfl⟩
end Go.Proofs.Ytgdpjaojlhdhdaa
namespace Go.Proofs.Ytgdpjaojlhdhdaa
open Go.RowKit

def farV (b a c : Int) : Int := (c - a) % sz b
set_option maxHeartbeats 400000 in
theorem qfar_any (b a c : Int) (w : World) (hr : rt b = true) (h1 : okn b a = true) (h2 : okn b c = true) :
    Calls Try.prog 299 #[.agg #[.int .i64 b], .int .i64 a, .int .i64 c] w fun e w' => e = .returned (.int .i64 (farV b a c)) ∧ Below w.heap.size w w' := by
  have hs := sz_cases hr
  have hz : 2 ≤ sz b ∧ sz b ≤ 65536 := by omega
  obtain ⟨hz1, hz2⟩ := hz
  obtain ⟨ha1, ha2⟩ := okn_true h1
  obtain ⟨hc1, hc2⟩ := okn_true h2
  clear hs hr h1 h2
  go_enter Try.func299, Try.ntmps299
  go_wp2
  go_region_with (go_at_call 192; refine (sqsize_any _ _).mono ?_; rintro e w1 ⟨rfl, hb⟩; obtain ⟨hc, hf⟩ := bcell hb)
  all_goals
    go_wp2
    go_ret
    exact ⟨ret_int (by unfold farV; rfl), by repeat (first | exact Below.refl _ _ | refine bl_alloc ?_ _ | refine bl_drew ?_ | refine bl_step ?_ (by assumption))⟩
theorem all2 {p : Int → Bool} (a c : Int) : [a, c].all p = (p a && p c) := by simp
/-- how far, or 0 -/
def FarV (b a c : Int) : Int := if rt b && [a, c].all (okn b) then farV b a c else 0
theorem cells2 {w : World} {a c : Int} (i : Nat) (hi : i < [a, c].length) : (w.alloc (.cells #[.int .i64 a, .int .i64 c] 3)).cell? ⟨w.heap.size, i, none⟩ = some (.int .i64 [a, c][i]) := by
  match i, hi with
  | 0, _ => simp
  | 1, _ => simp
theorem fault2 (b a c : Int) (w : World) (g : Nat) (hg : w.heap.size = g) : Calls Try.prog 272 #[.agg #[.int .i64 b], .slice (some ⟨g, 0, none⟩) 2 2] (w.alloc (.cells #[.int .i64 a, .int .i64 c] 3)) fun e w' => e = .returned (.int .i64 (flt b [a, c])) ∧ Below (w.alloc (.cells #[.int .i64 a, .int .i64 c] 3)).heap.size (w.alloc (.cells #[.int .i64 a, .int .i64 c] 3)) w' := by
  subst hg
  exact fault_any b [a, c] w.heap.size _ cells2 (by simp) (by simp)
set_option maxHeartbeats 400000 in
theorem qFar_any (b a c : Int) (w : World) :
    Calls Try.prog 199 #[.agg #[.int .i64 b], .int .i64 a, .int .i64 c] w fun e w' => e = .returned (.tuple #[.int .i64 (FarV b a c), .int .i64 (flt b [a, c])]) ∧ Below w.heap.size w w' := by
  cases hq : rt b && [a, c].all (okn b)
  · have hv : FarV b a c = 0 := by unfold FarV; rw [hq]; rfl
    have hn' : (flt b [a, c] != 0) = true := by have := flt_ne hq; simp; omega
    have HV := Lib.hid hv
    clear hv hq
    rw [HV.out]
    go_enter Try.func199, Try.ntmps199
    go_wp2_with (go_at_call 272; refine (fault2 b a c _ _ ?_).mono ?_; simp; rintro e w1 ⟨rfl, hb1⟩)
    go_ret2
    exact ⟨rfl, by repeat (first | exact Below.refl _ _ | refine bl_alloc ?_ _ | refine bl_drew ?_ | refine bl_step ?_ (by assumption))⟩
  · have hv : FarV b a c = farV b a c := by unfold FarV; rw [hq]; rfl
    rw [all2, Bool.and_eq_true, Bool.and_eq_true] at hq
    obtain ⟨hr, h1, h2⟩ := hq
    have he : flt b [a, c] = 0 := flt_ok hr (by rw [all2, h1, h2]; rfl)
    have HV := Lib.hid hv
    have HE := Lib.hid he
    have HR := Lib.hid hr
    have H1 := Lib.hid h1
    have H2 := Lib.hid h2
    clear hv he hr h1 h2
    rw [HV.out, HE.out]
    go_enter Try.func199, Try.ntmps199
    go_wp2_with (first
      | (go_at_call 272; refine (fault2 b a c _ _ ?_).mono ?_; simp; rintro e w1 ⟨rfl, hb1⟩; obtain ⟨hc1, hf1⟩ := bcell hb1; rw [HE.out])
      | (go_at_call 299; refine (qfar_any _ _ _ _ HR.out H1.out H2.out).mono ?_; rintro e w2 ⟨rfl, hb2⟩))
    go_ret2
    exact ⟨rfl, by repeat (first | exact Below.refl _ _ | refine bl_alloc ?_ _ | refine bl_drew ?_ | refine bl_step ?_ (by assumption))⟩
theorem mod_near {M x : Int} (h1 : -M < x) (h2 : x < M) : x % M = if 0 ≤ x then x else x + M := by
  split
  · exact Int.emod_eq_of_lt (by omega) h2
  · have : x % M = (x + M) % M := (Int.add_emod_right x M).symm
    rw [this]
    exact Int.emod_eq_of_lt (by omega) (by omega)

theorem rt_pos {b : Int} (hr : rt b = true) : 2 ≤ sz b ∧ sz b ≤ 65536 := by have := sz_cases hr; omega
theorem okn_mod {b : Int} (hr : rt b = true) (x : Int) : okn b (x % sz b) = true := by
  have h := rt_pos hr
  exact decide_eq_true ⟨Int.emod_nonneg _ (by omega), Int.emod_lt_of_pos _ (by omega)⟩
theorem far_val {b a c : Int} (hr : rt b = true) (h1 : okn b a = true) (h2 : okn b c = true) : flt b [a, c] = 0 ∧ FarV b a c = (c - a) % sz b := by
  have hq : [a, c].all (okn b) = true := by rw [all2, h1, h2]; rfl
  refine ⟨flt_ok hr hq, ?_⟩
  unfold FarV farV
  rw [hr, hq]
  rfl
end Go.Proofs.Ytgdpjaojlhdhdaa
namespace Go.Proofs.Ytgdpjaojlhdhdaa
open Go.RowKit

def ix (N f n : Int) : Nat := ((n - f) % N).toNat
def ak (N f : Int) (l : List Bool) (n : Int) : Bool := l.getD (ix N f n) false
def opb (N f : Int) (l : List Bool) (n : Int) : Bool := !(l.getD (ix N f n) true)
/-- the first end goes on over what is acknowledged -/
def nrm (N : Int) : Int → List Bool → Int × List Bool
  | f, true :: r => nrm N ((f + 1) % N) r
  | f, l => (f, l)
def opens (N f : Int) (l : List Bool) : List Int := ((List.range l.length).filter fun i => !(l.getD i true)).map fun i : Nat => (f + i) % N
section
variable {N f n m : Int} {l r : List Bool}
theorem ix_at {i : Nat} (hi : (i : Int) < N) : ix N f ((f + i) % N) = i := by
  unfold ix
  have h : ((f + i) % N - f) % N = (f + i - f) % N := by rw [Int.sub_emod, Int.emod_emod, ← Int.sub_emod]
  rw [h, show f + (i : Int) - f = i by omega, Int.emod_eq_of_lt (by omega) hi]
  omega
theorem at_ix (hN : 0 < N) (h1 : 0 ≤ n) (h2 : n < N) : (f + (ix N f n : Nat)) % N = n := by
  unfold ix
  have h0 := Int.emod_nonneg (n - f) (b := N) (by omega)
  rw [Int.toNat_of_nonneg h0, Int.add_emod, Int.emod_emod, ← Int.add_emod, show f + (n - f) = n by omega, Int.emod_eq_of_lt h1 h2]
theorem ix_lt (hN : 0 < N) : (ix N f n : Int) < N := by
  unfold ix
  have h0 := Int.emod_nonneg (n - f) (b := N) (by omega)
  have h1 := Int.emod_lt_of_pos (n - f) hN
  omega
theorem ix_inj (hN : 0 < N) (h1 : 0 ≤ n) (h2 : n < N) (h3 : 0 ≤ m) (h4 : m < N) (h : ix N f n = ix N f m) : n = m := by
  rw [← at_ix (f := f) hN h1 h2, ← at_ix (f := f) hN h3 h4, h]
theorem ix_self : ix N f f = 0 := by unfold ix; simp
theorem ix_val (h1 : 0 ≤ f) (h2 : f < N) (h3 : 0 ≤ n) (h4 : n < N) : (ix N f n : Int) = if f ≤ n then n - f else n - f + N := by
  unfold ix
  rw [mod_near (M := N) (x := n - f) (by omega) (by omega)]
  split <;> split <;> omega
theorem one_val (h1 : 0 ≤ f) (h2 : f < N) : (f + 1) % N = if f + 1 = N then 0 else f + 1 := by
  split
  · rename_i h; rw [h]; exact Int.emod_self
  · exact Int.emod_eq_of_lt (by omega) (by omega)
theorem ix_next (h1 : 0 ≤ f) (h2 : f < N) (h3 : 0 ≤ n) (h4 : n < N) (hne : n ≠ f) : ix N f n = ix N ((f + 1) % N) n + 1 := by
  have a := ix_val h1 h2 h3 h4
  have h5 := one_val h1 h2
  have b := ix_val (N := N) (f := (f + 1) % N) (n := n) (Int.emod_nonneg _ (by omega)) (Int.emod_lt_of_pos _ (by omega)) h3 h4
  by_cases c : f + 1 = N
  · rw [if_pos c] at h5
    rw [h5] at b ⊢
    by_cases d : f ≤ n
    · rw [if_pos d] at a; rw [if_pos (by omega)] at b; omega
    · rw [if_neg d] at a; rw [if_pos (by omega)] at b; omega
  · rw [if_neg c] at h5
    rw [h5] at b ⊢
    by_cases d : f ≤ n
    · rw [if_pos d] at a; rw [if_pos (by omega)] at b; omega
    · rw [if_neg d] at a; rw [if_neg (by omega)] at b; omega
theorem ix_round (h1 : 0 ≤ f) (h2 : f < N) : (ix N ((f + 1) % N) f : Int) = N - 1 := by
  have h5 := one_val h1 h2
  have b := ix_val (N := N) (f := (f + 1) % N) (n := f) (Int.emod_nonneg _ (by omega)) (Int.emod_lt_of_pos _ (by omega)) h1 h2
  by_cases c : f + 1 = N
  · rw [if_pos c] at h5
    rw [h5] at b ⊢
    rw [if_pos (by omega)] at b
    omega
  · rw [if_neg c] at h5
    rw [h5] at b ⊢
    rw [if_neg (by omega)] at b
    omega
theorem ak_put (hN : 0 < N) (h1 : 0 ≤ n) (h2 : n < N) (h3 : 0 ≤ m) (h4 : m < N) (hl : ix N f n < l.length) : ak N f (l.set (ix N f n) true) m = if m = n then true else ak N f l m := by
  unfold ak
  split
  · rename_i h; subst h
    rw [List.getD_eq_getElem?_getD, List.getElem?_set_self hl]; rfl
  · rename_i h
    rw [List.getD_eq_getElem?_getD, List.getElem?_set_ne (fun e => h (ix_inj hN h3 h4 h1 h2 e.symm)), ← List.getD_eq_getElem?_getD]
theorem ak_tail (h1 : 0 ≤ f) (h2 : f < N) (h3 : 0 ≤ m) (h4 : m < N) (hl : (r.length : Int) < N) (c : Bool) : ak N ((f + 1) % N) r m = if m = f then false else ak N f (c :: r) m := by
  unfold ak
  split
  · rename_i h; subst h
    have := ix_round h1 h2
    rw [List.getD_eq_getElem?_getD, List.getElem?_eq_none (by omega)]; rfl
  · rename_i h
    rw [ix_next h1 h2 h3 h4 h]; rfl
theorem ak_snoc : ak N f (l ++ [false]) n = ak N f l n := by
  unfold ak
  rw [List.getD_eq_getElem?_getD, List.getD_eq_getElem?_getD, List.getElem?_append]
  split
  · rfl
  · rename_i h
    rw [List.getElem?_eq_none (l := l) (by omega)]
    cases hh : [false][ix N f n - l.length]? with
    | none => rfl
    | some v =>
      have := List.mem_of_getElem? hh
      simp at this
      simp [this]
theorem ak_nil : ak N f [] n = false := by unfold ak; rfl
theorem opb_not (h : opb N f l n = true) : ix N f n < l.length ∧ l[ix N f n]? = some false := by
  unfold opb at h
  rw [List.getD_eq_getElem?_getD] at h
  cases hh : l[ix N f n]? with
  | none => rw [hh] at h; simp at h
  | some v =>
    rw [hh] at h
    simp at h
    subst h
    exact ⟨(List.getElem?_eq_some_iff.1 hh).1, rfl⟩
theorem opb_of (h : l[ix N f n]? = some false) : opb N f l n = true := by
  unfold opb
  rw [List.getD_eq_getElem?_getD, h]; rfl
/-- what is open is what is less far than the other end, and not acknowledged -/
theorem opb_ak : opb N f l n = (decide (ix N f n < l.length) && !(ak N f l n)) := by
  unfold opb ak
  rw [List.getD_eq_getElem?_getD, List.getD_eq_getElem?_getD]
  by_cases h : ix N f n < l.length
  · rw [List.getElem?_eq_getElem h]; simp [h]
  · rw [List.getElem?_eq_none (by omega)]; simp [h]
theorem count_put {i : Nat} (h : l[i]? = some false) : (l.set i true).count true = l.count true + 1 := by
  obtain ⟨hi, he⟩ := List.getElem?_eq_some_iff.1 h
  rw [List.count_set hi, he]
  simp
theorem nrm_cases (N : Int) (f : Int) (l : List Bool) : (∃ r, l = true :: r ∧ nrm N f l = nrm N ((f + 1) % N) r) ∨ (l.head? ≠ some true ∧ nrm N f l = (f, l)) := by
  match l with
  | [] => exact .inr ⟨by simp, rfl⟩
  | true :: r => exact .inl ⟨r, rfl, rfl⟩
  | false :: r => exact .inr ⟨by simp, rfl⟩
end
end Go.Proofs.Ytgdpjaojlhdhdaa
namespace Go.Proofs.Ytgdpjaojlhdhdaa
open Go.RowKit

/-- at least k long -/
def gro (l : List Bool) (k : Nat) : List Bool := l ++ List.replicate (k - l.length) false
/-- the first place from c on that is not whole -/
def opn (l : List Bool) (c : Nat) : Nat := c + ((l.drop c).takeWhile id).length
section
variable {N f n m : Int} {l r : List Bool} {c i j k : Nat}
theorem getD_out (h : l.length ≤ i) : l.getD i false = false := by
  rw [List.getD_eq_getElem?_getD, List.getElem?_eq_none h]; rfl
theorem getD_lt (h : l.getD i false = true) : i < l.length := by
  by_cases hi : i < l.length
  · exact hi
  · rw [getD_out (by omega)] at h; cases h
theorem getD_at (h : i < l.length) : l.getD i false = l[i] := by
  rw [List.getD_eq_getElem?_getD, List.getElem?_eq_getElem h]; rfl
theorem opn_stop (h : l.getD c false = false) : opn l c = c := by
  unfold opn
  by_cases hc : c < l.length
  · rw [getD_at hc] at h
    rw [List.drop_eq_getElem_cons hc, h]
    simp
  · rw [List.drop_eq_nil_of_le (by omega)]; rfl
theorem opn_step (h : l.getD c false = true) : opn l c = opn l (c + 1) := by
  have hc := getD_lt h
  rw [getD_at hc] at h
  unfold opn
  rw [List.drop_eq_getElem_cons hc, h]
  simp
  omega
theorem opn_ge : c ≤ opn l c := by unfold opn; omega
theorem opn_le (h : c ≤ l.length) : opn l c ≤ l.length := by
  unfold opn
  have := (List.takeWhile_prefix (p := id) (l := l.drop c)).length_le
  simp at this
  omega
theorem opn_ind (P : Nat → Prop) (h1 : ∀ c, l.getD c false = false → P c) (h2 : ∀ c, l.getD c false = true → P (c + 1) → P c) : ∀ c, P c := by
  have : ∀ d c, l.length - c = d → P c := by
    intro d
    induction d with
    | zero => exact fun c hc => h1 c (getD_out (by omega))
    | succ d ih =>
      intro c hc
      cases hv : l.getD c false
      · exact h1 c hv
      · exact h2 c hv (ih (c + 1) (by omega))
  exact fun c => this _ c rfl
theorem opn_at : ∀ c, l.getD (opn l c) false = false :=
  opn_ind _ (fun c h => by rw [opn_stop h]; exact h) (fun c h ih => by rw [opn_step h]; exact ih)
theorem opn_in : ∀ c i, c ≤ i → i < opn l c → l.getD i false = true :=
  opn_ind _ (fun c h i h1 h2 => by rw [opn_stop h] at h2; omega) (fun c h ih i h1 h2 => by
    rw [opn_step h] at h2
    by_cases e : i = c
    · subst e; exact h
    · exact ih i (by omega) h2)
theorem gro_length : (gro l k).length = max l.length k := by unfold gro; simp; omega
theorem gro_getD : (gro l k).getD i false = l.getD i false := by
  unfold gro
  by_cases hi : i < l.length
  · rw [List.getD_eq_getElem?_getD, List.getD_eq_getElem?_getD, List.getElem?_append_left hi]
  · rw [getD_out (l := l) (by omega), List.getD_eq_getElem?_getD, List.getElem?_append_right (by omega), List.getElem?_replicate]
    split <;> rfl
theorem gro_count : (gro l k).count true = l.count true := by
  unfold gro
  rw [List.count_append, List.count_replicate]
  simp
theorem ak_gro : ak N f (gro l k) n = ak N f l n := gro_getD
theorem gro_at (h : k < l.length) : (gro l (k + 1)) = l := by unfold gro; rw [show k + 1 - l.length = 0 by omega]; simp
theorem drop_getD : (l.drop j).getD i false = l.getD (j + i) false := by
  rw [List.getD_eq_getElem?_getD, List.getD_eq_getElem?_getD, List.getElem?_drop]
theorem set_getD (h : k < l.length) : (l.set k true).getD i false = if i = k then true else l.getD i false := by
  split
  · rename_i e; subst e
    rw [List.getD_eq_getElem?_getD, List.getElem?_set_self h]; rfl
  · rename_i e
    rw [List.getD_eq_getElem?_getD, List.getElem?_set_ne (fun x => e x.symm), ← List.getD_eq_getElem?_getD]
theorem get_false (h : l.getD k false = false) (hk : k < l.length) : l[k]? = some false := by
  rw [List.getElem?_eq_getElem hk, ← getD_at hk, h]
/-- the numbers that the first end went past -/
def past (N f : Int) (k : Nat) : List Int := (List.range k).map fun i : Nat => (f + i) % N
theorem past_succ : past N f (k + 1) = past N f k ++ [(f + k) % N] := by unfold past; rw [List.range_succ, List.map_append]; rfl
theorem past_length : (past N f k).length = k := by unfold past; simp
/-- what is missing ahead of the k-th -/
def miss (N f : Int) (l : List Bool) (k : Nat) : List Int := ((List.range k).filter fun i => !(l.getD i false)).map fun i : Nat => (f + i) % N
theorem miss_succ : miss N f l (k + 1) = miss N f l k ++ (if l.getD k false = true then [] else [(f + k) % N]) := by
  unfold miss
  rw [List.range_succ, List.filter_append, List.map_append]
  congr 1
  by_cases h : l.getD k false = true
  · rw [if_pos h, List.filter_cons_of_neg (by rw [h]; decide)]; rfl
  · rw [if_neg h, List.filter_cons_of_pos (by simpa using h)]; rfl
theorem miss_le : (miss N f l k).length ≤ k := by
  unfold miss
  rw [List.length_map]
  exact Nat.le_trans (List.length_filter_le _ _) (by simp)
/-- each missing number is at a place ahead that is not whole; the places rise -/
theorem miss_at {q : Nat} {v : Int} (h : (miss N f l k)[q]? = some v) : ∃ i : Nat, i < k ∧ l.getD i false = false ∧ v = (f + i) % N := by
  have hm := List.mem_of_getElem? h
  unfold miss at hm
  obtain ⟨i, hi, rfl⟩ := List.mem_map.1 hm
  obtain ⟨h1, h2⟩ := List.mem_filter.1 hi
  exact ⟨i, by simpa using h1, by simpa using h2, rfl⟩
theorem miss_rise {q : Nat} {u v : Int} (h1 : (miss N f l k)[q]? = some u) (h2 : (miss N f l k)[q + 1]? = some v) : ∃ i j : Nat, i < j ∧ j < k ∧ u = (f + i) % N ∧ v = (f + j) % N := by
  unfold miss at h1 h2
  rw [List.getElem?_map] at h1 h2
  obtain ⟨i, hi, rfl⟩ := Option.map_eq_some_iff.1 h1
  obtain ⟨j, hj, rfl⟩ := Option.map_eq_some_iff.1 h2
  have hp : (List.range k).Pairwise (· < ·) := List.pairwise_lt_range
  have hp2 := hp.filter (fun i => !(l.getD i false))
  obtain ⟨a1, b1⟩ := List.getElem?_eq_some_iff.1 hi
  obtain ⟨a2, b2⟩ := List.getElem?_eq_some_iff.1 hj
  have := List.pairwise_iff_getElem.1 hp2 q (q + 1) a1 a2 (by omega)
  rw [b1, b2] at this
  have hj2 := (List.mem_filter.1 (List.mem_of_getElem? hj)).1
  exact ⟨i, j, this, by simpa using hj2, rfl, rfl⟩
end
end Go.Proofs.Ytgdpjaojlhdhdaa
namespace Go.Proofs.Ytgdpjaojlhdhdaa
open Go.RowKit

/-- from w to v only blocks in S, and new ones, have changed -/
structure Only (S : Nat → Prop) (w v : World) : Prop where
  os : v.os = w.os
  tape : v.tape = w.tape
  output : v.output = w.output
  size : w.heap.size ≤ v.heap.size
  same : ∀ k, k < w.heap.size → ¬ S k → v.heap[k]? = w.heap[k]?

section
variable {S T : Nat → Prop} {w v u : World}
theorem Only.refl (S : Nat → Prop) (w : World) : Only S w w := ⟨rfl, rfl, rfl, Nat.le_refl _, fun _ _ _ => rfl⟩
theorem Only.weaker (h : Only S w v) (hs : ∀ k, k < w.heap.size → S k → T k) : Only T w v :=
  ⟨h.os, h.tape, h.output, h.size, fun k hk hn => h.same k hk fun hk' => hn (hs k hk hk')⟩
theorem Only.andThen (h : Only S w v) (h' : Only T v u) (hs : ∀ k, k < w.heap.size → T k → S k) : Only S w u :=
  ⟨h'.os.trans h.os, h'.tape.trans h.tape, h'.output.trans h.output, Nat.le_trans h.size h'.size, fun k hk hn =>
    (h'.same k (Nat.lt_of_lt_of_le hk h.size) fun hk' => hn (hs k hk hk')).trans (h.same k hk hn)⟩
theorem Only.of_below (h : Below w.heap.size w v) : Only S w v := ⟨h.os, h.tape, h.output, h.size, fun k hk _ => h.block k hk⟩
theorem Only.below (h : Only S w v) {B : Nat} (hB : B ≤ w.heap.size) (hs : ∀ k, k < B → ¬ S k) : Below B w v :=
  ⟨h.os, h.tape, h.output, h.size, fun k hk => h.same k (Nat.lt_of_lt_of_le hk hB) (hs k hk)⟩
theorem Only.alloc (h : Only S w v) (o : Obj) : Only S w (v.alloc o) :=
  h.andThen (T := fun _ => False) (.of_below (bl_alloc (Below.refl _ _) o)) fun _ _ hk => hk.elim
theorem Only.drew (h : Only S w v) : Only S w v.drew := ⟨h.os, h.tape, h.output, h.size, h.same⟩
theorem Only.drewN (h : Only S w v) (n : Nat) : Only S w (v.drewN n) :=
  h.andThen (T := fun _ => False) (.of_below (below_drewN (Below.refl _ _) n)) fun _ _ hk => hk.elim
theorem Only.set (h : Only S w v) {p : Addr} (hp : S p.block ∨ w.heap.size ≤ p.block) (x : Value) : Only S w (v.setCell p x) :=
  ⟨h.os, h.tape, h.output, by rw [show (v.setCell p x).heap.size = v.heap.size by simp [World.setCell]]; exact h.size, fun k hk hn =>
    (Below.heap_setCell v p x k (fun e => by subst e; rcases hp with hp | hp; exact hn hp; omega)).trans (h.same k hk hn)⟩
theorem Only.grown (h : Only S w v) {row : Option Nat} (hg : v.grownBy u row) (hr : ∀ k, row = some k → S k ∨ w.heap.size ≤ k) : Only S w u :=
  ⟨hg.os.trans h.os, hg.tape.trans h.tape, hg.output.trans h.output, Nat.le_trans h.size hg.size, fun k hk hn =>
    (hg.block k (Nat.lt_of_lt_of_le hk h.size) (fun e => by rcases hr k e.symm with h1 | h1; exact hn h1; omega)).trans (h.same k hk hn)⟩

theorem Row.only {g : Nat} {t : TypeId} {cs : Array Value} (h : Row w g t cs) (ho : Only S w v) (hg : ¬ S g) : Row v g t cs := (ho.same g h.inside hg).trans h
theorem own_block {base : Nat} {e : TypeId} {size : Nat} {x : Value} {n : Nat} {xs : List Value} (h : w.ownsRow base e size x n xs) : ∀ k, x.ownBlock = some k → base ≤ k ∧ k < w.heap.size := h.lt
theorem own_only {base : Nat} {e : TypeId} {size : Nat} {x : Value} {n : Nat} {xs : List Value} (h : w.ownsRow base e size x n xs) (ho : Only S w v) (hS : ∀ k, x.ownBlock = some k → ¬ S k) : v.ownsRow base e size x n xs := by
  refine ⟨h.1, ?_⟩
  rcases h.2 with h0 | ⟨g, cap, cur, rfl, hb, hh, h1⟩
  · exact .inl h0
  · refine .inr ⟨g, cap, cur, rfl, hb, ?_, h1⟩
    have hl : g < w.heap.size := (h.lt g rfl).2
    exact (ho.same g hl (hS g rfl)).trans hh
theorem cell_only {g j : Nat} {x : Value} (h : w.cell? ⟨g, j, none⟩ = some x) (ho : Only S w v) (hg : ¬ S g) : v.cell? ⟨g, j, none⟩ = some x := by
  have hl : g < w.heap.size := by
    rcases Nat.lt_or_ge g w.heap.size with h1 | h1
    · exact h1
    · exfalso
      simp [World.cell?, Array.getElem?_eq_none h1] at h
  rw [← h]
  exact World.cell?_of_block (ho.same g hl hg)
/-- rows of different element types lie in different blocks -/
theorem own_apart {base : Nat} {e : TypeId} {size : Nat} {x : Value} {n : Nat} {xs : List Value} {g : Nat} {t : TypeId} {cs : Array Value} (h : w.ownsRow base e size x n xs) (hr : Row w g t cs) (hne : e ≠ t) : x.ownBlock ≠ some g := by
  rcases h.2 with ⟨rfl, _⟩ | ⟨g', cap, cur, rfl, _, hh, _⟩
  · simp [Value.ownBlock]
  · intro he
    have e1 : g' = g := by simpa [Value.ownBlock] using he
    subst e1
    unfold Row at hr
    rw [hh] at hr
    injection hr with hr
    injection hr with _ hr
    exact hne hr
theorem Row.apart {g g' : Nat} {t t' : TypeId} {cs cs' : Array Value} (h : Row w g t cs) (h' : Row w g' t' cs') (hne : t ≠ t') : g ≠ g' := by
  rintro rfl
  unfold Row at h h'
  rw [h] at h'
  injection h' with h'
  injection h' with _ h'
  exact hne h'
end
end Go.Proofs.Ytgdpjaojlhdhdaa
