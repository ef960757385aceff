/-
  pdu: which configs may be. pdu: which configs may be: the rest. pdu: Check. pdu: Check of the other modes. pdu: Check of the mode that asks. pdu: bytes are read: what they are.
-/
import Derived.Test.YtbcjfdhphpckfaaJPlainLives13
import Derived.Test.YtbcjfdhphpckfaaJPlainLives10
import Derived.Laws.ResultCell
namespace Go.Proofs.Ytbcjfdhphpckfaa
open Go.RowKit

structure Cf where
  mode : Int
  bits : Int
  win : Int
  reo : Int
  prx : Int
  pro : Int
  ppd : Int
  pby : Int
  mrx : Int
  qb : Int
def Cf.a (c : Cf) : Array Value := #[.int .i64 c.mode, .int .i64 c.bits, .int .i64 c.win, .int .i64 c.reo, .int .i64 c.prx, .int .i64 c.pro, .int .i64 c.ppd, .int .i64 c.pby, .int .i64 c.mrx, .int .i64 c.qb]
theorem cells10 {w : World} {g : Nat} {t : TypeId} {a b c d e f h i j k : Value} (hr : Row w g t #[a, b, c, d, e, f, h, i, j, k]) : w.cell? ⟨g, 0, none⟩ = some a ∧ w.cell? ⟨g, 1, none⟩ = some b ∧ w.cell? ⟨g, 2, none⟩ = some c ∧ w.cell? ⟨g, 3, none⟩ = some d ∧ w.cell? ⟨g, 4, none⟩ = some e ∧ w.cell? ⟨g, 5, none⟩ = some f ∧ w.cell? ⟨g, 6, none⟩ = some h ∧ w.cell? ⟨g, 7, none⟩ = some i ∧ w.cell? ⟨g, 8, none⟩ = some j ∧ w.cell? ⟨g, 9, none⟩ = some k :=
  ⟨hr.read rfl, hr.read rfl, hr.read rfl, hr.read rfl, hr.read rfl, hr.read rfl, hr.read rfl, hr.read rfl, hr.read rfl, hr.read rfl⟩
set_option maxRecDepth 100000 in
theorem pindex_any {g : Nat} (a b x : Int) (cap : Nat) (w : World) (hr : Row w g 3 #[.int .i64 a, .int .i64 b]) :
    Calls Try.prog 258 #[.slice (some ⟨g, 0, none⟩) 2 cap, .int .i64 x] w fun e w' => e = .returned (.int .i64 (if x = a then 0 else if x = b then 1 else -1)) ∧ w = w' := by
  have c0 := hr.read (i := 0) rfl
  have c1 := hr.read (i := 1) rfl
  clear hr
  go_enter Try.func258, Try.ntmps258
  go_wp2
  go_loopw [8] (fun i wr => ∃ k : Nat, k ≤ 2 ∧ i = .int .i64 k ∧ Hid ((0 < k → x ≠ a) ∧ (1 < k → x ≠ b)) ∧ w = wr) (fun i _ => 2 - (intOf i).toNat)
  case atStart => exact ⟨0, by omega, rfl, Lib.hid ⟨by omega, by omega⟩, rfl⟩
  case round =>
    obtain ⟨k, hk, rfl, HK, rfl⟩ := hrel
    obtain rfl | rfl | rfl : k = 0 ∨ k = 1 ∨ k = 2 := by omega
    · by_cases h : x = a
      · have h1 : (x == a) = true := by simpa using h
        have HX := Lib.hid h
        clear h
        go_wp2
        go_ret
        exact ⟨ret_int (by first | rfl | (rw [if_pos HX.out]; rfl)), rfl⟩
      · have h1 : (x == a) = false := by simpa using h
        have HX := Lib.hid h
        clear h
        go_wp2
        go_roundw
        case rel => exact ⟨1, by omega, rfl, Lib.hid ⟨fun _ => HX.out, by omega⟩, by first | rfl | trivial⟩
        case measure => simp [intOf]
    · have HA := Lib.hid (HK.out.1 (by omega))
      by_cases h : x = b
      · have h1 : (x == b) = true := by simpa using h
        have HX := Lib.hid h
        clear h
        go_wp2
        go_ret
        exact ⟨ret_int (by first | rfl | (rw [if_neg HA.out, if_pos HX.out]; rfl)), rfl⟩
      · have h1 : (x == b) = false := by simpa using h
        have HX := Lib.hid h
        clear h
        go_wp2
        go_roundw
        case rel => exact ⟨2, by omega, rfl, Lib.hid ⟨fun _ => HA.out, fun _ => HX.out⟩, by first | rfl | trivial⟩
        case measure => simp [intOf]
    · have HA := Lib.hid (HK.out.1 (by omega))
      have HBB := Lib.hid (HK.out.2 (by omega))
      go_wp2
      go_ret
      exact ⟨ret_int (by first | rfl | (rw [if_neg HA.out, if_neg HBB.out])), rfl⟩
def in2 (x a b : Int) : Bool := (x == a) || (x == b)
theorem pcontains_any {g : Nat} (a b x : Int) (cap : Nat) (w : World) (hr : Row w g 3 #[.int .i64 a, .int .i64 b]) :
    Calls Try.prog 227 #[.slice (some ⟨g, 0, none⟩) 2 cap, .int .i64 x] w fun e w' => e = .returned (.bool (in2 x a b)) ∧ w = w' := by
  have HI := Lib.hid (pindex_any a b x cap w hr)
  clear hr
  by_cases h : in2 x a b = true
  · have HX := Lib.hid h
    by_cases h1 : x = a
    · rw [if_pos h1] at HI
      clear h h1
      go_enter Try.func227, Try.ntmps227
      go_wp2_with (go_at_call 258; (with_reducible refine HI.out.mono ?_); rintro e w1 ⟨rfl, rfl⟩)
      go_ret
      exact ⟨ret_bool (by rw [HX.out]), rfl⟩
    · have h2 : x = b := by simpa [in2, h1] using h
      rw [if_neg h1, if_pos h2] at HI
      clear h h1 h2
      go_enter Try.func227, Try.ntmps227
      go_wp2_with (go_at_call 258; (with_reducible refine HI.out.mono ?_); rintro e w1 ⟨rfl, rfl⟩)
      go_ret
      exact ⟨ret_bool (by rw [HX.out]), rfl⟩
  · have h1 : x ≠ a := fun h1 => h (by simp [in2, h1])
    have h2 : x ≠ b := fun h2 => h (by simp [in2, h2])
    have HX := Lib.hid (show in2 x a b = false by simpa using h)
    rw [if_neg h1, if_neg h2] at HI
    clear h h1 h2
    go_enter Try.func227, Try.ntmps227
    go_wp2_with (go_at_call 258; (with_reducible refine HI.out.mono ?_); rintro e w1 ⟨rfl, rfl⟩)
    go_ret
    exact ⟨ret_bool (by rw [HX.out]), rfl⟩
def numB (c : Cf) (a b : Int) : Bool := in2 c.bits a b && ([(c.win, 1, sz c.bits / 2), (c.reo, 1, 1000)].all limB)
set_option maxRecDepth 100000 in
set_option maxHeartbeats 1600000 in
theorem pnumbered_any {g : Nat} (c : Cf) (a b : Int) (cap : Nat) (w : World) (hr : Row w g 3 #[.int .i64 a, .int .i64 b]) :
    Calls Try.prog 186 #[.agg c.a, .slice (some ⟨g, 0, none⟩) 2 cap] w fun e w' => e = .returned (.bool (numB c a b)) ∧ Below w.heap.size w w' := by
  obtain ⟨mode, bits, win, reo, prx, pro, ppd, pby, mrx, qb⟩ := c
  unfold Cf.a
  have ROW := Lib.hid (Row.made w 94 #[.int .i64 mode, .int .i64 bits, .int .i64 win, .int .i64 reo, .int .i64 prx, .int .i64 pro, .int .i64 ppd, .int .i64 pby, .int .i64 mrx, .int .i64 qb])
  have HB0 := Lib.hid (bl_alloc (Below.refl w.heap.size w) (.cells #[.int .i64 mode, .int .i64 bits, .int .i64 win, .int .i64 reo, .int .i64 prx, .int .i64 pro, .int .i64 ppd, .int .i64 pby, .int .i64 mrx, .int .i64 qb] 94))
  have HR := Lib.hid (hr.later HB0.out)
  have HS := Lib.hid (fun W => sqsize_any bits W)
  have hsz := sz_bd bits
  have HSB := Lib.hid hsz
  have HC := Lib.hid (fun W h => pcontains_any (g := g) a b bits cap W h)
  have HW := Lib.hid (fun W g' (h : Row W g' 257 #[.int .i64 win, .int .i64 1, .int .i64 (sz bits / 2), .int .i64 reo, .int .i64 1, .int .i64 1000]) => pwithin_any (l := [(win, 1, sz bits / 2), (reo, 1, 1000)]) 2 2 W rfl (by omega) h rfl)
  have HN := Lib.hid (show numB ⟨mode, bits, win, reo, prx, pro, ppd, pby, mrx, qb⟩ a b = (in2 bits a b && ([(win, 1, sz bits / 2), (reo, 1, 1000)].all limB)) from rfl)
  generalize [(win, 1, sz bits / 2), (reo, 1, 1000)].all limB = r at *
  generalize sz bits = s at *
  clear hr
  cases hb : in2 bits a b
  all_goals
    rw [hb] at HC HN
    clear hb
    go_enter Try.func186, Try.ntmps186
    obtain ⟨c0, c1, c2, c3, c4, c5, c6, c7, c8, c9⟩ := cells10 ROW.out
    go_wp2_with (first
      | (go_at_call 203; (with_reducible refine (HS.out _).mono ?_); rintro e w1 ⟨rfl, hb1⟩; (have HB1 := Lib.hid (bl_step HB0.out hb1); have ROW1 := Lib.hid (ROW.out.later hb1); have HR1 := Lib.hid (HR.out.later hb1); clear hb1 c0 c1 c2 c3 c4 c5 c6 c7 c8 c9; obtain ⟨c0, c1, c2, c3, c4, c5, c6, c7, c8, c9⟩ := cells10 ROW1.out))
      | (go_at_call 227; (with_reducible refine (HC.out _ HR1.out).mono ?_); rintro e wx ⟨rfl, rfl⟩)
      | (go_at_call 185; (with_reducible refine (HW.out _ _ (Row.made _ _ _)).mono ?_); rintro e w2 ⟨rfl, hb2⟩; (have HB2 := Lib.hid (bl_step (bl_alloc HB1.out _) hb2); clear hb2)))
    go_ret
  · exact ⟨ret_bool (by rw [HN.out]; rfl), HB1.out⟩
  · exact ⟨ret_bool (by rw [HN.out]; simp), HB2.out⟩
end Go.Proofs.Ytbcjfdhphpckfaa
namespace Go.Proofs.Ytbcjfdhphpckfaa
open Go.RowKit

def askB (c : Cf) : Bool := [(c.prx, 1, 1000), (c.pro, 0, 1000), (c.ppd, 1, 1000), (c.pby, 1, 20000), (c.mrx, 1, 32)].all limB
set_option maxRecDepth 100000 in
set_option maxHeartbeats 1600000 in
theorem pasking_any (c : Cf) (w : World) : Calls Try.prog 187 #[.agg c.a] w fun e w' => e = .returned (.bool (askB c)) ∧ Below w.heap.size w w' := by
  obtain ⟨mode, bits, win, reo, prx, pro, ppd, pby, mrx, qb⟩ := c
  unfold Cf.a
  have ROW := Lib.hid (Row.made w 94 #[.int .i64 mode, .int .i64 bits, .int .i64 win, .int .i64 reo, .int .i64 prx, .int .i64 pro, .int .i64 ppd, .int .i64 pby, .int .i64 mrx, .int .i64 qb])
  have HB0 := Lib.hid (bl_alloc (Below.refl w.heap.size w) (.cells #[.int .i64 mode, .int .i64 bits, .int .i64 win, .int .i64 reo, .int .i64 prx, .int .i64 pro, .int .i64 ppd, .int .i64 pby, .int .i64 mrx, .int .i64 qb] 94))
  have HW := Lib.hid (fun W g' (h : Row W g' 257 #[.int .i64 prx, .int .i64 1, .int .i64 1000, .int .i64 pro, .int .i64 0, .int .i64 1000, .int .i64 ppd, .int .i64 1, .int .i64 1000, .int .i64 pby, .int .i64 1, .int .i64 20000, .int .i64 mrx, .int .i64 1, .int .i64 32]) => pwithin_any (l := [(prx, 1, 1000), (pro, 0, 1000), (ppd, 1, 1000), (pby, 1, 20000), (mrx, 1, 32)]) 5 5 W rfl (by omega) h rfl)
  go_enter Try.func187, Try.ntmps187
  obtain ⟨c0, c1, c2, c3, c4, c5, c6, c7, c8, c9⟩ := cells10 ROW.out
  go_wp2_with (go_at_call 185; (with_reducible refine (HW.out _ _ (row_at2 _ _ _ _ (size_1 _ _))).mono ?_); rintro e w2 ⟨rfl, hb2⟩)
  go_ret
  exact ⟨ret_bool (by simp [askB]), bl_step (bl_alloc HB0.out _) hb2⟩
def unF (c : Cf) : Cf := if c.mode = 0 then ⟨0, c.bits, c.win, c.reo, c.prx, c.pro, c.ppd, c.pby, c.mrx, 0⟩ else if c.mode = 1 then ⟨0, 0, 0, 0, c.prx, c.pro, c.ppd, c.pby, c.mrx, 0⟩ else ⟨0, 0, 0, 0, 0, 0, 0, 0, 0, 0⟩
theorem Try.infocf : (Try.prog.info? 94).map (·.size) = some 10 := by kernel_rfl
theorem Try.undercf : (Try.prog.underlying 94).map (fun d => match d with | .struct _ => true | _ => false) = some true := by kernel_rfl
theorem undercf_parts : ∃ fs, Try.prog.underlying 94 = some (.struct fs) := by
  obtain ⟨d, hd, h⟩ := Option.map_eq_some_iff.1 Try.undercf
  cases d with
  | struct fs => exact ⟨fs, hd⟩
  | _ => simp at h
theorem cells10f {w : World} {g : Nat} {t : TypeId} {cs : Array Value} (hr : Row w g t cs) : w.frozen? ⟨g, 0, none⟩ = false ∧ w.frozen? ⟨g, 1, none⟩ = false ∧ w.frozen? ⟨g, 2, none⟩ = false ∧ w.frozen? ⟨g, 3, none⟩ = false ∧ w.frozen? ⟨g, 4, none⟩ = false ∧ w.frozen? ⟨g, 5, none⟩ = false ∧ w.frozen? ⟨g, 6, none⟩ = false ∧ w.frozen? ⟨g, 7, none⟩ = false ∧ w.frozen? ⟨g, 8, none⟩ = false ∧ w.frozen? ⟨g, 9, none⟩ = false :=
  ⟨hr.free _, hr.free _, hr.free _, hr.free _, hr.free _, hr.free _, hr.free _, hr.free _, hr.free _, hr.free _⟩
set_option maxRecDepth 100000 in
set_option maxHeartbeats 3200000 in
theorem punused0 (bits win reo prx pro ppd pby mrx qb : Int) (w : World) : Calls Try.prog 188 #[.agg #[.int .i64 0, .int .i64 bits, .int .i64 win, .int .i64 reo, .int .i64 prx, .int .i64 pro, .int .i64 ppd, .int .i64 pby, .int .i64 mrx, .int .i64 qb]] w fun e w' => e = .returned (.agg #[.int .i64 0, .int .i64 bits, .int .i64 win, .int .i64 reo, .int .i64 prx, .int .i64 pro, .int .i64 ppd, .int .i64 pby, .int .i64 mrx, .int .i64 0]) ∧ Below w.heap.size w w' := by
  obtain ⟨dd, hdd⟩ := undercf_parts
  go_enter Try.func188, Try.ntmps188
  go_wp2
  refine bodyPost_ret (results_cell_row rfl _ _ (w.heap.size + 1) 94 #[.int .i64 0, .int .i64 bits, .int .i64 win, .int .i64 reo, .int .i64 prx, .int .i64 pro, .int .i64 ppd, .int .i64 pby, .int .i64 mrx, .int .i64 0] (0, 0) (.struct dd) rfl (row_at2 _ _ _ _ (size_1 _ _)) hdd rfl Try.infocf) rfl ?_
  exact ⟨rfl, bl_alloc (bl_alloc (Below.refl _ _) _) _⟩
set_option maxRecDepth 100000 in
set_option maxHeartbeats 3200000 in
theorem punused1 (bits win reo prx pro ppd pby mrx qb : Int) (w : World) : Calls Try.prog 188 #[.agg #[.int .i64 1, .int .i64 bits, .int .i64 win, .int .i64 reo, .int .i64 prx, .int .i64 pro, .int .i64 ppd, .int .i64 pby, .int .i64 mrx, .int .i64 qb]] w fun e w' => e = .returned (.agg #[.int .i64 0, .int .i64 0, .int .i64 0, .int .i64 0, .int .i64 prx, .int .i64 pro, .int .i64 ppd, .int .i64 pby, .int .i64 mrx, .int .i64 0]) ∧ Below w.heap.size w w' := by
  obtain ⟨dd, hdd⟩ := undercf_parts
  go_enter Try.func188, Try.ntmps188
  go_wp2
  refine bodyPost_ret (results_cell_row rfl _ _ (w.heap.size + 1) 94 #[.int .i64 0, .int .i64 0, .int .i64 0, .int .i64 0, .int .i64 prx, .int .i64 pro, .int .i64 ppd, .int .i64 pby, .int .i64 mrx, .int .i64 0] (0, 0) (.struct dd) rfl (row_at2 _ _ _ _ (size_1 _ _)) hdd rfl Try.infocf) rfl ?_
  exact ⟨rfl, bl_alloc (bl_alloc (Below.refl _ _) _) _⟩
set_option maxRecDepth 100000 in
set_option maxHeartbeats 3200000 in
theorem punused2 (bits win reo prx pro ppd pby mrx qb : Int) (w : World) : Calls Try.prog 188 #[.agg #[.int .i64 2, .int .i64 bits, .int .i64 win, .int .i64 reo, .int .i64 prx, .int .i64 pro, .int .i64 ppd, .int .i64 pby, .int .i64 mrx, .int .i64 qb]] w fun e w' => e = .returned (.agg #[.int .i64 0, .int .i64 0, .int .i64 0, .int .i64 0, .int .i64 0, .int .i64 0, .int .i64 0, .int .i64 0, .int .i64 0, .int .i64 0]) ∧ Below w.heap.size w w' := by
  obtain ⟨dd, hdd⟩ := undercf_parts
  go_enter Try.func188, Try.ntmps188
  go_wp2
  refine bodyPost_ret (results_cell_row rfl _ _ (w.heap.size + 1) 94 #[.int .i64 0, .int .i64 0, .int .i64 0, .int .i64 0, .int .i64 0, .int .i64 0, .int .i64 0, .int .i64 0, .int .i64 0, .int .i64 0] (0, 0) (.struct dd) rfl (row_at2 _ _ _ _ (size_1 _ _)) hdd rfl Try.infocf) rfl ?_
  exact ⟨rfl, bl_alloc (bl_alloc (Below.refl _ _) _) _⟩
end Go.Proofs.Ytbcjfdhphpckfaa
namespace Go.Proofs.Ytbcjfdhphpckfaa
open Go.RowKit

def z5 (c : Cf) : Bool := (c.prx == 0) && ((c.pro == 0) && ((c.ppd == 0) && ((c.pby == 0) && (c.mrx == 0))))
def z8 (c : Cf) : Bool := (c.bits == 0) && ((c.win == 0) && ((c.reo == 0) && z5 c))
def qbB (c : Cf) : Bool := limB (c.qb, 1, 20000)
def checkF (c : Cf) : Int :=
  if c.mode = 0 then (if qbB c && z8 c then 0 else 1)
  else if c.mode = 1 then (if qbB c && (numB c 5 10 && z5 c) then 0 else 1)
  else if c.mode = 2 then (if qbB c && (numB c 10 16 && askB c) then 0 else 1)
  else 9
set_option maxRecDepth 100000 in
set_option maxHeartbeats 6400000 in
theorem pcheck0 (bits win reo prx pro ppd pby mrx qb : Int) (w : World) :
    Calls Try.prog 135 #[.agg #[.int .i64 0, .int .i64 bits, .int .i64 win, .int .i64 reo, .int .i64 prx, .int .i64 pro, .int .i64 ppd, .int .i64 pby, .int .i64 mrx, .int .i64 qb]] w fun e w' => e = .returned (.int .i64 (checkF ⟨0, bits, win, reo, prx, pro, ppd, pby, mrx, qb⟩)) ∧ Below w.heap.size w w' := by
  have ROW := Lib.hid (Row.made w 94 #[.int .i64 0, .int .i64 bits, .int .i64 win, .int .i64 reo, .int .i64 prx, .int .i64 pro, .int .i64 ppd, .int .i64 pby, .int .i64 mrx, .int .i64 qb])
  have HB0 := Lib.hid (bl_alloc (Below.refl w.heap.size w) (.cells #[.int .i64 0, .int .i64 bits, .int .i64 win, .int .i64 reo, .int .i64 prx, .int .i64 pro, .int .i64 ppd, .int .i64 pby, .int .i64 mrx, .int .i64 qb] 94))
  have HW := Lib.hid (fun W g' (h : Row W g' 257 #[.int .i64 qb, .int .i64 1, .int .i64 20000]) => pwithin_any (l := [(qb, 1, 20000)]) 1 1 W rfl (by omega) h rfl)
  rw [show [(qb, (1 : Int), (20000 : Int))].all limB = limB (qb, 1, 20000) from by simp] at HW
  have HU := Lib.hid (fun W => punused0 bits win reo prx pro ppd pby mrx qb W)
  have HF := Lib.hid (show checkF ⟨0, bits, win, reo, prx, pro, ppd, pby, mrx, qb⟩ = if limB (qb, 1, 20000) && z8 ⟨0, bits, win, reo, prx, pro, ppd, pby, mrx, qb⟩ then 0 else 1 from rfl)
  cases hq0 : limB (qb, 1, 20000)
  · rw [hq0] at HW HF
    clear hq0
    go_enter Try.func135, Try.ntmps135
    obtain ⟨c0, c1, c2, c3, c4, c5, c6, c7, c8, c9⟩ := cells10 ROW.out
    go_wp2_with (first
      | (go_at_call 185; (with_reducible refine (HW.out _ _ (row_at2 _ _ _ _ (size_1 _ _))).mono ?_); rintro e w2 ⟨rfl, hb2⟩; (have HB2 := Lib.hid (bl_step (bl_alloc HB0.out _) hb2); have ROW2 := Lib.hid ((ROW.out.more _).later hb2); clear c0 c1 c2 c3 c4 c5 c6 c7 c8 c9; obtain ⟨c0, c1, c2, c3, c4, c5, c6, c7, c8, c9⟩ := cells10 ROW2.out; clear hb2))
      | (go_at_call 188; (with_reducible refine (HU.out _).mono ?_); rintro e w3 ⟨rfl, hb3⟩; (have HB3 := Lib.hid (bl_step HB2.out hb3); clear hb3)))
    all_goals
      go_ret
      refine ⟨?_, by first | exact HB3.out | exact HB2.out | exact HB4.out | exact HB2.out⟩
      rw [HF.out]
      first | rfl | simp_all [z8, z5]
  · rw [hq0] at HW HF
    clear hq0
    go_enter Try.func135, Try.ntmps135
    obtain ⟨c0, c1, c2, c3, c4, c5, c6, c7, c8, c9⟩ := cells10 ROW.out
    go_wp2_with (first
      | (go_at_call 185; (with_reducible refine (HW.out _ _ (row_at2 _ _ _ _ (size_1 _ _))).mono ?_); rintro e w2 ⟨rfl, hb2⟩; (have HB2 := Lib.hid (bl_step (bl_alloc HB0.out _) hb2); have ROW2 := Lib.hid ((ROW.out.more _).later hb2); clear c0 c1 c2 c3 c4 c5 c6 c7 c8 c9; obtain ⟨c0, c1, c2, c3, c4, c5, c6, c7, c8, c9⟩ := cells10 ROW2.out; clear hb2))
      | (go_at_call 188; (with_reducible refine (HU.out _).mono ?_); rintro e w3 ⟨rfl, hb3⟩; (have HB3 := Lib.hid (bl_step HB2.out hb3); clear hb3)))
    all_goals
      go_ret
      refine ⟨?_, by first | exact HB3.out | exact HB2.out | exact HB4.out | exact HB2.out⟩
      rw [HF.out]
      first | rfl | simp_all [z8, z5]
end Go.Proofs.Ytbcjfdhphpckfaa
namespace Go.Proofs.Ytbcjfdhphpckfaa
open Go.RowKit

set_option maxRecDepth 100000 in
set_option maxHeartbeats 6400000 in
theorem pcheck1 (bits win reo prx pro ppd pby mrx qb : Int) (w : World) :
    Calls Try.prog 135 #[.agg #[.int .i64 1, .int .i64 bits, .int .i64 win, .int .i64 reo, .int .i64 prx, .int .i64 pro, .int .i64 ppd, .int .i64 pby, .int .i64 mrx, .int .i64 qb]] w fun e w' => e = .returned (.int .i64 (checkF ⟨1, bits, win, reo, prx, pro, ppd, pby, mrx, qb⟩)) ∧ Below w.heap.size w w' := by
  have ROW := Lib.hid (Row.made w 94 #[.int .i64 1, .int .i64 bits, .int .i64 win, .int .i64 reo, .int .i64 prx, .int .i64 pro, .int .i64 ppd, .int .i64 pby, .int .i64 mrx, .int .i64 qb])
  have HB0 := Lib.hid (bl_alloc (Below.refl w.heap.size w) (.cells #[.int .i64 1, .int .i64 bits, .int .i64 win, .int .i64 reo, .int .i64 prx, .int .i64 pro, .int .i64 ppd, .int .i64 pby, .int .i64 mrx, .int .i64 qb] 94))
  have HW := Lib.hid (fun W g' (h : Row W g' 257 #[.int .i64 qb, .int .i64 1, .int .i64 20000]) => pwithin_any (l := [(qb, 1, 20000)]) 1 1 W rfl (by omega) h rfl)
  rw [show [(qb, (1 : Int), (20000 : Int))].all limB = limB (qb, 1, 20000) from by simp] at HW
  have HU := Lib.hid (fun W => punused1 bits win reo prx pro ppd pby mrx qb W)
  have HNM := Lib.hid (fun W g (h : Row W g 3 #[.int .i64 5, .int .i64 10]) => pnumbered_any (g := g) ⟨1, bits, win, reo, prx, pro, ppd, pby, mrx, qb⟩ 5 10 2 W h)
  have HF := Lib.hid (show checkF ⟨1, bits, win, reo, prx, pro, ppd, pby, mrx, qb⟩ = if limB (qb, 1, 20000) && (numB ⟨1, bits, win, reo, prx, pro, ppd, pby, mrx, qb⟩ 5 10 && z5 ⟨1, bits, win, reo, prx, pro, ppd, pby, mrx, qb⟩) then 0 else 1 from rfl)
  unfold Cf.a at *
  cases hq0 : limB (qb, 1, 20000)
  · rw [hq0] at HW HF
    clear hq0
    go_enter Try.func135, Try.ntmps135
    obtain ⟨c0, c1, c2, c3, c4, c5, c6, c7, c8, c9⟩ := cells10 ROW.out
    go_wp2_with (first
      | (go_at_call 185; (with_reducible refine (HW.out _ _ (row_at2 _ _ _ _ (size_1 _ _))).mono ?_); rintro e w2 ⟨rfl, hb2⟩; (have HB2 := Lib.hid (bl_step (bl_alloc HB0.out _) hb2); have ROW2 := Lib.hid ((ROW.out.more _).later hb2); clear c0 c1 c2 c3 c4 c5 c6 c7 c8 c9; obtain ⟨c0, c1, c2, c3, c4, c5, c6, c7, c8, c9⟩ := cells10 ROW2.out; clear hb2))
      | (go_at_call 186; (with_reducible refine (HNM.out _ _ (Row.made _ _ _)).mono ?_); rintro e w4 ⟨rfl, hb4⟩; (have HB4 := Lib.hid (bl_step (bl_alloc HB2.out _) hb4); have ROW4 := Lib.hid ((ROW2.out.more _).later hb4); clear c0 c1 c2 c3 c4 c5 c6 c7 c8 c9; obtain ⟨c0, c1, c2, c3, c4, c5, c6, c7, c8, c9⟩ := cells10 ROW4.out; clear hb4))
      | (go_at_call 188; (with_reducible refine (HU.out _).mono ?_); rintro e w3 ⟨rfl, hb3⟩; (have HB3 := Lib.hid (bl_step HB4.out hb3); clear hb3)))
    all_goals
      go_ret
      refine ⟨?_, by first | exact HB3.out | exact HB4.out | exact HB4.out | exact HB2.out⟩
      rw [HF.out]
      first | rfl | simp_all [z8, z5]
  · rw [hq0] at HW HF
    clear hq0
    cases hq1 : numB ⟨1, bits, win, reo, prx, pro, ppd, pby, mrx, qb⟩ 5 10
    · rw [hq1] at HNM HF
      clear hq1
      go_enter Try.func135, Try.ntmps135
      obtain ⟨c0, c1, c2, c3, c4, c5, c6, c7, c8, c9⟩ := cells10 ROW.out
      go_wp2_with (first
        | (go_at_call 185; (with_reducible refine (HW.out _ _ (row_at2 _ _ _ _ (size_1 _ _))).mono ?_); rintro e w2 ⟨rfl, hb2⟩; (have HB2 := Lib.hid (bl_step (bl_alloc HB0.out _) hb2); have ROW2 := Lib.hid ((ROW.out.more _).later hb2); clear c0 c1 c2 c3 c4 c5 c6 c7 c8 c9; obtain ⟨c0, c1, c2, c3, c4, c5, c6, c7, c8, c9⟩ := cells10 ROW2.out; clear hb2))
        | (go_at_call 186; (with_reducible refine (HNM.out _ _ (Row.made _ _ _)).mono ?_); rintro e w4 ⟨rfl, hb4⟩; (have HB4 := Lib.hid (bl_step (bl_alloc HB2.out _) hb4); have ROW4 := Lib.hid ((ROW2.out.more _).later hb4); clear c0 c1 c2 c3 c4 c5 c6 c7 c8 c9; obtain ⟨c0, c1, c2, c3, c4, c5, c6, c7, c8, c9⟩ := cells10 ROW4.out; clear hb4))
        | (go_at_call 188; (with_reducible refine (HU.out _).mono ?_); rintro e w3 ⟨rfl, hb3⟩; (have HB3 := Lib.hid (bl_step HB4.out hb3); clear hb3)))
      all_goals
        go_ret
        refine ⟨?_, by first | exact HB3.out | exact HB4.out | exact HB4.out | exact HB2.out⟩
        rw [HF.out]
        first | rfl | simp_all [z8, z5]
    · rw [hq1] at HNM HF
      clear hq1
      go_enter Try.func135, Try.ntmps135
      obtain ⟨c0, c1, c2, c3, c4, c5, c6, c7, c8, c9⟩ := cells10 ROW.out
      go_wp2_with (first
        | (go_at_call 185; (with_reducible refine (HW.out _ _ (row_at2 _ _ _ _ (size_1 _ _))).mono ?_); rintro e w2 ⟨rfl, hb2⟩; (have HB2 := Lib.hid (bl_step (bl_alloc HB0.out _) hb2); have ROW2 := Lib.hid ((ROW.out.more _).later hb2); clear c0 c1 c2 c3 c4 c5 c6 c7 c8 c9; obtain ⟨c0, c1, c2, c3, c4, c5, c6, c7, c8, c9⟩ := cells10 ROW2.out; clear hb2))
        | (go_at_call 186; (with_reducible refine (HNM.out _ _ (Row.made _ _ _)).mono ?_); rintro e w4 ⟨rfl, hb4⟩; (have HB4 := Lib.hid (bl_step (bl_alloc HB2.out _) hb4); have ROW4 := Lib.hid ((ROW2.out.more _).later hb4); clear c0 c1 c2 c3 c4 c5 c6 c7 c8 c9; obtain ⟨c0, c1, c2, c3, c4, c5, c6, c7, c8, c9⟩ := cells10 ROW4.out; clear hb4))
        | (go_at_call 188; (with_reducible refine (HU.out _).mono ?_); rintro e w3 ⟨rfl, hb3⟩; (have HB3 := Lib.hid (bl_step HB4.out hb3); clear hb3)))
      all_goals
        go_ret
        refine ⟨?_, by first | exact HB3.out | exact HB4.out | exact HB4.out | exact HB2.out⟩
        rw [HF.out]
        first | rfl | simp_all [z5]
end Go.Proofs.Ytbcjfdhphpckfaa
namespace Go.Proofs.Ytbcjfdhphpckfaa
open Go.RowKit

set_option maxRecDepth 100000 in
set_option maxHeartbeats 6400000 in
theorem pcheck2 (bits win reo prx pro ppd pby mrx qb : Int) (w : World) :
    Calls Try.prog 135 #[.agg #[.int .i64 2, .int .i64 bits, .int .i64 win, .int .i64 reo, .int .i64 prx, .int .i64 pro, .int .i64 ppd, .int .i64 pby, .int .i64 mrx, .int .i64 qb]] w fun e w' => e = .returned (.int .i64 (checkF ⟨2, bits, win, reo, prx, pro, ppd, pby, mrx, qb⟩)) ∧ Below w.heap.size w w' := by
  have ROW := Lib.hid (Row.made w 94 #[.int .i64 2, .int .i64 bits, .int .i64 win, .int .i64 reo, .int .i64 prx, .int .i64 pro, .int .i64 ppd, .int .i64 pby, .int .i64 mrx, .int .i64 qb])
  have HB0 := Lib.hid (bl_alloc (Below.refl w.heap.size w) (.cells #[.int .i64 2, .int .i64 bits, .int .i64 win, .int .i64 reo, .int .i64 prx, .int .i64 pro, .int .i64 ppd, .int .i64 pby, .int .i64 mrx, .int .i64 qb] 94))
  have HW := Lib.hid (fun W g' (h : Row W g' 257 #[.int .i64 qb, .int .i64 1, .int .i64 20000]) => pwithin_any (l := [(qb, 1, 20000)]) 1 1 W rfl (by omega) h rfl)
  rw [show [(qb, (1 : Int), (20000 : Int))].all limB = limB (qb, 1, 20000) from by simp] at HW
  have HU := Lib.hid (fun W => punused2 bits win reo prx pro ppd pby mrx qb W)
  have HNM := Lib.hid (fun W g (h : Row W g 3 #[.int .i64 10, .int .i64 16]) => pnumbered_any (g := g) ⟨2, bits, win, reo, prx, pro, ppd, pby, mrx, qb⟩ 10 16 2 W h)
  have HF := Lib.hid (show checkF ⟨2, bits, win, reo, prx, pro, ppd, pby, mrx, qb⟩ = if limB (qb, 1, 20000) && (numB ⟨2, bits, win, reo, prx, pro, ppd, pby, mrx, qb⟩ 10 16 && askB ⟨2, bits, win, reo, prx, pro, ppd, pby, mrx, qb⟩) then 0 else 1 from rfl)
  have HAS := Lib.hid (fun W => pasking_any ⟨2, bits, win, reo, prx, pro, ppd, pby, mrx, qb⟩ W)
  unfold Cf.a at *
  cases hq0 : limB (qb, 1, 20000)
  · rw [hq0] at HW HF
    clear hq0
    go_enter Try.func135, Try.ntmps135
    obtain ⟨c0, c1, c2, c3, c4, c5, c6, c7, c8, c9⟩ := cells10 ROW.out
    go_wp2_with (first
      | (go_at_call 185; (with_reducible refine (HW.out _ _ (row_at2 _ _ _ _ (size_1 _ _))).mono ?_); rintro e w2 ⟨rfl, hb2⟩; (have HB2 := Lib.hid (bl_step (bl_alloc HB0.out _) hb2); have ROW2 := Lib.hid ((ROW.out.more _).later hb2); clear c0 c1 c2 c3 c4 c5 c6 c7 c8 c9; obtain ⟨c0, c1, c2, c3, c4, c5, c6, c7, c8, c9⟩ := cells10 ROW2.out; clear hb2))
      | (go_at_call 186; (with_reducible refine (HNM.out _ _ (Row.made _ _ _)).mono ?_); rintro e w4 ⟨rfl, hb4⟩; (have HB4 := Lib.hid (bl_step (bl_alloc HB2.out _) hb4); have ROW4 := Lib.hid ((ROW2.out.more _).later hb4); clear c0 c1 c2 c3 c4 c5 c6 c7 c8 c9; obtain ⟨c0, c1, c2, c3, c4, c5, c6, c7, c8, c9⟩ := cells10 ROW4.out; clear hb4))
      | (go_at_call 187; (with_reducible refine (HAS.out _).mono ?_); rintro e w5 ⟨rfl, hb5⟩; (have HB5 := Lib.hid (bl_step HB4.out hb5); have ROW5 := Lib.hid (ROW4.out.later hb5); clear c0 c1 c2 c3 c4 c5 c6 c7 c8 c9; obtain ⟨c0, c1, c2, c3, c4, c5, c6, c7, c8, c9⟩ := cells10 ROW5.out; clear hb5))
      | (go_at_call 188; (with_reducible refine (HU.out _).mono ?_); rintro e w3 ⟨rfl, hb3⟩; (have HB3 := Lib.hid (bl_step HB5.out hb3); clear hb3)))
    all_goals
      go_ret
      refine ⟨?_, by first | exact HB3.out | exact HB5.out | exact HB4.out | exact HB2.out⟩
      rw [HF.out]
      first | rfl | simp_all [z8, z5]
  · rw [hq0] at HW HF
    clear hq0
    cases hq1 : numB ⟨2, bits, win, reo, prx, pro, ppd, pby, mrx, qb⟩ 10 16
    · rw [hq1] at HNM HF
      clear hq1
      go_enter Try.func135, Try.ntmps135
      obtain ⟨c0, c1, c2, c3, c4, c5, c6, c7, c8, c9⟩ := cells10 ROW.out
      go_wp2_with (first
        | (go_at_call 185; (with_reducible refine (HW.out _ _ (row_at2 _ _ _ _ (size_1 _ _))).mono ?_); rintro e w2 ⟨rfl, hb2⟩; (have HB2 := Lib.hid (bl_step (bl_alloc HB0.out _) hb2); have ROW2 := Lib.hid ((ROW.out.more _).later hb2); clear c0 c1 c2 c3 c4 c5 c6 c7 c8 c9; obtain ⟨c0, c1, c2, c3, c4, c5, c6, c7, c8, c9⟩ := cells10 ROW2.out; clear hb2))
        | (go_at_call 186; (with_reducible refine (HNM.out _ _ (Row.made _ _ _)).mono ?_); rintro e w4 ⟨rfl, hb4⟩; (have HB4 := Lib.hid (bl_step (bl_alloc HB2.out _) hb4); have ROW4 := Lib.hid ((ROW2.out.more _).later hb4); clear c0 c1 c2 c3 c4 c5 c6 c7 c8 c9; obtain ⟨c0, c1, c2, c3, c4, c5, c6, c7, c8, c9⟩ := cells10 ROW4.out; clear hb4))
        | (go_at_call 187; (with_reducible refine (HAS.out _).mono ?_); rintro e w5 ⟨rfl, hb5⟩; (have HB5 := Lib.hid (bl_step HB4.out hb5); have ROW5 := Lib.hid (ROW4.out.later hb5); clear c0 c1 c2 c3 c4 c5 c6 c7 c8 c9; obtain ⟨c0, c1, c2, c3, c4, c5, c6, c7, c8, c9⟩ := cells10 ROW5.out; clear hb5))
        | (go_at_call 188; (with_reducible refine (HU.out _).mono ?_); rintro e w3 ⟨rfl, hb3⟩; (have HB3 := Lib.hid (bl_step HB5.out hb3); clear hb3)))
      all_goals
        go_ret
        refine ⟨?_, by first | exact HB3.out | exact HB5.out | exact HB4.out | exact HB2.out⟩
        rw [HF.out]
        first | rfl | simp_all [z8, z5]
    · rw [hq1] at HNM HF
      clear hq1
      cases hq2 : askB ⟨2, bits, win, reo, prx, pro, ppd, pby, mrx, qb⟩
      · rw [hq2] at HAS HF
        clear hq2
        go_enter Try.func135, Try.ntmps135
        obtain ⟨c0, c1, c2, c3, c4, c5, c6, c7, c8, c9⟩ := cells10 ROW.out
        go_wp2_with (first
          | (go_at_call 185; (with_reducible refine (HW.out _ _ (row_at2 _ _ _ _ (size_1 _ _))).mono ?_); rintro e w2 ⟨rfl, hb2⟩; (have HB2 := Lib.hid (bl_step (bl_alloc HB0.out _) hb2); have ROW2 := Lib.hid ((ROW.out.more _).later hb2); clear c0 c1 c2 c3 c4 c5 c6 c7 c8 c9; obtain ⟨c0, c1, c2, c3, c4, c5, c6, c7, c8, c9⟩ := cells10 ROW2.out; clear hb2))
          | (go_at_call 186; (with_reducible refine (HNM.out _ _ (Row.made _ _ _)).mono ?_); rintro e w4 ⟨rfl, hb4⟩; (have HB4 := Lib.hid (bl_step (bl_alloc HB2.out _) hb4); have ROW4 := Lib.hid ((ROW2.out.more _).later hb4); clear c0 c1 c2 c3 c4 c5 c6 c7 c8 c9; obtain ⟨c0, c1, c2, c3, c4, c5, c6, c7, c8, c9⟩ := cells10 ROW4.out; clear hb4))
          | (go_at_call 187; (with_reducible refine (HAS.out _).mono ?_); rintro e w5 ⟨rfl, hb5⟩; (have HB5 := Lib.hid (bl_step HB4.out hb5); have ROW5 := Lib.hid (ROW4.out.later hb5); clear c0 c1 c2 c3 c4 c5 c6 c7 c8 c9; obtain ⟨c0, c1, c2, c3, c4, c5, c6, c7, c8, c9⟩ := cells10 ROW5.out; clear hb5))
          | (go_at_call 188; (with_reducible refine (HU.out _).mono ?_); rintro e w3 ⟨rfl, hb3⟩; (have HB3 := Lib.hid (bl_step HB5.out hb3); clear hb3)))
        all_goals
          go_ret
          refine ⟨?_, by first | exact HB3.out | exact HB5.out | exact HB4.out | exact HB2.out⟩
          rw [HF.out]
          first | rfl | simp_all [z8, z5]
      · rw [hq2] at HAS HF
        clear hq2
        go_enter Try.func135, Try.ntmps135
        obtain ⟨c0, c1, c2, c3, c4, c5, c6, c7, c8, c9⟩ := cells10 ROW.out
        go_wp2_with (first
          | (go_at_call 185; (with_reducible refine (HW.out _ _ (row_at2 _ _ _ _ (size_1 _ _))).mono ?_); rintro e w2 ⟨rfl, hb2⟩; (have HB2 := Lib.hid (bl_step (bl_alloc HB0.out _) hb2); have ROW2 := Lib.hid ((ROW.out.more _).later hb2); clear c0 c1 c2 c3 c4 c5 c6 c7 c8 c9; obtain ⟨c0, c1, c2, c3, c4, c5, c6, c7, c8, c9⟩ := cells10 ROW2.out; clear hb2))
          | (go_at_call 186; (with_reducible refine (HNM.out _ _ (Row.made _ _ _)).mono ?_); rintro e w4 ⟨rfl, hb4⟩; (have HB4 := Lib.hid (bl_step (bl_alloc HB2.out _) hb4); have ROW4 := Lib.hid ((ROW2.out.more _).later hb4); clear c0 c1 c2 c3 c4 c5 c6 c7 c8 c9; obtain ⟨c0, c1, c2, c3, c4, c5, c6, c7, c8, c9⟩ := cells10 ROW4.out; clear hb4))
          | (go_at_call 187; (with_reducible refine (HAS.out _).mono ?_); rintro e w5 ⟨rfl, hb5⟩; (have HB5 := Lib.hid (bl_step HB4.out hb5); have ROW5 := Lib.hid (ROW4.out.later hb5); clear c0 c1 c2 c3 c4 c5 c6 c7 c8 c9; obtain ⟨c0, c1, c2, c3, c4, c5, c6, c7, c8, c9⟩ := cells10 ROW5.out; clear hb5))
          | (go_at_call 188; (with_reducible refine (HU.out _).mono ?_); rintro e w3 ⟨rfl, hb3⟩; (have HB3 := Lib.hid (bl_step HB5.out hb3); clear hb3)))
        all_goals
          go_ret
          refine ⟨?_, by first | exact HB3.out | exact HB5.out | exact HB4.out | exact HB2.out⟩
          rw [HF.out]
          first | rfl | simp_all [z8, z5]
set_option maxHeartbeats 800000 in
theorem pcheck9 (c : Cf) (w : World) (h0 : c.mode ≠ 0) (h1 : c.mode ≠ 1) (h2 : c.mode ≠ 2) : Calls Try.prog 135 #[.agg c.a] w fun e w' => e = .returned (.int .i64 (checkF c)) ∧ Below w.heap.size w w' := by
  have HF := Lib.hid (show checkF c = 9 by unfold checkF; rw [if_neg h0, if_neg h1, if_neg h2])
  obtain ⟨mode, bits, win, reo, prx, pro, ppd, pby, mrx, qb⟩ := c
  unfold Cf.a
  have ROW := Lib.hid (Row.made w 94 #[.int .i64 mode, .int .i64 bits, .int .i64 win, .int .i64 reo, .int .i64 prx, .int .i64 pro, .int .i64 ppd, .int .i64 pby, .int .i64 mrx, .int .i64 qb])
  have HB0 := Lib.hid (bl_alloc (Below.refl w.heap.size w) (.cells #[.int .i64 mode, .int .i64 bits, .int .i64 win, .int .i64 reo, .int .i64 prx, .int .i64 pro, .int .i64 ppd, .int .i64 pby, .int .i64 mrx, .int .i64 qb] 94))
  have HW := Lib.hid (fun W g' (h : Row W g' 257 #[.int .i64 qb, .int .i64 1, .int .i64 20000]) => pwithin_any (l := [(qb, 1, 20000)]) 1 1 W rfl (by omega) h rfl)
  have g0 : (mode == 0) = false := by simpa using h0
  have g1 : (mode == 1) = false := by simpa using h1
  have g2 : (mode == 2) = false := by simpa using h2
  clear h0 h1 h2
  go_enter Try.func135, Try.ntmps135
  obtain ⟨c0, c1, c2, c3, c4, c5, c6, c7, c8, c9⟩ := cells10 ROW.out
  go_wp2_with (go_at_call 185; (with_reducible refine (HW.out _ _ (row_at2 _ _ _ _ (size_1 _ _))).mono ?_); rintro e w2 ⟨rfl, hb2⟩; (have HB2 := Lib.hid (bl_step (bl_alloc HB0.out _) hb2); clear c0 c1 c2 c3 c4 c5 c6 c7 c8 c9; obtain ⟨c0, c1, c2, c3, c4, c5, c6, c7, c8, c9⟩ := cells10 ((ROW.out.more _).later hb2); clear hb2))
  go_ret
  exact ⟨by rw [HF.out]; rfl, HB2.out⟩
end Go.Proofs.Ytbcjfdhphpckfaa
namespace Go.Proofs.Ytbcjfdhphpckfaa
open Go.RowKit

theorem cells14 {w : World} {g : Nat} {t : TypeId} {a b c d e f h i j k l m n o : Value} (hr : Row w g t #[a, b, c, d, e, f, h, i, j, k, l, m, n, o]) : w.cell? ⟨g, 0, none⟩ = some a ∧ w.cell? ⟨g, 1, none⟩ = some b ∧ w.cell? ⟨g, 2, none⟩ = some c ∧ w.cell? ⟨g, 3, none⟩ = some d ∧ w.cell? ⟨g, 4, none⟩ = some e ∧ w.cell? ⟨g, 5, none⟩ = some f ∧ w.cell? ⟨g, 6, none⟩ = some h ∧ w.cell? ⟨g, 7, none⟩ = some i ∧ w.cell? ⟨g, 8, none⟩ = some j ∧ w.cell? ⟨g, 9, none⟩ = some k ∧ w.cell? ⟨g, 10, none⟩ = some l ∧ w.cell? ⟨g, 11, none⟩ = some m ∧ w.cell? ⟨g, 12, none⟩ = some n ∧ w.cell? ⟨g, 13, none⟩ = some o :=
  ⟨hr.read rfl, hr.read rfl, hr.read rfl, hr.read rfl, hr.read rfl, hr.read rfl, hr.read rfl, hr.read rfl, hr.read rfl, hr.read rfl, hr.read rfl, hr.read rfl, hr.read rfl, hr.read rfl⟩
theorem free14 {w : World} {g : Nat} {t : TypeId} {cs : Array Value} (hr : Row w g t cs) : w.frozen? ⟨g, 0, none⟩ = false ∧ w.frozen? ⟨g, 1, none⟩ = false ∧ w.frozen? ⟨g, 2, none⟩ = false ∧ w.frozen? ⟨g, 3, none⟩ = false ∧ w.frozen? ⟨g, 4, none⟩ = false ∧ w.frozen? ⟨g, 5, none⟩ = false ∧ w.frozen? ⟨g, 6, none⟩ = false ∧ w.frozen? ⟨g, 7, none⟩ = false ∧ w.frozen? ⟨g, 8, none⟩ = false ∧ w.frozen? ⟨g, 9, none⟩ = false ∧ w.frozen? ⟨g, 10, none⟩ = false ∧ w.frozen? ⟨g, 11, none⟩ = false ∧ w.frozen? ⟨g, 12, none⟩ = false ∧ w.frozen? ⟨g, 13, none⟩ = false :=
  ⟨hr.free _, hr.free _, hr.free _, hr.free _, hr.free _, hr.free _, hr.free _, hr.free _, hr.free _, hr.free _, hr.free _, hr.free _, hr.free _, hr.free _⟩
set_option maxHeartbeats 4000000 in
theorem row_set14 {w : World} {g : Nat} {t : TypeId} {a b c d e f h i j k l m n o a' b' c' d' e' f' h' i' j' k' l' m' n' o' : Value} (h : Row w g t #[a, b, c, d, e, f, h, i, j, k, l, m, n, o]) : Row ((((((((((((((w.setCell ⟨g, 0, none⟩ a').setCell ⟨g, 1, none⟩ b').setCell ⟨g, 2, none⟩ c').setCell ⟨g, 3, none⟩ d').setCell ⟨g, 4, none⟩ e').setCell ⟨g, 5, none⟩ f').setCell ⟨g, 6, none⟩ h').setCell ⟨g, 7, none⟩ i').setCell ⟨g, 8, none⟩ j').setCell ⟨g, 9, none⟩ k').setCell ⟨g, 10, none⟩ l').setCell ⟨g, 11, none⟩ m').setCell ⟨g, 12, none⟩ n').setCell ⟨g, 13, none⟩ o') g t #[a', b', c', d', e', f', h', i', j', k', l', m', n', o'] := by
  have h2 := ((((((((((((((h.written 0 a').written 1 b').written 2 c').written 3 d').written 4 e').written 5 f').written 6 h').written 7 i').written 8 j').written 9 k').written 10 l').written 11 m').written 12 n').written 13 o')
  simpa using h2
set_option maxHeartbeats 4000000 in
theorem below_set14 {w0 w : World} {B g : Nat} (h : Below B w0 w) (hg : B ≤ g) (a' b' c' d' e' f' h' i' j' k' l' m' n' o' : Value) : Below B w0 ((((((((((((((w.setCell ⟨g, 0, none⟩ a').setCell ⟨g, 1, none⟩ b').setCell ⟨g, 2, none⟩ c').setCell ⟨g, 3, none⟩ d').setCell ⟨g, 4, none⟩ e').setCell ⟨g, 5, none⟩ f').setCell ⟨g, 6, none⟩ h').setCell ⟨g, 7, none⟩ i').setCell ⟨g, 8, none⟩ j').setCell ⟨g, 9, none⟩ k').setCell ⟨g, 10, none⟩ l').setCell ⟨g, 11, none⟩ m').setCell ⟨g, 12, none⟩ n').setCell ⟨g, 13, none⟩ o') := ((((((((((((((h.setCell (p := ⟨g, 0, none⟩) hg a').setCell (p := ⟨g, 1, none⟩) hg b').setCell (p := ⟨g, 2, none⟩) hg c').setCell (p := ⟨g, 3, none⟩) hg d').setCell (p := ⟨g, 4, none⟩) hg e').setCell (p := ⟨g, 5, none⟩) hg f').setCell (p := ⟨g, 6, none⟩) hg h').setCell (p := ⟨g, 7, none⟩) hg i').setCell (p := ⟨g, 8, none⟩) hg j').setCell (p := ⟨g, 9, none⟩) hg k').setCell (p := ⟨g, 10, none⟩) hg l').setCell (p := ⟨g, 11, none⟩) hg m').setCell (p := ⟨g, 12, none⟩) hg n').setCell (p := ⟨g, 13, none⟩) hg o')
theorem Try.infoun : (Try.prog.info? 203).map (·.size) = some 14 := by kernel_rfl
theorem Try.underun : (Try.prog.underlying 203).map (fun d => match d with | .struct _ => true | _ => false) = some true := by kernel_rfl
theorem underun_parts : ∃ fs, Try.prog.underlying 203 = some (.struct fs) := by
  obtain ⟨d, hd, h⟩ := Option.map_eq_some_iff.1 Try.underun
  cases d with
  | struct fs => exact ⟨fs, hd⟩
  | _ => simp at h
def kindF (mode : Int) (bs : List Nat) : Int := if mode = 0 then 0 else if mode = 1 then 1 else if bs.length = 0 then 2 else if bs.getD 0 0 < 128 then 3 else 2
set_option maxHeartbeats 1600000 in
theorem pkind_any {A : Option Addr} {bs : List Nat} (mode : Int) (n cap : Nat) (w : World) (hn : bs.length = n) (hs : Src w A (bts bs)) (hb : ∀ b ∈ bs, b < 256) :
    Calls Try.prog 189 #[.int .i64 mode, .slice A n cap] w fun e w' => e = .returned (.int .i64 (kindF mode bs)) ∧ w = w' := by
  by_cases h0 : mode = 0
  · have HX := Lib.hid (show kindF mode bs = 0 by unfold kindF; rw [if_pos h0])
    have h0' : (mode == 0) = true := by simpa using h0
    clear h0 hs hb hn
    go_enter Try.func189, Try.ntmps189
    go_wp2
    refine st_scope_through 0 (fun _ _ => False) (fun _ _ => 0) rfl (fun _ => ?_) (fun _ _ h => h.elim)
    go_wp2
    try simp only [Exit.jump]
    go_ret
    exact ⟨by rw [HX.out]; rfl, rfl⟩
  · have h0' : (mode == 0) = false := by simpa using h0
    by_cases h1 : mode = 1
    · have HX := Lib.hid (show kindF mode bs = 1 by unfold kindF; rw [if_neg h0, if_pos h1])
      have h1' : (mode == 1) = true := by simpa using h1
      clear h0 h1 hs hb hn
      go_enter Try.func189, Try.ntmps189
      go_wp2
      refine st_scope_through 0 (fun _ _ => False) (fun _ _ => 0) rfl (fun _ => ?_) (fun _ _ h => h.elim)
      go_wp2
      try simp only [Exit.jump]
      go_ret
      exact ⟨by rw [HX.out]; rfl, rfl⟩
    · have h1' : (mode == 1) = false := by simpa using h1
      cases bs with
      | nil =>
        have HX := Lib.hid (show kindF mode [] = 2 by unfold kindF; rw [if_neg h0, if_neg h1]; rfl)
        simp only [List.length_nil] at hn
        subst hn
        clear h0 h1 hs hb
        go_enter Try.func189, Try.ntmps189
        go_wp2
        refine st_scope_through 0 (fun a' w' => Fr [none, none, none, none, none, none, none, none, none, none, none, none, none, none, none, none, none, none, none, none, none] a' ∧ w = w') (fun _ _ => 0) rfl (fun hrest => ?_) ?_
        · go_wp2
          go_step3
          refine ⟨rfl, ?_, rfl⟩
          simp only [Fr, Holes]
          repeat apply Exists.intro
          rfl
        · rintro a' w' ⟨hfr, rfl⟩
          simp only [Fr, Holes] at hfr
          repeat (obtain ⟨_, hfr⟩ := hfr)
          go_wp2
          try simp only [Exit.jump]
          go_ret
          exact ⟨by rw [HX.out]; rfl, rfl⟩
      | cons b r =>
        have hb0 : b < 256 := hb b (List.mem_cons_self ..)
        obtain ⟨ad, rfl, hc⟩ := hs (by simp [bts])
        have c0 : w.cell? (ad.add 0) = some (.int .u8 b) := hc 0 _ rfl
        have hn0 : 0 < n := by simp at hn; omega
        have hne : (n == 0) = false := by simp; omega
        have e0 : ad.add 0 = ad := by simp [Addr.add]
        rw [e0] at c0
        have HXX := Lib.hid (show kindF mode (b :: r) = if b < 128 then 3 else 2 by unfold kindF; rw [if_neg h0, if_neg h1]; simp)
        clear h0 h1 hc hb hn e0
        by_cases hlt : b < 128
        · have g1 : ((b : Int) / 2 ^ 7 == 0) = true := by simp; omega
          rw [if_pos hlt] at HXX
          go_enter Try.func189, Try.ntmps189
          go_wp2
          refine st_scope_through 0 (fun _ _ => False) (fun _ _ => 0) rfl (fun _ => ?_) (fun _ _ h => h.elim)
          go_wp2
          try simp only [Exit.jump]
          go_ret
          exact ⟨by rw [HXX.out]; rfl, rfl⟩
        · have g1 : ((b : Int) / 2 ^ 7 == 0) = false := by simp; omega
          rw [if_neg hlt] at HXX
          go_enter Try.func189, Try.ntmps189
          go_wp2
          refine st_scope_through 0 (fun _ _ => False) (fun _ _ => 0) rfl (fun _ => ?_) (fun _ _ h => h.elim)
          go_wp2
          go_step3
          rename_i Q9 K9 h9
          refine h9 _ _ ?_
          go_wp2
          try simp only [Exit.jump]
          go_ret
          exact ⟨by rw [HXX.out]; rfl, rfl⟩
theorem pcheck_any (c : Cf) (w : World) : Calls Try.prog 135 #[.agg c.a] w fun e w' => e = .returned (.int .i64 (checkF c)) ∧ Below w.heap.size w w' := by
  obtain ⟨mode, bits, win, reo, prx, pro, ppd, pby, mrx, qb⟩ := c
  by_cases h0 : mode = 0
  · subst h0; exact pcheck0 bits win reo prx pro ppd pby mrx qb w
  · by_cases h1 : mode = 1
    · subst h1; exact pcheck1 bits win reo prx pro ppd pby mrx qb w
    · by_cases h2 : mode = 2
      · subst h2; exact pcheck2 bits win reo prx pro ppd pby mrx qb w
      · exact pcheck9 _ w h0 h1 h2
end Go.Proofs.Ytbcjfdhphpckfaa
