/-
  status: how the statuses that a statement draws read. pdu: numbers keep to their limits. pdu: which configs may be. pdu: which configs may be: the rest. pdu: Check. pdu: Check of the other modes.
-/
import Derived.Test.YtbcjfdhphpckfaaJCutBuilds16
import Derived.Test.YtbcjfdhphpckfaaJCutBuilds10
import Derived.SizedLaws
import Derived.Deep.Matrix
import Derived.Lib.SmallJoins
import Derived.OpenShut
import Derived.Deep.Slices
import Derived.Test.YtbcjfdhphpckfaaJCutBuilds13
namespace Go.Proofs.Ytbcjfdhphpckfaa
open Go.ChangeShapes Go.WideShapes Go.ChangeAt Go.RowKit Go.Deep

theorem Try.cells311 : Try.prog.cellsOf 311 = 4 := by kernel_rfl
theorem Try.cells3s : Try.prog.cellsOf 3 = 1 := by kernel_rfl
theorem Try.cells4s : Try.prog.cellsOf 4 = 1 := by kernel_rfl
set_option maxRecDepth 100000 in
theorem miss_cells {H : Type} {enc : TypeId × Value → H} {W : World} {base fuel : Nat} {sp : Nat → Bool} {held : Bool} {cs : List Value} {x : DataW H × List MemPlace}
    (h : DataW.trod enc Try.prog W base sp held fuel 311 cs = some x) : ∃ m : MissM, cs = [.int .i64 m.sn, .bool m.part, .int .i64 m.fr, .int .i64 m.to] := by
  obtain ⟨xs, n, _, _, hl, hxs, hf⟩ := DataW.trod_struct Try.underlying311 h
  have h0 := hf 0 _ rfl
  have h1 := hf 1 _ rfl
  have h2 := hf 2 _ rfl
  have h3 := hf 3 _ rfl
  rw [Try.cells311] at hl
  match cs, hl with
  | [c0, c1, c2, c3], _ =>
    have hxs' : xs.length = 4 := by simpa using hxs
    match xs, hxs' with
    | [y0, y1, y2, y3], _ =>
      have h0' : DataW.trod enc Try.prog W base sp held n 3 (([c0, c1, c2, c3].drop 0).take (Try.prog.cellsOf 3)) = some y0 := h0
      have h1' : DataW.trod enc Try.prog W base sp held n 4 (([c0, c1, c2, c3].drop 1).take (Try.prog.cellsOf 4)) = some y1 := h1
      have h2' : DataW.trod enc Try.prog W base sp held n 3 (([c0, c1, c2, c3].drop 2).take (Try.prog.cellsOf 3)) = some y2 := h2
      have h3' : DataW.trod enc Try.prog W base sp held n 3 (([c0, c1, c2, c3].drop 3).take (Try.prog.cellsOf 3)) = some y3 := h3
      rw [Try.cells3s] at h0' h2' h3'
      rw [Try.cells4s] at h1'
      obtain ⟨a, ea, _, _⟩ := DataW.trod_int Try.underlying3 h0'
      obtain ⟨b, eb, _⟩ := DataW.trod_bool Try.underlying4 h1'
      obtain ⟨c, ec, _, _⟩ := DataW.trod_int Try.underlying3 h2'
      obtain ⟨d, ed, _, _⟩ := DataW.trod_int Try.underlying3 h3'
      simp at ea eb ec ed
      exact ⟨⟨a, b, c, d⟩, by rw [ea, eb, ec, ed]⟩
theorem spot_none {w : World} {a : Addr} {x : Value} (h : w.cell? a = some x) : a.spot = none := by
  unfold World.cell? at h
  split at h
  · split at h
    · cases h
    · rename_i h1
      simpa using h1
  · cases h
theorem add_plain (b o j : Nat) : (⟨b, o, none⟩ : Addr).add j = ⟨b, o + j, none⟩ := by
  unfold Addr.add
  split
  · rename_i h
    subst h
    rfl
  · rfl
theorem misses_cells {H : Type} {enc : TypeId × Value → H} {W : World} {fuel : Nat} {v : Value} {y : DataW H × List MemPlace} (hf : DataW.trod enc Try.prog W 0 (fun _ => true) true fuel 199 [v] = some y) :
    ∃ (A : Option Addr) (cap : Nat) (L : List MissM), v = .slice A L.length cap ∧ L.length ≤ cap ∧ cap ≤ 9223372036854775807 ∧ MSrc W A L := by
  rcases open_slice Try.underlying199 hf with ⟨hcs, _⟩ | ⟨a, len, cap, m, n, D, Pl, hcs, _, hl, hm, hmm, _, hcell⟩
  · have e : v = .slice none 0 0 := by simpa using hcs
    rw [e]
    exact ⟨none, 0, [], rfl, Nat.le_refl _, by omega, fun h0 => absurd h0 (by simp)⟩
  · have e : v = .slice (some a) len cap := by simpa using hcs
    rw [e]
    have hm' : m = cap := by simpa using hmm
    have each : ∀ i, i < len → ∃ q : MissM, W.cell? (a.add (i * 4)) = some (.int .i64 q.sn) ∧ W.cell? (a.add (i * 4 + 1)) = some (.bool q.part) ∧ W.cell? (a.add (i * 4 + 2)) = some (.int .i64 q.fr) ∧ W.cell? (a.add (i * 4 + 3)) = some (.int .i64 q.to) := by
      intro i hi
      obtain ⟨cs', hc, ht⟩ := hcell i (by omega)
      rw [Try.cells311] at hc
      obtain ⟨q, rfl⟩ := miss_cells ht
      obtain ⟨_, _, hg⟩ := World.cells?_some hc
      have g0 := hg 0 (by omega)
      have g1 := hg 1 (by omega)
      have g2 := hg 2 (by omega)
      have g3 := hg 3 (by omega)
      rw [Go.Deep.add_add] at g0 g1 g2 g3
      exact ⟨q, g0, g1, g2, g3⟩
    let q : Nat → MissM := fun i => if h : i < len then (each i h).choose else ⟨0, false, 0, 0⟩
    have hq : ∀ i, i < len → W.cell? (a.add (i * 4)) = some (.int .i64 (q i).sn) ∧ W.cell? (a.add (i * 4 + 1)) = some (.bool (q i).part) ∧ W.cell? (a.add (i * 4 + 2)) = some (.int .i64 (q i).fr) ∧ W.cell? (a.add (i * 4 + 3)) = some (.int .i64 (q i).to) := by
      intro i hi
      have e : q i = (each i hi).choose := by simp [q, hi]
      rw [e]
      exact (each i hi).choose_spec
    refine ⟨some a, cap, (List.range len).map q, by simp, by simpa using hl, by unfold maxLen at hm; exact hm, fun h0 => ?_⟩
    have h0' : 0 < len := by simpa using h0
    have hs : a.spot = none := by
      have h1 := spot_none (hq 0 h0').1
      simpa [Addr.add] using h1
    obtain ⟨b, o, s⟩ := a
    simp only at hs
    subst hs
    refine ⟨b, o, rfl, fun k m hk => ?_⟩
    have hkl : k < len := by
      have := (List.getElem?_eq_some_iff.1 hk).1
      simpa using this
    rw [List.getElem?_map, List.getElem?_range hkl] at hk
    simp only [Option.map_some, Option.some.injEq] at hk
    subst hk
    obtain ⟨c0, c1, c2, c3⟩ := hq k hkl
    refine ⟨?_, ?_, ?_, ?_⟩
    · rwa [add_plain] at c0
    · rwa [add_plain, ← Nat.add_assoc] at c1
    · rwa [add_plain, ← Nat.add_assoc] at c2
    · rwa [add_plain, ← Nat.add_assoc] at c3
theorem st_agg_field {H : Type} {enc : TypeId × Value → H} {P : Program} {w : World} {base b0 : Nat} {spare : Nat → Bool} {held : Bool} {r : Reach} {t : TypeId} {fs : Array Field} {v : Value} {d : DataW H} {p : List MemPlace}
    (hs : P.underlying t = some (.struct fs)) (hone : oneCellFields P fs = true) (hC : P.cellsOf t = fs.size) (hv : Value.okWide P w r b0 t v) (h : DataW.Trod enc P w base spare held t v d p) :
    ∃ cs : Array Value, v = .agg cs ∧ cs.size = fs.size ∧ ∃ n, ∀ (j : Nat) (f : Field), fs[j]? = some f → ∃ (x : Value) (y : DataW H × List MemPlace), cs[j]? = some x ∧ DataW.trod enc P w base spare held n f.type [x] = some y := by
  obtain ⟨cs, rfl, hsz⟩ := okWide_struct hs hv
  obtain ⟨fuel, hf⟩ := h
  obtain ⟨xs, n, _, _, _, hlen, hg⟩ := DataW.trod_struct hs hf
  refine ⟨cs, rfl, hsz.trans hC, n, fun j f hj => ?_⟩
  obtain ⟨ho, hk⟩ := hone_of hone j f hj
  have hjl : j < fs.size := (Array.getElem?_eq_some_iff.1 hj).1
  have hjc : j < cs.size := by rw [hsz, hC]; exact hjl
  have hjx : j < xs.length := by omega
  refine ⟨cs[j], xs[j], Array.getElem?_eq_getElem hjc, ?_⟩
  have h1 := hg j f hj
  rw [ho, hk, List.getElem?_eq_getElem hjx] at h1
  have e : ((Value.agg cs).cells.toList.drop j).take 1 = [cs[j]] := by
    simp only [Value.cells]
    rw [List.drop_eq_getElem_cons (by simpa using hjc)]
    simp
  rw [← e]
  exact h1
set_option maxRecDepth 100000 in
theorem status_arg {H : Type} {enc : TypeId × Value → H} {W : World} {base : Nat} {v : Value} {d : DataW H} {p : List MemPlace} (hok : Value.okWide Try.prog W .any base 201 v)
    (h : DataW.Trod enc Try.prog W 0 (fun _ => true) true 201 v d p) : ∃ (ack : Int) (A : Option Addr) (cap : Nat) (L : List MissM), v = .agg #[.int .i64 ack, .slice A L.length cap] ∧ L.length ≤ cap ∧ cap ≤ 9223372036854775807 ∧ MSrc W A L := by
  obtain ⟨cs, rfl, hsz, n, hf⟩ := st_agg_field Try.underlying201 (by kernel_rfl) (by kernel_rfl) hok h
  obtain ⟨x0, y0, e0, h0⟩ := hf 0 _ rfl
  obtain ⟨x1, y1, e1, h1⟩ := hf 1 _ rfl
  have hcs : cs = #[x0, x1] := by
    have hsz7 : cs.size = 2 := hsz
    apply Array.ext (by rw [hsz7]; rfl)
    intro i hi _
    have h7 : i < 2 := by omega
    have key : ∀ k x, cs[k]? = some x → ∀ (hk : k < cs.size), cs[k] = x := fun k x hx hk => by
      rw [Array.getElem?_eq_getElem hk] at hx
      injection hx
    rcases i with _ | _ | i
    · exact key 0 _ e0 hi
    · exact key 1 _ e1 hi
    · omega
  subst hcs
  obtain ⟨a0, g0, _⟩ := DataW.trod_int Try.underlying3 h0
  injection g0 with g0
  subst g0
  obtain ⟨A, cap, L, rfl, q1, q2, q3⟩ := misses_cells h1
  exact ⟨a0, A, cap, L, rfl, q1, q2, q3⟩
set_option maxRecDepth 100000 in
theorem miss_arg {H : Type} {enc : TypeId × Value → H} {W : World} {base : Nat} {v : Value} {d : DataW H} {p : List MemPlace} (hok : Value.okWide Try.prog W .any base 311 v)
    (h : DataW.Trod enc Try.prog W 0 (fun _ => true) true 311 v d p) : ∃ m : MissM, v = m.v := by
  obtain ⟨cs, rfl, hsz⟩ := okWide_struct Try.underlying311 hok
  obtain ⟨fuel, hf⟩ := h
  obtain ⟨m, hm⟩ := miss_cells hf
  refine ⟨m, ?_⟩
  unfold MissM.v
  congr 1
  apply Array.toList_inj.1
  simpa [Value.cells] using hm
end Go.Proofs.Ytbcjfdhphpckfaa
namespace Go.Proofs.Ytbcjfdhphpckfaa
open Go.RowKit

def inB (n l m : Int) : Bool := decide (l ≤ n) && decide (n ≤ m)
def limV (l : List (Int × Int × Int)) : List Value := l.flatMap fun x => [.int .i64 x.1, .int .i64 x.2.1, .int .i64 x.2.2]
theorem limV_cons (x : Int × Int × Int) (t : List (Int × Int × Int)) : limV (x :: t) = .int .i64 x.1 :: .int .i64 x.2.1 :: .int .i64 x.2.2 :: limV t := rfl
theorem limV_at {l : List (Int × Int × Int)} {k : Nat} {x : Int × Int × Int} (h : l[k]? = some x) : (limV l)[k * 3]? = some (.int .i64 x.1) ∧ (limV l)[k * 3 + 1]? = some (.int .i64 x.2.1) ∧ (limV l)[k * 3 + 2]? = some (.int .i64 x.2.2) := by
  induction l generalizing k with
  | nil => simp at h
  | cons z r ih =>
    cases k with
    | zero => simp at h; subst h; exact ⟨rfl, rfl, rfl⟩
    | succ k =>
      have h2 := ih (k := k) (by simpa using h)
      rw [limV_cons, show (k + 1) * 3 = k * 3 + 1 + 1 + 1 by omega]
      simpa using h2
def limB (x : Int × Int × Int) : Bool := inB x.1 x.2.1 x.2.2
set_option maxRecDepth 100000 in
set_option maxHeartbeats 1600000 in
theorem pwithin_any {g : Nat} {l : List (Int × Int × Int)} {cs : Array Value} (n cap : Nat) (w : World) (hn : l.length = n) (hn9 : n ≤ 100) (hr : Row w g 257 cs) (hc : cs = (limV l).toArray) :
    Calls Try.prog 185 #[.slice (some ⟨g, 0, none⟩) n cap] w fun e w' => e = .returned (.bool (l.all limB)) ∧ Below w.heap.size w w' := by
  subst hc
  have HR := Lib.hid hr
  have HL := Lib.hid hn
  clear hr hn
  go_enter Try.func185, Try.ntmps185
  go_wp2
  go_loopw [7] (fun i wr => ∃ k : Nat, k ≤ n ∧ i = .int .i64 k ∧ Hid (l.all limB = (l.drop k).all limB) ∧ Hid (Below w.heap.size w wr)) (fun i _ => n - (intOf i).toNat)
  case atStart => exact ⟨0, by omega, rfl, Lib.hid (by simp), Lib.hid (Below.refl _ _)⟩
  case round =>
    obtain ⟨k, hk, rfl, HK, HB⟩ := hrel
    by_cases hlt : k < n
    · obtain ⟨⟨x, lo, hi⟩, hx⟩ : ∃ r, l[k]? = some r := ⟨_, List.getElem?_eq_getElem (by rw [HL.out]; exact hlt)⟩
      obtain ⟨e0, e1, e2⟩ := limV_at hx
      have RG := HR.out.later HB.out
      have f0 : wr.cell? ⟨g, k * 3, none⟩ = some (.int .i64 x) := RG.read (by simpa using e0)
      have f1 : wr.cell? ⟨g, k * 3 + 1, none⟩ = some (.int .i64 lo) := RG.read (by simpa using e1)
      have f2 : wr.cell? ⟨g, k * 3 + 2, none⟩ = some (.int .i64 hi) := RG.read (by simpa using e2)
      have HD := Lib.hid (show l.drop k = (x, lo, hi) :: l.drop (k + 1) by
        obtain ⟨h1, h2⟩ := List.getElem?_eq_some_iff.1 hx
        rw [List.drop_eq_getElem_cons h1, h2])
      have hkI : (k : Int) < (n : Int) := by omega
      have RM := Row.made wr 257 #[.int .i64 x, .int .i64 lo, .int .i64 hi]
      have m0 := RM.read (i := 0) rfl
      have m1 := RM.read (i := 1) rfl
      have m2 := RM.read (i := 2) rfl
      clear hx e0 e1 e2 RG RM
      by_cases h1 : x < lo
      · have h1' : decide (x < lo) = true := decide_eq_true h1
        have HF := Lib.hid (show limB (x, lo, hi) = false by unfold limB inB; simp; omega)
        clear h1
        go_wp2
        go_ret
        exact ⟨ret_bool (by rw [HK.out, HD.out]; simp [HF.out]), bl_alloc HB.out _⟩
      · have h1' : decide (x < lo) = false := decide_eq_false h1
        by_cases h2 : hi < x
        · have h2' : decide (hi < x) = true := decide_eq_true h2
          have HF := Lib.hid (show limB (x, lo, hi) = false by unfold limB inB; simp; omega)
          clear h1 h2
          go_wp2
          go_ret
          exact ⟨ret_bool (by rw [HK.out, HD.out]; simp [HF.out]), bl_alloc HB.out _⟩
        · have h2' : decide (hi < x) = false := decide_eq_false h2
          have HF := Lib.hid (show limB (x, lo, hi) = true by unfold limB inB; simp; omega)
          clear h1 h2
          go_wp2
          go_roundw
          case rel => exact ⟨k + 1, by omega, by go_num, Lib.hid (by rw [HK.out, HD.out]; simp [HF.out]), Lib.hid (bl_alloc HB.out _)⟩
          case measure => simp [intOf]; omega
    · have hkn : k = n := by omega
      subst hkn
      go_wp2
      go_ret
      exact ⟨ret_bool (by rw [HK.out, List.drop_of_length_le (by rw [HL.out]; exact Nat.le_refl _)]; rfl), HB.out⟩
end Go.Proofs.Ytbcjfdhphpckfaa
namespace Go.Proofs.Ytbcjfdhphpckfaa
open Go.RowKit

structure Cf where
  mode : Int
  bits : Int
  win : Int
  reo : Int
  prx : Int
  pro : Int
  ppd : Int
  pby : Int
  mrx : Int
  qb : Int
def Cf.a (c : Cf) : Array Value := #[.int .i64 c.mode, .int .i64 c.bits, .int .i64 c.win, .int .i64 c.reo, .int .i64 c.prx, .int .i64 c.pro, .int .i64 c.ppd, .int .i64 c.pby, .int .i64 c.mrx, .int .i64 c.qb]
theorem cells10 {w : World} {g : Nat} {t : TypeId} {a b c d e f h i j k : Value} (hr : Row w g t #[a, b, c, d, e, f, h, i, j, k]) : w.cell? ⟨g, 0, none⟩ = some a ∧ w.cell? ⟨g, 1, none⟩ = some b ∧ w.cell? ⟨g, 2, none⟩ = some c ∧ w.cell? ⟨g, 3, none⟩ = some d ∧ w.cell? ⟨g, 4, none⟩ = some e ∧ w.cell? ⟨g, 5, none⟩ = some f ∧ w.cell? ⟨g, 6, none⟩ = some h ∧ w.cell? ⟨g, 7, none⟩ = some i ∧ w.cell? ⟨g, 8, none⟩ = some j ∧ w.cell? ⟨g, 9, none⟩ = some k :=
  ⟨hr.read rfl, hr.read rfl, hr.read rfl, hr.read rfl, hr.read rfl, hr.read rfl, hr.read rfl, hr.read rfl, hr.read rfl, hr.read rfl⟩
set_option maxRecDepth 100000 in
theorem pindex_any {g : Nat} (a b x : Int) (cap : Nat) (w : World) (hr : Row w g 3 #[.int .i64 a, .int .i64 b]) :
    Calls Try.prog 258 #[.slice (some ⟨g, 0, none⟩) 2 cap, .int .i64 x] w fun e w' => e = .returned (.int .i64 (if x = a then 0 else if x = b then 1 else -1)) ∧ w = w' := by
  have c0 := hr.read (i := 0) rfl
  have c1 := hr.read (i := 1) rfl
  clear hr
  go_enter Try.func258, Try.ntmps258
  go_wp2
  go_loopw [8] (fun i wr => ∃ k : Nat, k ≤ 2 ∧ i = .int .i64 k ∧ Hid ((0 < k → x ≠ a) ∧ (1 < k → x ≠ b)) ∧ w = wr) (fun i _ => 2 - (intOf i).toNat)
  case atStart => exact ⟨0, by omega, rfl, Lib.hid ⟨by omega, by omega⟩, rfl⟩
  case round =>
    obtain ⟨k, hk, rfl, HK, rfl⟩ := hrel
    obtain rfl | rfl | rfl : k = 0 ∨ k = 1 ∨ k = 2 := by omega
    · by_cases h : x = a
      · have h1 : (x == a) = true := by simpa using h
        have HX := Lib.hid h
        clear h
        go_wp2
        go_ret
        exact ⟨ret_int (by first | rfl | (rw [if_pos HX.out]; rfl)), rfl⟩
      · have h1 : (x == a) = false := by simpa using h
        have HX := Lib.hid h
        clear h
        go_wp2
        go_roundw
        case rel => exact ⟨1, by omega, rfl, Lib.hid ⟨fun _ => HX.out, by omega⟩, by first | rfl | trivial⟩
        case measure => simp [intOf]
    · have HA := Lib.hid (HK.out.1 (by omega))
      by_cases h : x = b
      · have h1 : (x == b) = true := by simpa using h
        have HX := Lib.hid h
        clear h
        go_wp2
        go_ret
        exact ⟨ret_int (by first | rfl | (rw [if_neg HA.out, if_pos HX.out]; rfl)), rfl⟩
      · have h1 : (x == b) = false := by simpa using h
        have HX := Lib.hid h
        clear h
        go_wp2
        go_roundw
        case rel => exact ⟨2, by omega, rfl, Lib.hid ⟨fun _ => HA.out, fun _ => HX.out⟩, by first | rfl | trivial⟩
        case measure => simp [intOf]
    · have HA := Lib.hid (HK.out.1 (by omega))
      have HBB := Lib.hid (HK.out.2 (by omega))
      go_wp2
      go_ret
      exact ⟨ret_int (by first | rfl | (rw [if_neg HA.out, if_neg HBB.out])), rfl⟩
def in2 (x a b : Int) : Bool := (x == a) || (x == b)
theorem pcontains_any {g : Nat} (a b x : Int) (cap : Nat) (w : World) (hr : Row w g 3 #[.int .i64 a, .int .i64 b]) :
    Calls Try.prog 227 #[.slice (some ⟨g, 0, none⟩) 2 cap, .int .i64 x] w fun e w' => e = .returned (.bool (in2 x a b)) ∧ w = w' := by
  have HI := Lib.hid (pindex_any a b x cap w hr)
  clear hr
  by_cases h : in2 x a b = true
  · have HX := Lib.hid h
    by_cases h1 : x = a
    · rw [if_pos h1] at HI
      clear h h1
      go_enter Try.func227, Try.ntmps227
      go_wp2_with (go_at_call 258; (with_reducible refine HI.out.mono ?_); rintro e w1 ⟨rfl, rfl⟩)
      go_ret
      exact ⟨ret_bool (by rw [HX.out]), rfl⟩
    · have h2 : x = b := by simpa [in2, h1] using h
      rw [if_neg h1, if_pos h2] at HI
      clear h h1 h2
      go_enter Try.func227, Try.ntmps227
      go_wp2_with (go_at_call 258; (with_reducible refine HI.out.mono ?_); rintro e w1 ⟨rfl, rfl⟩)
      go_ret
      exact ⟨ret_bool (by rw [HX.out]), rfl⟩
  · have h1 : x ≠ a := fun h1 => h (by simp [in2, h1])
    have h2 : x ≠ b := fun h2 => h (by simp [in2, h2])
    have HX := Lib.hid (show in2 x a b = false by simpa using h)
    rw [if_neg h1, if_neg h2] at HI
    clear h h1 h2
    go_enter Try.func227, Try.ntmps227
    go_wp2_with (go_at_call 258; (with_reducible refine HI.out.mono ?_); rintro e w1 ⟨rfl, rfl⟩)
    go_ret
    exact ⟨ret_bool (by rw [HX.out]), rfl⟩
def numB (c : Cf) (a b : Int) : Bool := in2 c.bits a b && ([(c.win, 1, sz c.bits / 2), (c.reo, 1, 1000)].all limB)
set_option maxRecDepth 100000 in
set_option maxHeartbeats 1600000 in
theorem pnumbered_any {g : Nat} (c : Cf) (a b : Int) (cap : Nat) (w : World) (hr : Row w g 3 #[.int .i64 a, .int .i64 b]) :
    Calls Try.prog 186 #[.agg c.a, .slice (some ⟨g, 0, none⟩) 2 cap] w fun e w' => e = .returned (.bool (numB c a b)) ∧ Below w.heap.size w w' := by
  obtain ⟨mode, bits, win, reo, prx, pro, ppd, pby, mrx, qb⟩ := c
  unfold Cf.a
  have ROW := Lib.hid (Row.made w 94 #[.int .i64 mode, .int .i64 bits, .int .i64 win, .int .i64 reo, .int .i64 prx, .int .i64 pro, .int .i64 ppd, .int .i64 pby, .int .i64 mrx, .int .i64 qb])
  have HB0 := Lib.hid (bl_alloc (Below.refl w.heap.size w) (.cells #[.int .i64 mode, .int .i64 bits, .int .i64 win, .int .i64 reo, .int .i64 prx, .int .i64 pro, .int .i64 ppd, .int .i64 pby, .int .i64 mrx, .int .i64 qb] 94))
  have HR := Lib.hid (hr.later HB0.out)
  have HS := Lib.hid (fun W => sqsize_any bits W)
  have hsz := sz_bd bits
  have HSB := Lib.hid hsz
  have HC := Lib.hid (fun W h => pcontains_any (g := g) a b bits cap W h)
  have HW := Lib.hid (fun W g' (h : Row W g' 257 #[.int .i64 win, .int .i64 1, .int .i64 (sz bits / 2), .int .i64 reo, .int .i64 1, .int .i64 1000]) => pwithin_any (l := [(win, 1, sz bits / 2), (reo, 1, 1000)]) 2 2 W rfl (by omega) h rfl)
  have HN := Lib.hid (show numB ⟨mode, bits, win, reo, prx, pro, ppd, pby, mrx, qb⟩ a b = (in2 bits a b && ([(win, 1, sz bits / 2), (reo, 1, 1000)].all limB)) from rfl)
  generalize [(win, 1, sz bits / 2), (reo, 1, 1000)].all limB = r at *
  generalize sz bits = s at *
  clear hr
  cases hb : in2 bits a b
  all_goals
    rw [hb] at HC HN
    clear hb
    go_enter Try.func186, Try.ntmps186
    obtain ⟨c0, c1, c2, c3, c4, c5, c6, c7, c8, c9⟩ := cells10 ROW.out
    go_wp2_with (first
      | (go_at_call 203; (with_reducible refine (HS.out _).mono ?_); rintro e w1 ⟨rfl, hb1⟩; (have HB1 := Lib.hid (bl_step HB0.out hb1); have ROW1 := Lib.hid (ROW.out.later hb1); have HR1 := Lib.hid (HR.out.later hb1); clear hb1 c0 c1 c2 c3 c4 c5 c6 c7 c8 c9; obtain ⟨c0, c1, c2, c3, c4, c5, c6, c7, c8, c9⟩ := cells10 ROW1.out))
      | (go_at_call 227; (with_reducible refine (HC.out _ HR1.out).mono ?_); rintro e wx ⟨rfl, rfl⟩)
      | (go_at_call 185; (with_reducible refine (HW.out _ _ (Row.made _ _ _)).mono ?_); rintro e w2 ⟨rfl, hb2⟩; (have HB2 := Lib.hid (bl_step (bl_alloc HB1.out _) hb2); clear hb2)))
    go_ret
  · exact ⟨ret_bool (by rw [HN.out]; rfl), HB1.out⟩
  · exact ⟨ret_bool (by rw [HN.out]; simp), HB2.out⟩
end Go.Proofs.Ytbcjfdhphpckfaa
namespace Go.Proofs.Ytbcjfdhphpckfaa
open Go.RowKit

def askB (c : Cf) : Bool := [(c.prx, 1, 1000), (c.pro, 0, 1000), (c.ppd, 1, 1000), (c.pby, 1, 20000), (c.mrx, 1, 32)].all limB
set_option maxRecDepth 100000 in
set_option maxHeartbeats 1600000 in
theorem pasking_any (c : Cf) (w : World) : Calls Try.prog 187 #[.agg c.a] w fun e w' => e = .returned (.bool (askB c)) ∧ Below w.heap.size w w' := by
  obtain ⟨mode, bits, win, reo, prx, pro, ppd, pby, mrx, qb⟩ := c
  unfold Cf.a
  have ROW := Lib.hid (Row.made w 94 #[.int .i64 mode, .int .i64 bits, .int .i64 win, .int .i64 reo, .int .i64 prx, .int .i64 pro, .int .i64 ppd, .int .i64 pby, .int .i64 mrx, .int .i64 qb])
  have HB0 := Lib.hid (bl_alloc (Below.refl w.heap.size w) (.cells #[.int .i64 mode, .int .i64 bits, .int .i64 win, .int .i64 reo, .int .i64 prx, .int .i64 pro, .int .i64 ppd, .int .i64 pby, .int .i64 mrx, .int .i64 qb] 94))
  have HW := Lib.hid (fun W g' (h : Row W g' 257 #[.int .i64 prx, .int .i64 1, .int .i64 1000, .int .i64 pro, .int .i64 0, .int .i64 1000, .int .i64 ppd, .int .i64 1, .int .i64 1000, .int .i64 pby, .int .i64 1, .int .i64 20000, .int .i64 mrx, .int .i64 1, .int .i64 32]) => pwithin_any (l := [(prx, 1, 1000), (pro, 0, 1000), (ppd, 1, 1000), (pby, 1, 20000), (mrx, 1, 32)]) 5 5 W rfl (by omega) h rfl)
  go_enter Try.func187, Try.ntmps187
  obtain ⟨c0, c1, c2, c3, c4, c5, c6, c7, c8, c9⟩ := cells10 ROW.out
  go_wp2_with (go_at_call 185; (with_reducible refine (HW.out _ _ (row_at2 _ _ _ _ (size_1 _ _))).mono ?_); rintro e w2 ⟨rfl, hb2⟩)
  go_ret
  exact ⟨ret_bool (by simp [askB]), bl_step (bl_alloc HB0.out _) hb2⟩
def unF (c : Cf) : Cf := if c.mode = 0 then ⟨0, c.bits, c.win, c.reo, c.prx, c.pro, c.ppd, c.pby, c.mrx, 0⟩ else if c.mode = 1 then ⟨0, 0, 0, 0, c.prx, c.pro, c.ppd, c.pby, c.mrx, 0⟩ else ⟨0, 0, 0, 0, 0, 0, 0, 0, 0, 0⟩
theorem Try.infocf : (Try.prog.info? 94).map (·.size) = some 10 := by kernel_rfl
theorem Try.undercf : (Try.prog.underlying 94).map (fun d => match d with | .struct _ => true | _ => false) = some true := by kernel_rfl
theorem undercf_parts : ∃ fs, Try.prog.underlying 94 = some (.struct fs) := by
  obtain ⟨d, hd, h⟩ := Option.map_eq_some_iff.1 Try.undercf
  cases d with
  | struct fs => exact ⟨fs, hd⟩
  | _ => simp at h
theorem cells10f {w : World} {g : Nat} {t : TypeId} {cs : Array Value} (hr : Row w g t cs) : w.frozen? ⟨g, 0, none⟩ = false ∧ w.frozen? ⟨g, 1, none⟩ = false ∧ w.frozen? ⟨g, 2, none⟩ = false ∧ w.frozen? ⟨g, 3, none⟩ = false ∧ w.frozen? ⟨g, 4, none⟩ = false ∧ w.frozen? ⟨g, 5, none⟩ = false ∧ w.frozen? ⟨g, 6, none⟩ = false ∧ w.frozen? ⟨g, 7, none⟩ = false ∧ w.frozen? ⟨g, 8, none⟩ = false ∧ w.frozen? ⟨g, 9, none⟩ = false :=
  ⟨hr.free _, hr.free _, hr.free _, hr.free _, hr.free _, hr.free _, hr.free _, hr.free _, hr.free _, hr.free _⟩
set_option maxRecDepth 100000 in
set_option maxHeartbeats 3200000 in
theorem punused0 (bits win reo prx pro ppd pby mrx qb : Int) (w : World) : Calls Try.prog 188 #[.agg #[.int .i64 0, .int .i64 bits, .int .i64 win, .int .i64 reo, .int .i64 prx, .int .i64 pro, .int .i64 ppd, .int .i64 pby, .int .i64 mrx, .int .i64 qb]] w fun e w' => e = .returned (.agg #[.int .i64 0, .int .i64 bits, .int .i64 win, .int .i64 reo, .int .i64 prx, .int .i64 pro, .int .i64 ppd, .int .i64 pby, .int .i64 mrx, .int .i64 0]) ∧ Below w.heap.size w w' := by
  obtain ⟨dd, hdd⟩ := undercf_parts
  go_enter Try.func188, Try.ntmps188
  go_wp2
  refine bodyPost_ret (results_cell_row rfl _ _ (w.heap.size + 1) 94 #[.int .i64 0, .int .i64 bits, .int .i64 win, .int .i64 reo, .int .i64 prx, .int .i64 pro, .int .i64 ppd, .int .i64 pby, .int .i64 mrx, .int .i64 0] (0, 0) (.struct dd) rfl (row_at2 _ _ _ _ (size_1 _ _)) hdd rfl Try.infocf) rfl ?_
  exact ⟨rfl, bl_alloc (bl_alloc (Below.refl _ _) _) _⟩
set_option maxRecDepth 100000 in
set_option maxHeartbeats 3200000 in
theorem punused1 (bits win reo prx pro ppd pby mrx qb : Int) (w : World) : Calls Try.prog 188 #[.agg #[.int .i64 1, .int .i64 bits, .int .i64 win, .int .i64 reo, .int .i64 prx, .int .i64 pro, .int .i64 ppd, .int .i64 pby, .int .i64 mrx, .int .i64 qb]] w fun e w' => e = .returned (.agg #[.int .i64 0, .int .i64 0, .int .i64 0, .int .i64 0, .int .i64 prx, .int .i64 pro, .int .i64 ppd, .int .i64 pby, .int .i64 mrx, .int .i64 0]) ∧ Below w.heap.size w w' := by
  obtain ⟨dd, hdd⟩ := undercf_parts
  go_enter Try.func188, Try.ntmps188
  go_wp2
  refine bodyPost_ret (results_cell_row rfl _ _ (w.heap.size + 1) 94 #[.int .i64 0, .int .i64 0, .int .i64 0, .int .i64 0, .int .i64 prx, .int .i64 pro, .int .i64 ppd, .int .i64 pby, .int .i64 mrx, .int .i64 0] (0, 0) (.struct dd) rfl (row_at2 _ _ _ _ (size_1 _ _)) hdd rfl Try.infocf) rfl ?_
  exact ⟨rfl, bl_alloc (bl_alloc (Below.refl _ _) _) _⟩
set_option maxRecDepth 100000 in
set_option maxHeartbeats 3200000 in
theorem punused2 (bits win reo prx pro ppd pby mrx qb : Int) (w : World) : Calls Try.prog 188 #[.agg #[.int .i64 2, .int .i64 bits, .int .i64 win, .int .i64 reo, .int .i64 prx, .int .i64 pro, .int .i64 ppd, .int .i64 pby, .int .i64 mrx, .int .i64 qb]] w fun e w' => e = .returned (.agg #[.int .i64 0, .int .i64 0, .int .i64 0, .int .i64 0, .int .i64 0, .int .i64 0, .int .i64 0, .int .i64 0, .int .i64 0, .int .i64 0]) ∧ Below w.heap.size w w' := by
  obtain ⟨dd, hdd⟩ := undercf_parts
  go_enter Try.func188, Try.ntmps188
  go_wp2
  refine bodyPost_ret (results_cell_row rfl _ _ (w.heap.size + 1) 94 #[.int .i64 0, .int .i64 0, .int .i64 0, .int .i64 0, .int .i64 0, .int .i64 0, .int .i64 0, .int .i64 0, .int .i64 0, .int .i64 0] (0, 0) (.struct dd) rfl (row_at2 _ _ _ _ (size_1 _ _)) hdd rfl Try.infocf) rfl ?_
  exact ⟨rfl, bl_alloc (bl_alloc (Below.refl _ _) _) _⟩
end Go.Proofs.Ytbcjfdhphpckfaa
namespace Go.Proofs.Ytbcjfdhphpckfaa
open Go.RowKit

def z5 (c : Cf) : Bool := (c.prx == 0) && ((c.pro == 0) && ((c.ppd == 0) && ((c.pby == 0) && (c.mrx == 0))))
def z8 (c : Cf) : Bool := (c.bits == 0) && ((c.win == 0) && ((c.reo == 0) && z5 c))
def qbB (c : Cf) : Bool := limB (c.qb, 1, 20000)
def checkF (c : Cf) : Int :=
  if c.mode = 0 then (if qbB c && z8 c then 0 else 1)
  else if c.mode = 1 then (if qbB c && (numB c 5 10 && z5 c) then 0 else 1)
  else if c.mode = 2 then (if qbB c && (numB c 10 16 && askB c) then 0 else 1)
  else 9
set_option maxRecDepth 100000 in
set_option maxHeartbeats 6400000 in
theorem pcheck0 (bits win reo prx pro ppd pby mrx qb : Int) (w : World) :
    Calls Try.prog 135 #[.agg #[.int .i64 0, .int .i64 bits, .int .i64 win, .int .i64 reo, .int .i64 prx, .int .i64 pro, .int .i64 ppd, .int .i64 pby, .int .i64 mrx, .int .i64 qb]] w fun e w' => e = .returned (.int .i64 (checkF ⟨0, bits, win, reo, prx, pro, ppd, pby, mrx, qb⟩)) ∧ Below w.heap.size w w' := by
  have ROW := Lib.hid (Row.made w 94 #[.int .i64 0, .int .i64 bits, .int .i64 win, .int .i64 reo, .int .i64 prx, .int .i64 pro, .int .i64 ppd, .int .i64 pby, .int .i64 mrx, .int .i64 qb])
  have HB0 := Lib.hid (bl_alloc (Below.refl w.heap.size w) (.cells #[.int .i64 0, .int .i64 bits, .int .i64 win, .int .i64 reo, .int .i64 prx, .int .i64 pro, .int .i64 ppd, .int .i64 pby, .int .i64 mrx, .int .i64 qb] 94))
  have HW := Lib.hid (fun W g' (h : Row W g' 257 #[.int .i64 qb, .int .i64 1, .int .i64 20000]) => pwithin_any (l := [(qb, 1, 20000)]) 1 1 W rfl (by omega) h rfl)
  rw [show [(qb, (1 : Int), (20000 : Int))].all limB = limB (qb, 1, 20000) from by simp] at HW
  have HU := Lib.hid (fun W => punused0 bits win reo prx pro ppd pby mrx qb W)
  have HF := Lib.hid (show checkF ⟨0, bits, win, reo, prx, pro, ppd, pby, mrx, qb⟩ = if limB (qb, 1, 20000) && z8 ⟨0, bits, win, reo, prx, pro, ppd, pby, mrx, qb⟩ then 0 else 1 from rfl)
  cases hq0 : limB (qb, 1, 20000)
  · rw [hq0] at HW HF
    clear hq0
    go_enter Try.func135, Try.ntmps135
    obtain ⟨c0, c1, c2, c3, c4, c5, c6, c7, c8, c9⟩ := cells10 ROW.out
    go_wp2_with (first
      | (go_at_call 185; (with_reducible refine (HW.out _ _ (row_at2 _ _ _ _ (size_1 _ _))).mono ?_); rintro e w2 ⟨rfl, hb2⟩; (have HB2 := Lib.hid (bl_step (bl_alloc HB0.out _) hb2); have ROW2 := Lib.hid ((ROW.out.more _).later hb2); clear c0 c1 c2 c3 c4 c5 c6 c7 c8 c9; obtain ⟨c0, c1, c2, c3, c4, c5, c6, c7, c8, c9⟩ := cells10 ROW2.out; clear hb2))
      | (go_at_call 188; (with_reducible refine (HU.out _).mono ?_); rintro e w3 ⟨rfl, hb3⟩; (have HB3 := Lib.hid (bl_step HB2.out hb3); clear hb3)))
    all_goals
      go_ret
      refine ⟨?_, by first | exact HB3.out | exact HB2.out | exact HB4.out | exact HB2.out⟩
      rw [HF.out]
      first | rfl | simp_all [z8, z5]
  · rw [hq0] at HW HF
    clear hq0
    go_enter Try.func135, Try.ntmps135
    obtain ⟨c0, c1, c2, c3, c4, c5, c6, c7, c8, c9⟩ := cells10 ROW.out
    go_wp2_with (first
      | (go_at_call 185; (with_reducible refine (HW.out _ _ (row_at2 _ _ _ _ (size_1 _ _))).mono ?_); rintro e w2 ⟨rfl, hb2⟩; (have HB2 := Lib.hid (bl_step (bl_alloc HB0.out _) hb2); have ROW2 := Lib.hid ((ROW.out.more _).later hb2); clear c0 c1 c2 c3 c4 c5 c6 c7 c8 c9; obtain ⟨c0, c1, c2, c3, c4, c5, c6, c7, c8, c9⟩ := cells10 ROW2.out; clear hb2))
      | (go_at_call 188; (with_reducible refine (HU.out _).mono ?_); rintro e w3 ⟨rfl, hb3⟩; (have HB3 := Lib.hid (bl_step HB2.out hb3); clear hb3)))
    all_goals
      go_ret
      refine ⟨?_, by first | exact HB3.out | exact HB2.out | exact HB4.out | exact HB2.out⟩
      rw [HF.out]
      first | rfl | simp_all [z8, z5]
end Go.Proofs.Ytbcjfdhphpckfaa
namespace Go.Proofs.Ytbcjfdhphpckfaa
open Go.RowKit

set_option maxRecDepth 100000 in
set_option maxHeartbeats 6400000 in
theorem pcheck1 (bits win reo prx pro ppd pby mrx qb : Int) (w : World) :
    Calls Try.prog 135 #[.agg #[.int .i64 1, .int .i64 bits, .int .i64 win, .int .i64 reo, .int .i64 prx, .int .i64 pro, .int .i64 ppd, .int .i64 pby, .int .i64 mrx, .int .i64 qb]] w fun e w' => e = .returned (.int .i64 (checkF ⟨1, bits, win, reo, prx, pro, ppd, pby, mrx, qb⟩)) ∧ Below w.heap.size w w' := by
  have ROW := Lib.hid (Row.made w 94 #[.int .i64 1, .int .i64 bits, .int .i64 win, .int .i64 reo, .int .i64 prx, .int .i64 pro, .int .i64 ppd, .int .i64 pby, .int .i64 mrx, .int .i64 qb])
  have HB0 := Lib.hid (bl_alloc (Below.refl w.heap.size w) (.cells #[.int .i64 1, .int .i64 bits, .int .i64 win, .int .i64 reo, .int .i64 prx, .int .i64 pro, .int .i64 ppd, .int .i64 pby, .int .i64 mrx, .int .i64 qb] 94))
  have HW := Lib.hid (fun W g' (h : Row W g' 257 #[.int .i64 qb, .int .i64 1, .int .i64 20000]) => pwithin_any (l := [(qb, 1, 20000)]) 1 1 W rfl (by omega) h rfl)
  rw [show [(qb, (1 : Int), (20000 : Int))].all limB = limB (qb, 1, 20000) from by simp] at HW
  have HU := Lib.hid (fun W => punused1 bits win reo prx pro ppd pby mrx qb W)
  have HNM := Lib.hid (fun W g (h : Row W g 3 #[.int .i64 5, .int .i64 10]) => pnumbered_any (g := g) ⟨1, bits, win, reo, prx, pro, ppd, pby, mrx, qb⟩ 5 10 2 W h)
  have HF := Lib.hid (show checkF ⟨1, bits, win, reo, prx, pro, ppd, pby, mrx, qb⟩ = if limB (qb, 1, 20000) && (numB ⟨1, bits, win, reo, prx, pro, ppd, pby, mrx, qb⟩ 5 10 && z5 ⟨1, bits, win, reo, prx, pro, ppd, pby, mrx, qb⟩) then 0 else 1 from rfl)
  unfold Cf.a at *
  cases hq0 : limB (qb, 1, 20000)
  · rw [hq0] at HW HF
    clear hq0
    go_enter Try.func135, Try.ntmps135
    obtain ⟨c0, c1, c2, c3, c4, c5, c6, c7, c8, c9⟩ := cells10 ROW.out
    go_wp2_with (first
      | (go_at_call 185; (with_reducible refine (HW.out _ _ (row_at2 _ _ _ _ (size_1 _ _))).mono ?_); rintro e w2 ⟨rfl, hb2⟩; (have HB2 := Lib.hid (bl_step (bl_alloc HB0.out _) hb2); have ROW2 := Lib.hid ((ROW.out.more _).later hb2); clear c0 c1 c2 c3 c4 c5 c6 c7 c8 c9; obtain ⟨c0, c1, c2, c3, c4, c5, c6, c7, c8, c9⟩ := cells10 ROW2.out; clear hb2))
      | (go_at_call 186; (with_reducible refine (HNM.out _ _ (Row.made _ _ _)).mono ?_); rintro e w4 ⟨rfl, hb4⟩; (have HB4 := Lib.hid (bl_step (bl_alloc HB2.out _) hb4); have ROW4 := Lib.hid ((ROW2.out.more _).later hb4); clear c0 c1 c2 c3 c4 c5 c6 c7 c8 c9; obtain ⟨c0, c1, c2, c3, c4, c5, c6, c7, c8, c9⟩ := cells10 ROW4.out; clear hb4))
      | (go_at_call 188; (with_reducible refine (HU.out _).mono ?_); rintro e w3 ⟨rfl, hb3⟩; (have HB3 := Lib.hid (bl_step HB4.out hb3); clear hb3)))
    all_goals
      go_ret
      refine ⟨?_, by first | exact HB3.out | exact HB4.out | exact HB4.out | exact HB2.out⟩
      rw [HF.out]
      first | rfl | simp_all [z8, z5]
  · rw [hq0] at HW HF
    clear hq0
    cases hq1 : numB ⟨1, bits, win, reo, prx, pro, ppd, pby, mrx, qb⟩ 5 10
    · rw [hq1] at HNM HF
      clear hq1
      go_enter Try.func135, Try.ntmps135
      obtain ⟨c0, c1, c2, c3, c4, c5, c6, c7, c8, c9⟩ := cells10 ROW.out
      go_wp2_with (first
        | (go_at_call 185; (with_reducible refine (HW.out _ _ (row_at2 _ _ _ _ (size_1 _ _))).mono ?_); rintro e w2 ⟨rfl, hb2⟩; (have HB2 := Lib.hid (bl_step (bl_alloc HB0.out _) hb2); have ROW2 := Lib.hid ((ROW.out.more _).later hb2); clear c0 c1 c2 c3 c4 c5 c6 c7 c8 c9; obtain ⟨c0, c1, c2, c3, c4, c5, c6, c7, c8, c9⟩ := cells10 ROW2.out; clear hb2))
        | (go_at_call 186; (with_reducible refine (HNM.out _ _ (Row.made _ _ _)).mono ?_); rintro e w4 ⟨rfl, hb4⟩; (have HB4 := Lib.hid (bl_step (bl_alloc HB2.out _) hb4); have ROW4 := Lib.hid ((ROW2.out.more _).later hb4); clear c0 c1 c2 c3 c4 c5 c6 c7 c8 c9; obtain ⟨c0, c1, c2, c3, c4, c5, c6, c7, c8, c9⟩ := cells10 ROW4.out; clear hb4))
        | (go_at_call 188; (with_reducible refine (HU.out _).mono ?_); rintro e w3 ⟨rfl, hb3⟩; (have HB3 := Lib.hid (bl_step HB4.out hb3); clear hb3)))
      all_goals
        go_ret
        refine ⟨?_, by first | exact HB3.out | exact HB4.out | exact HB4.out | exact HB2.out⟩
        rw [HF.out]
        first | rfl | simp_all [z8, z5]
    · rw [hq1] at HNM HF
      clear hq1
      go_enter Try.func135, Try.ntmps135
      obtain ⟨c0, c1, c2, c3, c4, c5, c6, c7, c8, c9⟩ := cells10 ROW.out
      go_wp2_with (first
        | (go_at_call 185; (with_reducible refine (HW.out _ _ (row_at2 _ _ _ _ (size_1 _ _))).mono ?_); rintro e w2 ⟨rfl, hb2⟩; (have HB2 := Lib.hid (bl_step (bl_alloc HB0.out _) hb2); have ROW2 := Lib.hid ((ROW.out.more _).later hb2); clear c0 c1 c2 c3 c4 c5 c6 c7 c8 c9; obtain ⟨c0, c1, c2, c3, c4, c5, c6, c7, c8, c9⟩ := cells10 ROW2.out; clear hb2))
        | (go_at_call 186; (with_reducible refine (HNM.out _ _ (Row.made _ _ _)).mono ?_); rintro e w4 ⟨rfl, hb4⟩; (have HB4 := Lib.hid (bl_step (bl_alloc HB2.out _) hb4); have ROW4 := Lib.hid ((ROW2.out.more _).later hb4); clear c0 c1 c2 c3 c4 c5 c6 c7 c8 c9; obtain ⟨c0, c1, c2, c3, c4, c5, c6, c7, c8, c9⟩ := cells10 ROW4.out; clear hb4))
        | (go_at_call 188; (with_reducible refine (HU.out _).mono ?_); rintro e w3 ⟨rfl, hb3⟩; (have HB3 := Lib.hid (bl_step HB4.out hb3); clear hb3)))
      all_goals
        go_ret
        refine ⟨?_, by first | exact HB3.out | exact HB4.out | exact HB4.out | exact HB2.out⟩
        rw [HF.out]
        first | rfl | simp_all [z5]
end Go.Proofs.Ytbcjfdhphpckfaa
