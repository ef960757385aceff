/-
  Points made of small numbers; points as the document's; the document's nearest point.
-/
import Derived.Test.YtieokmmejdngcaaPArgs
import Derived.Test.YtieokmmejdngcaaInts
import Derived.StillTailTactics
import Derived.Deep.RegionLaw
namespace Go.Proofs.Ytieokmmejdngcaa
open Go.RowKit

def agp (p : Int × Int) : Value := .agg #[.float .f64 (fl p.1), .float .f64 (fl p.2)]
theorem flt_stored (a : Addr) (x : Nat) (m : Mode) (W : World) : (store a (.float .f64 x) m).run Try.prog W = stored Try.prog W a (.float .f64 x) m := run_store Try.prog W a _ m rfl
theorem as_t (p : Int × Int) (w : World) : Calls Try.prog 27 #[cpx p] w fun e w' => e = .returned (agp p) ∧ Below w.heap.size w w' := by
  obtain ⟨a, b⟩ := p
  show Calls Try.prog 27 #[.complex .f64 (fl a) (fl b)] w fun e w' => e = .returned (.agg #[.float .f64 (fl a), .float .f64 (fl b)]) ∧ Below w.heap.size w w'
  have hst := flt_stored
  go_enter Try.func27, Try.ntmps27
  go_wp2
  exact bodyPost_ret (v := .agg #[.float .f64 (fl a), .float .f64 (fl b)]) (by simp [results, Try.results27, go_sem]) rfl ⟨rfl, (Below.refl _ _).alloc (Nat.le_refl _) _⟩

theorem rnear_t (p : Int × Int) (h0 : sml p.1) (h1 : sml p.2) (w : World) : Calls Try.prog 31 #[agp p] w fun e w' => e = .returned (agp (sg p.1, sg p.2)) ∧ Below w.heap.size w w' := by
  obtain ⟨a, b⟩ := p
  show Calls Try.prog 31 #[.agg #[.float .f64 (fl a), .float .f64 (fl b)]] w fun e w' => e = .returned (.agg #[.float .f64 (fl (sg a)), .float .f64 (fl (sg b))]) ∧ Below w.heap.size w w'
  simp only at h0 h1
  have e1 := fl_lt h0 sml0
  have e2 := fl_lt h1 sml0
  rw [fl_zero] at e1 e2
  have hw : ∀ x : Int, (if x < 0 then (13830554455654793216 : Nat) else 4607182418800017408) = fl (sg x) := by
    intro x
    unfold sg
    split
    · exact fl_mone.symm
    · exact fl_one.symm
  rw [← hw a, ← hw b]
  clear hw
  by_cases ha : a < 0 <;> by_cases hb : b < 0
  all_goals
    first | rw [decide_eq_true ha] at e1 | rw [decide_eq_false ha] at e1
    first | rw [decide_eq_true hb] at e2 | rw [decide_eq_false hb] at e2
    first | rw [if_pos ha] | rw [if_neg ha]
    first | rw [if_pos hb] | rw [if_neg hb]
    clear ha hb h0 h1
    have hst := flt_stored
    go_enter Try.func31, Try.ntmps31
    go_wp2
    exact bodyPost_ret (v := .agg #[.float .f64 _, .float .f64 _]) (by simp [results, Try.results31, go_sem]) rfl ⟨rfl, by repeat (first | exact Below.refl _ _ | refine bl_alloc ?_ _)⟩

def madeP (l : List Int) : List (Int × Int) := (List.range (l.length / 2)).map fun k => (l.getD (2 * k) 0, l.getD (2 * k + 1) 0)
theorem length_madeP (l : List Int) : (madeP l).length = l.length / 2 := by simp [madeP]
theorem madeP_at {l : List Int} {k : Nat} {x y : Int} (hx : l[2 * k]? = some x) (hy : l[2 * k + 1]? = some y) : (madeP l)[k]? = some (x, y) := by
  obtain ⟨hl, _⟩ := List.getElem?_eq_some_iff.1 hy
  unfold madeP
  rw [List.getElem?_map, List.getElem?_range (by omega)]
  simp [hx, hy]
theorem madeP_parts {l : List Int} {k : Nat} (hk : k < l.length / 2) : ∃ x y, l[2 * k]? = some x ∧ l[2 * k + 1]? = some y ∧ (madeP l)[k]? = some (x, y) := by
  have h1 : l[2 * k]? = some l[2 * k] := List.getElem?_eq_getElem (by omega)
  have h2 : l[2 * k + 1]? = some l[2 * k + 1] := List.getElem?_eq_getElem (by omega)
  exact ⟨_, _, h1, h2, madeP_at h1 h2⟩
theorem madeP_bd {l : List Int} (h : ∀ b ∈ l, -128 ≤ b ∧ b ≤ 127) : ∀ p ∈ madeP l, (-128 ≤ p.1 ∧ p.1 ≤ 127) ∧ (-128 ≤ p.2 ∧ p.2 ≤ 127) := by
  intro p hp
  obtain ⟨k, hk, he⟩ := List.mem_iff_getElem.1 hp
  rw [length_madeP] at hk
  obtain ⟨x, y, hx, hy, hxy⟩ := madeP_parts hk
  rw [List.getElem?_eq_getElem (by rw [length_madeP]; exact hk), he] at hxy
  injection hxy with hxy
  rw [hxy]
  exact ⟨h x (List.mem_of_getElem? hx), h y (List.mem_of_getElem? hy)⟩

theorem pt_tail {B : Nat} {W : World} {v : Value} {n : Nat} {xs : List Value} (hown : W.ownsRow B 55 1 v n xs) (hB : B ≤ W.heap.size) (re im : Nat) (hn : n ≤ 1000000) :
    ∃ g cap W', (Builtin.append_ #[46, 46] 46 #[v, .slice (some ⟨W.heap.size, 0, none⟩) 1 1]).run Try.prog (W.alloc (.cells #[.complex .f64 re im] 55)) = .ok (.slice (some ⟨g, 0, none⟩) (n + 1) cap) W' ∧
      W'.ownsRow B 55 1 (.slice (some ⟨g, 0, none⟩) (n + 1) cap) (n + 1) (xs ++ [.complex .f64 re im]) ∧ Only (fun k => v.ownBlock = some k) W W' := by
  obtain ⟨i0, hi, hi0, hi1, hi2⟩ := info_partsP Try.info55
  obtain ⟨g, cap, w3, hr3, h2, h3, _, _⟩ := run_append_lies (P := Try.prog) (W.alloc (.cells #[.complex .f64 re im] 55)) 46 46 B 55 i0 _ 1 16 Try.under46 hi hi0 hi1 hi2 rfl (by omega) v n xs (hown.alloc _) ⟨W.heap.size, 0, none⟩ 1 1 [.complex .f64 re im] rfl
    (World.news_of_block (cs := #[.complex .f64 re im]) (heap_alloc_new W _)) (by intro u hu; simp at hu; rw [hu]; rfl) (by omega) (by unfold maxLen; omega) (by omega) (by simp; omega) _ rfl
  exact ⟨g, cap, w3, hr3, h2, ((Only.refl _ W).alloc (.cells #[.complex .f64 re im] 55)).grown h3 (fun k hk => .inl hk)⟩

/-- an append, at a step of a region that draws, whose run is known -/
theorem step_run {P : Program} {ops : Array Oper} {o : Oper} {a : Act} {w : World} {K : Act → World → Prop} {Q : Exit → Act → World → Prop} {E : Prop} (hgd : o.guard = none) (s x : Operand) (t : TypeId)
    (ho : o.op = .call { callee := .builtin .append, args := #[s, x], argTypes := #[t, t] }) (v u : Value) (hs : a.eval s = v) (hx : a.eval x = u) {v' : Value} {w' : World}
    (hr : (Builtin.append_ #[t, t] o.type #[v, u]).run P w = .ok v' w') (h : K (a.put o.dst v') w') : if Region.wanted o (yielded ops a.tmps) = true then Oper.wp P o a w K Q else E := by
  have hw : Region.wanted o (yielded ops a.tmps) = true := by simp [Region.wanted, hgd]
  rw [if_pos hw]
  unfold Oper.wp execOp
  simp only [ho, resolve, invoke, builtin, Sem.run_bind, Sem.run_pure, Result.andThen_ok, List.map_toArray, List.map_cons, List.map_nil, hs, hx, hr]
  exact h

def MadeInv (B : Nat) (l : List Int) (k : Nat) (v : Value) (w : World) : Prop := w.ownsRow B 55 1 v k (((madeP l).take k).map cpx) ∧ B ≤ w.heap.size
theorem MadeInv.form {B k : Nat} {l : List Int} {v : Value} {w : World} (h : MadeInv B l k v w) : ∃ A c, v = .slice A k c := by
  rcases h.1.2 with ⟨rfl, h0⟩ | ⟨g, c, cur, rfl, _⟩
  · exact ⟨none, 0, by rw [h0]⟩
  · exact ⟨_, c, rfl⟩
theorem own_pts {w : World} {B n c : Nat} {A : Option Addr} {L : List (Int × Int)} (h : w.ownsRow B 55 1 (.slice A n c) n (L.map cpx)) : PSrc w A L := fun i p hp => by
  have hl : 0 < n := by
    obtain ⟨h1, _⟩ := List.getElem?_eq_some_iff.1 hp
    have := h.1
    simp at this
    omega
  obtain ⟨g, cap, hv, _, _⟩ := h.form hl
  injection hv with hv _ _
  refine ⟨g, hv, ?_⟩
  subst hv
  have := h.cells (g := g) rfl i (cpx p) (by rw [List.getElem?_map, hp]; rfl)
  rw [show (⟨g, 0, none⟩ : Addr).add i = ⟨g, i, none⟩ by unfold Addr.add; split <;> simp_all] at this
  exact this
theorem KSrc.later {k : IntKind} {w v : World} {A : Option Addr} {l : List Int} (h : KSrc k w A l) (hb : Below w.heap.size w v) : KSrc k v A l := fun i b hi => by
  obtain ⟨g, off, h1, h2⟩ := h i b hi
  exact ⟨g, off, h1, kept_box hb h2⟩

def MadeAns (l : List Int) (w : World) (e : Ending) (w' : World) : Prop := (∃ A' c', e = .returned (.slice A' (l.length / 2) c') ∧ PSrc w' A' (madeP l)) ∧ Below w.heap.size w w'
set_option maxHeartbeats 1600000 in
theorem made_t (A : Option Addr) (l : List Int) (c : Nat) (w : World) (hn : l.length ≤ 1000) (hs : KSrc .i8 w A l) :
    Calls Try.prog 29 #[.slice A l.length c] w (MadeAns l w) := by
  have HS := Lib.hid hs
  clear hs
  have HI0 := Lib.hid (show MadeInv w.heap.size l 0 (.slice none 0 0) w from ⟨World.ownsRow_nil _ _ _ _, Nat.le_refl _⟩)
  have HB0 := Lib.hid (Below.refl w.heap.size w)
  go_enter Try.func29, Try.ntmps29
  go_wp2_with fail
  go_loopw [3, 4] (fun v i wr => ∃ k : Nat, k ≤ l.length / 2 ∧ i = .int .i64 (2 * (k : Int)) ∧ Hid (MadeInv w.heap.size l k v wr) ∧ Hid (Below w.heap.size w wr)) (fun _ i _ => l.length - (intOf i).toNat)
  case atStart => exact ⟨0, by omega, rfl, HI0, HB0⟩
  case round =>
    obtain ⟨k, hk, rfl, HI, HB⟩ := hrel
    clear HI0 HB0
    by_cases hlt : k < l.length / 2
    · obtain ⟨x, y, hx, hy, hxy⟩ := madeP_parts hlt
      obtain ⟨g, off, rfl, c0⟩ := HS.out _ x hx
      obtain ⟨g', off', he, c1⟩ := HS.out _ y hy
      obtain ⟨rfl, rfl⟩ : g = g' ∧ off = off' := by simpa using he
      have d0 : wr.drew.cell? ⟨g, off + 2 * k, none⟩ = some (.int .i8 x) := kept_box HB.out.drew c0
      have d1 : wr.drew.cell? ⟨g, off + (2 * k + 1), none⟩ = some (.int .i8 y) := kept_box HB.out.drew c1
      obtain ⟨A9, c9, rfl⟩ := HI.out.form
      obtain ⟨g9, cap9, W9, hr9, hown9, ho9⟩ := pt_tail (W := wr.drew) HI.out.1 HI.out.2 (fl x) (fl y) (by omega)
      have HI9 := Lib.hid (show MadeInv w.heap.size l (k + 1) (.slice (some ⟨g9, 0, none⟩) (k + 1) cap9) W9 from ⟨by
        rw [take_snocP hxy, List.map_append]
        exact hown9, Nat.le_trans HI.out.2 ho9.size⟩)
      have HB9 := Lib.hid (HB.out.drew.trans (ho9.below HI.out.2 (fun j hj hj' => by have := (HI.out.1.lt j hj').1; omega)))
      have HR9 := Lib.hid hr9
      have hk0 : (0 : Int) ≤ 2 * (k : Int) := by omega
      have hk1 : 2 * (k : Int) + 1 < (l.length : Int) := by omega
      have hk2 : 2 * (k : Int) < (l.length : Int) := by omega
      have w1 : IntKind.i64.wrap (2 * (k : Int) + 1) = 2 * (k : Int) + 1 := IntWalk.i64_in _ (by omega)
      have w2 : (0 : Int) ≤ 2 * (k : Int) + 1 := by omega
      have w3 : (2 * (k : Int) + 1).toNat = 2 * k + 1 := by omega
      have w4 : (2 * (k : Int)).toNat = 2 * k := by omega
      clear hx hy hxy c0 c1 he hr9 hown9 ho9
      go_wp2_with fail
      go_region_law (refine step_run rfl (.tmp 12) (.tmp 25) 46 rfl (.slice A9 k c9) (.slice (some ⟨wr.heap.size, 0, none⟩) 1 1) (by rfl) (by rfl) HR9.out ?_)
      all_goals
        go_wp2
        go_roundw
        case rel => exact ⟨k + 1, by omega, congrArg (Value.int .i64) (by omega), HI9, HB9⟩
        case measure => simp [intOf]; omega
    · obtain rfl : k = l.length / 2 := by omega
      obtain ⟨A9, c9, rfl⟩ := HI.out.form
      have hk1 : ¬ 2 * ((l.length / 2 : Nat) : Int) + 1 < (l.length : Int) := by omega
      have HF := Lib.hid (show PSrc wr A9 (madeP l) from own_pts (by
        have := HI.out.1
        rw [show (madeP l).take (l.length / 2) = madeP l from List.take_of_length_le (by rw [length_madeP]; exact Nat.le_refl _)] at this
        exact this))
      have HA := Lib.hid (show MadeAns l w (.returned (.slice A9 (l.length / 2) c9)) wr from ⟨⟨A9, c9, rfl, HF.out⟩, HB.out⟩)
      clear HI
      go_wp2
      go_ret
      exact HA.out
end Go.Proofs.Ytieokmmejdngcaa
