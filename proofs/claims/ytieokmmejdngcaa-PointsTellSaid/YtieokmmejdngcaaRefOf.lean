/-
  The document's points of bytes: pairs of numbers.
-/
import Derived.Test.YtieokmmejdngcaaMade
namespace Go.Proofs.Ytieokmmejdngcaa
open Go.RowKit

theorem Try.info53 : (Try.prog.info? 53).map (fun i => (i.zero, i.size, i.bytes)) = some (some (.agg #[.float .f64 0, .float .f64 0]), 2, 16) := by kernel_rfl
theorem Try.under48 : Try.prog.underlying 48 = some (.slice 53) := by kernel_rfl

/-- the cells of points that are pairs -/
def pcs (L : List (Int × Int)) : List Value := L.flatMap fun p => [.float .f64 (fl p.1), .float .f64 (fl p.2)]
theorem length_pcs (L : List (Int × Int)) : (pcs L).length = L.length * 2 := by
  unfold pcs
  induction L with
  | nil => rfl
  | cons p r ih => rw [List.flatMap_cons, List.length_append, ih]; simp; omega
theorem pcs_append (L M : List (Int × Int)) : pcs (L ++ M) = pcs L ++ pcs M := by unfold pcs; rw [List.flatMap_append]
theorem pcs_at {L : List (Int × Int)} {i : Nat} {p : Int × Int} (h : L[i]? = some p) : (pcs L)[i * 2]? = some (.float .f64 (fl p.1)) ∧ (pcs L)[i * 2 + 1]? = some (.float .f64 (fl p.2)) := by
  induction L generalizing i with
  | nil => simp at h
  | cons q r ih =>
    cases i with
    | zero =>
      simp at h
      subst h
      exact ⟨rfl, rfl⟩
    | succ i =>
      have := ih (i := i) (by simpa using h)
      have e : pcs (q :: r) = .float .f64 (fl q.1) :: .float .f64 (fl q.2) :: pcs r := rfl
      rw [e, show (i + 1) * 2 = i * 2 + 1 + 1 by omega]
      simpa using this
/-- where such points lie -/
def QSrc (w : World) (A : Option Addr) (L : List (Int × Int)) : Prop := ∀ (i : Nat) (p : Int × Int), L[i]? = some p → ∃ g, A = some ⟨g, 0, none⟩ ∧ w.cell? ⟨g, i * 2, none⟩ = some (.float .f64 (fl p.1)) ∧ w.cell? ⟨g, i * 2 + 1, none⟩ = some (.float .f64 (fl p.2))
theorem QSrc.later {w v : World} {A : Option Addr} {L : List (Int × Int)} (h : QSrc w A L) (hb : Below w.heap.size w v) : QSrc v A L := fun i p hp => by
  obtain ⟨g, h1, h2, h3⟩ := h i p hp
  exact ⟨g, h1, kept_box hb h2, kept_box hb h3⟩
def QOwn (B : Nat) (L : List (Int × Int)) (v : Value) (w : World) : Prop := w.ownsRow B 53 2 v L.length (pcs L) ∧ B ≤ w.heap.size
theorem QOwn.form {B : Nat} {L : List (Int × Int)} {v : Value} {w : World} (h : QOwn B L v w) : ∃ A c, v = .slice A L.length c := by
  rcases h.1.2 with ⟨rfl, h0⟩ | ⟨g, c, cur, rfl, _⟩
  · exact ⟨none, 0, by rw [h0]⟩
  · exact ⟨_, c, rfl⟩
theorem QOwn.src {B c : Nat} {A : Option Addr} {L : List (Int × Int)} {w : World} (h : QOwn B L (.slice A L.length c) w) : QSrc w A L := fun i p hp => by
  have hl : 0 < L.length := by
    obtain ⟨h1, _⟩ := List.getElem?_eq_some_iff.1 hp
    omega
  obtain ⟨g, cap, hv, _, _⟩ := h.1.form hl
  injection hv with hv _ _
  subst hv
  obtain ⟨p1, p2⟩ := pcs_at hp
  have c1 := h.1.cells (g := g) rfl _ _ p1
  have c2 := h.1.cells (g := g) rfl _ _ p2
  rw [add_of, Nat.zero_add] at c1 c2
  exact ⟨g, rfl, c1, c2⟩
theorem QOwn.nil (w : World) : QOwn w.heap.size [] (.slice none 0 0) w := ⟨World.ownsRow_nil _ _ _ _, Nat.le_refl _⟩
/-- an append of one more -/
theorem QOwn.step {B : Nat} {L : List (Int × Int)} {v : Value} {w : World} (h : QOwn B L v w) (p : Int × Int) (hn : L.length ≤ 1000000) :
    ∃ g cap W', (Builtin.append_ #[48, 48] 48 #[v, .slice (some ⟨w.heap.size, 0, none⟩) 1 1]).run Try.prog (w.alloc (.cells #[.float .f64 (fl p.1), .float .f64 (fl p.2)] 53)) = .ok (.slice (some ⟨g, 0, none⟩) (L.length + 1) cap) W' ∧
      QOwn B (L ++ [p]) (.slice (some ⟨g, 0, none⟩) (L.length + 1) cap) W' ∧ Below B w W' ∧ w.heap.size ≤ W'.heap.size := by
  obtain ⟨i0, hi, hi0, hi1, hi2⟩ := info_partsP Try.info53
  obtain ⟨g, cap, w3, hr3, h2, h3, _, _⟩ := run_append_lies (P := Try.prog) (w.alloc (.cells #[.float .f64 (fl p.1), .float .f64 (fl p.2)] 53)) 48 48 B 53 i0 _ 2 16 Try.under48 hi hi0 hi1 hi2 rfl (by omega) v L.length (pcs L) (h.1.alloc _) ⟨w.heap.size, 0, none⟩ 1 1 [.float .f64 (fl p.1), .float .f64 (fl p.2)] rfl
    (World.news_of_block (cs := #[.float .f64 (fl p.1), .float .f64 (fl p.2)]) (heap_alloc_new w _)) (by intro u hu; simp at hu; rcases hu with rfl | rfl <;> rfl) (by omega) (by unfold maxLen; omega) (by omega) (by simp; have := h.2; omega) _ rfl
  have ho : Only (fun k => v.ownBlock = some k) w w3 := ((Only.refl _ w).alloc (.cells #[.float .f64 (fl p.1), .float .f64 (fl p.2)] 53)).grown h3 (fun k hk => .inl hk)
  refine ⟨g, cap, w3, hr3, ⟨?_, Nat.le_trans h.2 ho.size⟩, ho.below h.2 (fun k hk hk' => by have := (h.1.lt k hk').1; omega), ho.size⟩
  rw [List.length_append, pcs_append]
  exact h2

theorem Below.of_small {B C : Nat} {w v : World} (h : Below C w v) (hB : B ≤ C) : Below B w v := h.mono hB

def OfAns (l : List Nat) (w : World) (e : Ending) (w' : World) : Prop := (∃ A c, e = .returned (.slice A (4 * l.length) c) ∧ QSrc w' A (ptsL l)) ∧ Below w.heap.size w w'
def wt (r : Nat) : Nat := 2 ^ (6 - 2 * r)
set_option maxHeartbeats 1600000 in
theorem rof_t (A : Option Addr) (l : List Nat) (c : Nat) (w : World) (hn : l.length ≤ 10000) (hb : ∀ b ∈ l, b < 256) (hs : BSrc w A l) :
    Calls Try.prog 25 #[.slice A l.length c] w (OfAns l w) := by
  have HS := Lib.hid hs
  have HB := Lib.hid hb
  clear hs hb
  have HI0 := Lib.hid (show QOwn w.heap.size ((ptsL l).take 0) (.slice none 0 0) w from QOwn.nil w)
  have HB0 := Lib.hid (Below.refl w.heap.size w)
  go_enter Try.func25, Try.ntmps25
  go_wp2_with fail
  go_loopw [3, 4] (fun v i wr => ∃ k : Nat, k ≤ l.length ∧ i = .int .i64 k ∧ Hid (QOwn w.heap.size ((ptsL l).take (4 * k)) v wr) ∧ Hid (Below w.heap.size w wr)) (fun _ i _ => l.length - (intOf i).toNat)
  case atStart => exact ⟨0, by omega, rfl, HI0, HB0⟩
  case round =>
    obtain ⟨k, hk, rfl, HI, HBW⟩ := hrel
    clear HI0 HB0
    by_cases hlt : k < l.length
    · obtain ⟨b, hbl⟩ : ∃ b, l[k]? = some b := ⟨_, List.getElem?_eq_getElem hlt⟩
      obtain ⟨g, off, rfl, hc⟩ := HS.out _ b hbl
      have hb8 := HB.out b (List.mem_of_getElem? hbl)
      have hki : (k : Int) < (l.length : Int) := by omega
      have hk0 : (0 : Int) ≤ (k : Int) := by omega
      have HPT := Lib.hid (fun r (hr : r < 4) => show (ptsL l)[4 * k + r]? = some (ptOf b r) by
        have := ptsL_at (l := l) (i := 4 * k + r) (b := b) (by rw [show (4 * k + r) / 4 = k by omega]; exact hbl)
        rw [show (4 * k + r) % 4 = r by omega] at this
        exact this)
      have HC := Lib.hid hc
      clear hc hbl
      go_wp2_with fail
      go_loopw [3, 5] (fun v i wr => ∃ r : Nat, r ≤ 4 ∧ i = .int .u8 (if r < 4 then (wt r : Nat) else 0 : Nat) ∧ Hid (QOwn w.heap.size ((ptsL l).take (4 * k + r)) v wr) ∧ Hid (Below w.heap.size w wr)) (fun _ i _ => (intOf i).toNat)
      case atStart => exact ⟨0, by omega, rfl, HI, HBW⟩
      case round =>
        obtain ⟨r, hr, rfl, HI, HBW⟩ := hrel
        by_cases hr4 : r < 4
        · have hpt := HPT.out r hr4
          have hcell := kept_box HBW.out HC.out
          have hgl0 : g < wr.heap.size := by
            rcases Nat.lt_or_ge g wr.heap.size with h | h
            · exact h
            · exfalso
              simp [World.cell?, Array.getElem?_eq_none h] at hcell
          obtain rfl | rfl | rfl | rfl : r = 0 ∨ r = 1 ∨ r = 2 ∨ r = 3 := by omega
          · have hX : (b : Int) / 64 / 2 % 2 = 0 ∨ (b : Int) / 64 / 2 % 2 = 1 := by omega
            have hY : (b : Int) / 64 % 2 = 0 ∨ (b : Int) / 64 % 2 = 1 := by omega
            have hw : (((if (0 : Nat) < 4 then wt 0 else 0 : Nat)) : Int) = 64 := by decide
            have hgl : g < wr.heap.size := hgl0
            have hgn : ¬ g = wr.heap.size := by omega
            rw [hw]
            clear hw
            rcases hX with hX | hX
            · rcases hY with hY | hY
              · have hp : ptOf b 0 = (1, 1) := by
                  rw [show ptOf b 0 = (1 - 2 * ((b / 128 % 2 : Nat) : Int), 1 - 2 * ((b / 64 % 2 : Nat) : Int)) from rfl]
                  refine Prod.ext ?_ ?_ <;> simp only <;> omega
                rw [hp] at hpt
                have b1 : ((b : Int) / 64 / 2 % 2 == 1) = false := by rw [hX]; rfl
                have b2 : ((b : Int) / 64 % 2 == 1) = false := by rw [hY]; rfl
                have HIA : QOwn w.heap.size ((ptsL l).take (4 * k + 0)) u3 (wr.alloc (.cells #[.float .f64 (fl 1), .float .f64 (fl 1)] 53)) := ⟨HI.out.1.alloc _, by have := HI.out.2; simp; omega⟩
                obtain ⟨A9, c9, rfl⟩ := HI.out.form
                have hlen : ((ptsL l).take (4 * k + 0)).length = 4 * k + 0 := by rw [List.length_take, length_ptsL]; omega
                obtain ⟨g9, cap9, W9, hr9, hq9, hb9, hs9⟩ := HIA.step (1, 1) (by rw [hlen]; omega)
                rw [hlen] at hr9 hq9
                rw [← take_snocP hpt] at hq9
                have HQ9 := Lib.hid hq9
                have HBW9 := Lib.hid ((bl_alloc HBW.out (.cells #[.float .f64 (fl 1), .float .f64 (fl 1)] 53)).trans hb9)
                simp only [fl_one] at hr9
                have hsz : (wr.alloc (.cells #[.float .f64 4607182418800017408, .float .f64 4607182418800017408] 53)).heap.size = wr.heap.size + 1 := by simp
                rw [hsz] at hr9
                have HR9 := Lib.hid hr9
                have hst := flt_stored
                rw [hlen]
                clear hX hY hp hpt hr9 hq9 hb9 hs9 hsz HIA hlen
                go_wp2_with (at_builtin; refine wpList_run rfl (.tmp 37) (.tmp 39) 48 rfl (.slice A9 (4 * k + 0) c9) (.slice (some ⟨wr.heap.size + 1, 0, none⟩) 1 1) (by rfl) (by rfl) HR9.out ?_)
                go_roundw
                case rel => exact ⟨0 + 1, by omega, rfl, HQ9, HBW9⟩
                case measure => simp [intOf]
              · have hp : ptOf b 0 = (1, -1) := by
                  rw [show ptOf b 0 = (1 - 2 * ((b / 128 % 2 : Nat) : Int), 1 - 2 * ((b / 64 % 2 : Nat) : Int)) from rfl]
                  refine Prod.ext ?_ ?_ <;> simp only <;> omega
                rw [hp] at hpt
                have b1 : ((b : Int) / 64 / 2 % 2 == 1) = false := by rw [hX]; rfl
                have b2 : ((b : Int) / 64 % 2 == 1) = true := by rw [hY]; rfl
                have HIA : QOwn w.heap.size ((ptsL l).take (4 * k + 0)) u3 (wr.alloc (.cells #[.float .f64 (fl 1), .float .f64 (fl (-1))] 53)) := ⟨HI.out.1.alloc _, by have := HI.out.2; simp; omega⟩
                obtain ⟨A9, c9, rfl⟩ := HI.out.form
                have hlen : ((ptsL l).take (4 * k + 0)).length = 4 * k + 0 := by rw [List.length_take, length_ptsL]; omega
                obtain ⟨g9, cap9, W9, hr9, hq9, hb9, hs9⟩ := HIA.step (1, -1) (by rw [hlen]; omega)
                rw [hlen] at hr9 hq9
                rw [← take_snocP hpt] at hq9
                have HQ9 := Lib.hid hq9
                have HBW9 := Lib.hid ((bl_alloc HBW.out (.cells #[.float .f64 (fl 1), .float .f64 (fl (-1))] 53)).trans hb9)
                simp only [fl_mone, fl_one] at hr9
                have hsz : (wr.alloc (.cells #[.float .f64 4607182418800017408, .float .f64 13830554455654793216] 53)).heap.size = wr.heap.size + 1 := by simp
                rw [hsz] at hr9
                have HR9 := Lib.hid hr9
                have hst := flt_stored
                rw [hlen]
                clear hX hY hp hpt hr9 hq9 hb9 hs9 hsz HIA hlen
                go_wp2_with (at_builtin; refine wpList_run rfl (.tmp 37) (.tmp 39) 48 rfl (.slice A9 (4 * k + 0) c9) (.slice (some ⟨wr.heap.size + 1, 0, none⟩) 1 1) (by rfl) (by rfl) HR9.out ?_)
                go_roundw
                case rel => exact ⟨0 + 1, by omega, rfl, HQ9, HBW9⟩
                case measure => simp [intOf]
            · rcases hY with hY | hY
              · have hp : ptOf b 0 = (-1, 1) := by
                  rw [show ptOf b 0 = (1 - 2 * ((b / 128 % 2 : Nat) : Int), 1 - 2 * ((b / 64 % 2 : Nat) : Int)) from rfl]
                  refine Prod.ext ?_ ?_ <;> simp only <;> omega
                rw [hp] at hpt
                have b1 : ((b : Int) / 64 / 2 % 2 == 1) = true := by rw [hX]; rfl
                have b2 : ((b : Int) / 64 % 2 == 1) = false := by rw [hY]; rfl
                have HIA : QOwn w.heap.size ((ptsL l).take (4 * k + 0)) u3 (wr.alloc (.cells #[.float .f64 (fl (-1)), .float .f64 (fl 1)] 53)) := ⟨HI.out.1.alloc _, by have := HI.out.2; simp; omega⟩
                obtain ⟨A9, c9, rfl⟩ := HI.out.form
                have hlen : ((ptsL l).take (4 * k + 0)).length = 4 * k + 0 := by rw [List.length_take, length_ptsL]; omega
                obtain ⟨g9, cap9, W9, hr9, hq9, hb9, hs9⟩ := HIA.step (-1, 1) (by rw [hlen]; omega)
                rw [hlen] at hr9 hq9
                rw [← take_snocP hpt] at hq9
                have HQ9 := Lib.hid hq9
                have HBW9 := Lib.hid ((bl_alloc HBW.out (.cells #[.float .f64 (fl (-1)), .float .f64 (fl 1)] 53)).trans hb9)
                simp only [fl_mone, fl_one] at hr9
                have hsz : (wr.alloc (.cells #[.float .f64 13830554455654793216, .float .f64 4607182418800017408] 53)).heap.size = wr.heap.size + 1 := by simp
                rw [hsz] at hr9
                have HR9 := Lib.hid hr9
                have hst := flt_stored
                rw [hlen]
                clear hX hY hp hpt hr9 hq9 hb9 hs9 hsz HIA hlen
                go_wp2_with (at_builtin; refine wpList_run rfl (.tmp 37) (.tmp 39) 48 rfl (.slice A9 (4 * k + 0) c9) (.slice (some ⟨wr.heap.size + 1, 0, none⟩) 1 1) (by rfl) (by rfl) HR9.out ?_)
                go_roundw
                case rel => exact ⟨0 + 1, by omega, rfl, HQ9, HBW9⟩
                case measure => simp [intOf]
              · have hp : ptOf b 0 = (-1, -1) := by
                  rw [show ptOf b 0 = (1 - 2 * ((b / 128 % 2 : Nat) : Int), 1 - 2 * ((b / 64 % 2 : Nat) : Int)) from rfl]
                  refine Prod.ext ?_ ?_ <;> simp only <;> omega
                rw [hp] at hpt
                have b1 : ((b : Int) / 64 / 2 % 2 == 1) = true := by rw [hX]; rfl
                have b2 : ((b : Int) / 64 % 2 == 1) = true := by rw [hY]; rfl
                have HIA : QOwn w.heap.size ((ptsL l).take (4 * k + 0)) u3 (wr.alloc (.cells #[.float .f64 (fl (-1)), .float .f64 (fl (-1))] 53)) := ⟨HI.out.1.alloc _, by have := HI.out.2; simp; omega⟩
                obtain ⟨A9, c9, rfl⟩ := HI.out.form
                have hlen : ((ptsL l).take (4 * k + 0)).length = 4 * k + 0 := by rw [List.length_take, length_ptsL]; omega
                obtain ⟨g9, cap9, W9, hr9, hq9, hb9, hs9⟩ := HIA.step (-1, -1) (by rw [hlen]; omega)
                rw [hlen] at hr9 hq9
                rw [← take_snocP hpt] at hq9
                have HQ9 := Lib.hid hq9
                have HBW9 := Lib.hid ((bl_alloc HBW.out (.cells #[.float .f64 (fl (-1)), .float .f64 (fl (-1))] 53)).trans hb9)
                simp only [fl_mone] at hr9
                have hsz : (wr.alloc (.cells #[.float .f64 13830554455654793216, .float .f64 13830554455654793216] 53)).heap.size = wr.heap.size + 1 := by simp
                rw [hsz] at hr9
                have HR9 := Lib.hid hr9
                have hst := flt_stored
                rw [hlen]
                clear hX hY hp hpt hr9 hq9 hb9 hs9 hsz HIA hlen
                go_wp2_with (at_builtin; refine wpList_run rfl (.tmp 37) (.tmp 39) 48 rfl (.slice A9 (4 * k + 0) c9) (.slice (some ⟨wr.heap.size + 1, 0, none⟩) 1 1) (by rfl) (by rfl) HR9.out ?_)
                go_roundw
                case rel => exact ⟨0 + 1, by omega, rfl, HQ9, HBW9⟩
                case measure => simp [intOf]
          · have hX : (b : Int) / 16 / 2 % 2 = 0 ∨ (b : Int) / 16 / 2 % 2 = 1 := by omega
            have hY : (b : Int) / 16 % 2 = 0 ∨ (b : Int) / 16 % 2 = 1 := by omega
            have hw : (((if (1 : Nat) < 4 then wt 1 else 0 : Nat)) : Int) = 16 := by decide
            have hgl : g < wr.heap.size := hgl0
            have hgn : ¬ g = wr.heap.size := by omega
            rw [hw]
            clear hw
            rcases hX with hX | hX
            · rcases hY with hY | hY
              · have hp : ptOf b 1 = (1, 1) := by
                  rw [show ptOf b 1 = (1 - 2 * ((b / 32 % 2 : Nat) : Int), 1 - 2 * ((b / 16 % 2 : Nat) : Int)) from rfl]
                  refine Prod.ext ?_ ?_ <;> simp only <;> omega
                rw [hp] at hpt
                have b1 : ((b : Int) / 16 / 2 % 2 == 1) = false := by rw [hX]; rfl
                have b2 : ((b : Int) / 16 % 2 == 1) = false := by rw [hY]; rfl
                have HIA : QOwn w.heap.size ((ptsL l).take (4 * k + 1)) u3 (wr.alloc (.cells #[.float .f64 (fl 1), .float .f64 (fl 1)] 53)) := ⟨HI.out.1.alloc _, by have := HI.out.2; simp; omega⟩
                obtain ⟨A9, c9, rfl⟩ := HI.out.form
                have hlen : ((ptsL l).take (4 * k + 1)).length = 4 * k + 1 := by rw [List.length_take, length_ptsL]; omega
                obtain ⟨g9, cap9, W9, hr9, hq9, hb9, hs9⟩ := HIA.step (1, 1) (by rw [hlen]; omega)
                rw [hlen] at hr9 hq9
                rw [← take_snocP hpt] at hq9
                have HQ9 := Lib.hid hq9
                have HBW9 := Lib.hid ((bl_alloc HBW.out (.cells #[.float .f64 (fl 1), .float .f64 (fl 1)] 53)).trans hb9)
                simp only [fl_one] at hr9
                have hsz : (wr.alloc (.cells #[.float .f64 4607182418800017408, .float .f64 4607182418800017408] 53)).heap.size = wr.heap.size + 1 := by simp
                rw [hsz] at hr9
                have HR9 := Lib.hid hr9
                have hst := flt_stored
                rw [hlen]
                clear hX hY hp hpt hr9 hq9 hb9 hs9 hsz HIA hlen
                go_wp2_with (at_builtin; refine wpList_run rfl (.tmp 37) (.tmp 39) 48 rfl (.slice A9 (4 * k + 1) c9) (.slice (some ⟨wr.heap.size + 1, 0, none⟩) 1 1) (by rfl) (by rfl) HR9.out ?_)
                go_roundw
                case rel => exact ⟨1 + 1, by omega, rfl, HQ9, HBW9⟩
                case measure => simp [intOf]
              · have hp : ptOf b 1 = (1, -1) := by
                  rw [show ptOf b 1 = (1 - 2 * ((b / 32 % 2 : Nat) : Int), 1 - 2 * ((b / 16 % 2 : Nat) : Int)) from rfl]
                  refine Prod.ext ?_ ?_ <;> simp only <;> omega
                rw [hp] at hpt
                have b1 : ((b : Int) / 16 / 2 % 2 == 1) = false := by rw [hX]; rfl
                have b2 : ((b : Int) / 16 % 2 == 1) = true := by rw [hY]; rfl
                have HIA : QOwn w.heap.size ((ptsL l).take (4 * k + 1)) u3 (wr.alloc (.cells #[.float .f64 (fl 1), .float .f64 (fl (-1))] 53)) := ⟨HI.out.1.alloc _, by have := HI.out.2; simp; omega⟩
                obtain ⟨A9, c9, rfl⟩ := HI.out.form
                have hlen : ((ptsL l).take (4 * k + 1)).length = 4 * k + 1 := by rw [List.length_take, length_ptsL]; omega
                obtain ⟨g9, cap9, W9, hr9, hq9, hb9, hs9⟩ := HIA.step (1, -1) (by rw [hlen]; omega)
                rw [hlen] at hr9 hq9
                rw [← take_snocP hpt] at hq9
                have HQ9 := Lib.hid hq9
                have HBW9 := Lib.hid ((bl_alloc HBW.out (.cells #[.float .f64 (fl 1), .float .f64 (fl (-1))] 53)).trans hb9)
                simp only [fl_mone, fl_one] at hr9
                have hsz : (wr.alloc (.cells #[.float .f64 4607182418800017408, .float .f64 13830554455654793216] 53)).heap.size = wr.heap.size + 1 := by simp
                rw [hsz] at hr9
                have HR9 := Lib.hid hr9
                have hst := flt_stored
                rw [hlen]
                clear hX hY hp hpt hr9 hq9 hb9 hs9 hsz HIA hlen
                go_wp2_with (at_builtin; refine wpList_run rfl (.tmp 37) (.tmp 39) 48 rfl (.slice A9 (4 * k + 1) c9) (.slice (some ⟨wr.heap.size + 1, 0, none⟩) 1 1) (by rfl) (by rfl) HR9.out ?_)
                go_roundw
                case rel => exact ⟨1 + 1, by omega, rfl, HQ9, HBW9⟩
                case measure => simp [intOf]
            · rcases hY with hY | hY
              · have hp : ptOf b 1 = (-1, 1) := by
                  rw [show ptOf b 1 = (1 - 2 * ((b / 32 % 2 : Nat) : Int), 1 - 2 * ((b / 16 % 2 : Nat) : Int)) from rfl]
                  refine Prod.ext ?_ ?_ <;> simp only <;> omega
                rw [hp] at hpt
                have b1 : ((b : Int) / 16 / 2 % 2 == 1) = true := by rw [hX]; rfl
                have b2 : ((b : Int) / 16 % 2 == 1) = false := by rw [hY]; rfl
                have HIA : QOwn w.heap.size ((ptsL l).take (4 * k + 1)) u3 (wr.alloc (.cells #[.float .f64 (fl (-1)), .float .f64 (fl 1)] 53)) := ⟨HI.out.1.alloc _, by have := HI.out.2; simp; omega⟩
                obtain ⟨A9, c9, rfl⟩ := HI.out.form
                have hlen : ((ptsL l).take (4 * k + 1)).length = 4 * k + 1 := by rw [List.length_take, length_ptsL]; omega
                obtain ⟨g9, cap9, W9, hr9, hq9, hb9, hs9⟩ := HIA.step (-1, 1) (by rw [hlen]; omega)
                rw [hlen] at hr9 hq9
                rw [← take_snocP hpt] at hq9
                have HQ9 := Lib.hid hq9
                have HBW9 := Lib.hid ((bl_alloc HBW.out (.cells #[.float .f64 (fl (-1)), .float .f64 (fl 1)] 53)).trans hb9)
                simp only [fl_mone, fl_one] at hr9
                have hsz : (wr.alloc (.cells #[.float .f64 13830554455654793216, .float .f64 4607182418800017408] 53)).heap.size = wr.heap.size + 1 := by simp
                rw [hsz] at hr9
                have HR9 := Lib.hid hr9
                have hst := flt_stored
                rw [hlen]
                clear hX hY hp hpt hr9 hq9 hb9 hs9 hsz HIA hlen
                go_wp2_with (at_builtin; refine wpList_run rfl (.tmp 37) (.tmp 39) 48 rfl (.slice A9 (4 * k + 1) c9) (.slice (some ⟨wr.heap.size + 1, 0, none⟩) 1 1) (by rfl) (by rfl) HR9.out ?_)
                go_roundw
                case rel => exact ⟨1 + 1, by omega, rfl, HQ9, HBW9⟩
                case measure => simp [intOf]
              · have hp : ptOf b 1 = (-1, -1) := by
                  rw [show ptOf b 1 = (1 - 2 * ((b / 32 % 2 : Nat) : Int), 1 - 2 * ((b / 16 % 2 : Nat) : Int)) from rfl]
                  refine Prod.ext ?_ ?_ <;> simp only <;> omega
                rw [hp] at hpt
                have b1 : ((b : Int) / 16 / 2 % 2 == 1) = true := by rw [hX]; rfl
                have b2 : ((b : Int) / 16 % 2 == 1) = true := by rw [hY]; rfl
                have HIA : QOwn w.heap.size ((ptsL l).take (4 * k + 1)) u3 (wr.alloc (.cells #[.float .f64 (fl (-1)), .float .f64 (fl (-1))] 53)) := ⟨HI.out.1.alloc _, by have := HI.out.2; simp; omega⟩
                obtain ⟨A9, c9, rfl⟩ := HI.out.form
                have hlen : ((ptsL l).take (4 * k + 1)).length = 4 * k + 1 := by rw [List.length_take, length_ptsL]; omega
                obtain ⟨g9, cap9, W9, hr9, hq9, hb9, hs9⟩ := HIA.step (-1, -1) (by rw [hlen]; omega)
                rw [hlen] at hr9 hq9
                rw [← take_snocP hpt] at hq9
                have HQ9 := Lib.hid hq9
                have HBW9 := Lib.hid ((bl_alloc HBW.out (.cells #[.float .f64 (fl (-1)), .float .f64 (fl (-1))] 53)).trans hb9)
                simp only [fl_mone] at hr9
                have hsz : (wr.alloc (.cells #[.float .f64 13830554455654793216, .float .f64 13830554455654793216] 53)).heap.size = wr.heap.size + 1 := by simp
                rw [hsz] at hr9
                have HR9 := Lib.hid hr9
                have hst := flt_stored
                rw [hlen]
                clear hX hY hp hpt hr9 hq9 hb9 hs9 hsz HIA hlen
                go_wp2_with (at_builtin; refine wpList_run rfl (.tmp 37) (.tmp 39) 48 rfl (.slice A9 (4 * k + 1) c9) (.slice (some ⟨wr.heap.size + 1, 0, none⟩) 1 1) (by rfl) (by rfl) HR9.out ?_)
                go_roundw
                case rel => exact ⟨1 + 1, by omega, rfl, HQ9, HBW9⟩
                case measure => simp [intOf]
          · have hX : (b : Int) / 4 / 2 % 2 = 0 ∨ (b : Int) / 4 / 2 % 2 = 1 := by omega
            have hY : (b : Int) / 4 % 2 = 0 ∨ (b : Int) / 4 % 2 = 1 := by omega
            have hw : (((if (2 : Nat) < 4 then wt 2 else 0 : Nat)) : Int) = 4 := by decide
            have hgl : g < wr.heap.size := hgl0
            have hgn : ¬ g = wr.heap.size := by omega
            rw [hw]
            clear hw
            rcases hX with hX | hX
            · rcases hY with hY | hY
              · have hp : ptOf b 2 = (1, 1) := by
                  rw [show ptOf b 2 = (1 - 2 * ((b / 8 % 2 : Nat) : Int), 1 - 2 * ((b / 4 % 2 : Nat) : Int)) from rfl]
                  refine Prod.ext ?_ ?_ <;> simp only <;> omega
                rw [hp] at hpt
                have b1 : ((b : Int) / 4 / 2 % 2 == 1) = false := by rw [hX]; rfl
                have b2 : ((b : Int) / 4 % 2 == 1) = false := by rw [hY]; rfl
                have HIA : QOwn w.heap.size ((ptsL l).take (4 * k + 2)) u3 (wr.alloc (.cells #[.float .f64 (fl 1), .float .f64 (fl 1)] 53)) := ⟨HI.out.1.alloc _, by have := HI.out.2; simp; omega⟩
                obtain ⟨A9, c9, rfl⟩ := HI.out.form
                have hlen : ((ptsL l).take (4 * k + 2)).length = 4 * k + 2 := by rw [List.length_take, length_ptsL]; omega
                obtain ⟨g9, cap9, W9, hr9, hq9, hb9, hs9⟩ := HIA.step (1, 1) (by rw [hlen]; omega)
                rw [hlen] at hr9 hq9
                rw [← take_snocP hpt] at hq9
                have HQ9 := Lib.hid hq9
                have HBW9 := Lib.hid ((bl_alloc HBW.out (.cells #[.float .f64 (fl 1), .float .f64 (fl 1)] 53)).trans hb9)
                simp only [fl_one] at hr9
                have hsz : (wr.alloc (.cells #[.float .f64 4607182418800017408, .float .f64 4607182418800017408] 53)).heap.size = wr.heap.size + 1 := by simp
                rw [hsz] at hr9
                have HR9 := Lib.hid hr9
                have hst := flt_stored
                rw [hlen]
                clear hX hY hp hpt hr9 hq9 hb9 hs9 hsz HIA hlen
                go_wp2_with (at_builtin; refine wpList_run rfl (.tmp 37) (.tmp 39) 48 rfl (.slice A9 (4 * k + 2) c9) (.slice (some ⟨wr.heap.size + 1, 0, none⟩) 1 1) (by rfl) (by rfl) HR9.out ?_)
                go_roundw
                case rel => exact ⟨2 + 1, by omega, rfl, HQ9, HBW9⟩
                case measure => simp [intOf]
              · have hp : ptOf b 2 = (1, -1) := by
                  rw [show ptOf b 2 = (1 - 2 * ((b / 8 % 2 : Nat) : Int), 1 - 2 * ((b / 4 % 2 : Nat) : Int)) from rfl]
                  refine Prod.ext ?_ ?_ <;> simp only <;> omega
                rw [hp] at hpt
                have b1 : ((b : Int) / 4 / 2 % 2 == 1) = false := by rw [hX]; rfl
                have b2 : ((b : Int) / 4 % 2 == 1) = true := by rw [hY]; rfl
                have HIA : QOwn w.heap.size ((ptsL l).take (4 * k + 2)) u3 (wr.alloc (.cells #[.float .f64 (fl 1), .float .f64 (fl (-1))] 53)) := ⟨HI.out.1.alloc _, by have := HI.out.2; simp; omega⟩
                obtain ⟨A9, c9, rfl⟩ := HI.out.form
                have hlen : ((ptsL l).take (4 * k + 2)).length = 4 * k + 2 := by rw [List.length_take, length_ptsL]; omega
                obtain ⟨g9, cap9, W9, hr9, hq9, hb9, hs9⟩ := HIA.step (1, -1) (by rw [hlen]; omega)
                rw [hlen] at hr9 hq9
                rw [← take_snocP hpt] at hq9
                have HQ9 := Lib.hid hq9
                have HBW9 := Lib.hid ((bl_alloc HBW.out (.cells #[.float .f64 (fl 1), .float .f64 (fl (-1))] 53)).trans hb9)
                simp only [fl_mone, fl_one] at hr9
                have hsz : (wr.alloc (.cells #[.float .f64 4607182418800017408, .float .f64 13830554455654793216] 53)).heap.size = wr.heap.size + 1 := by simp
                rw [hsz] at hr9
                have HR9 := Lib.hid hr9
                have hst := flt_stored
                rw [hlen]
                clear hX hY hp hpt hr9 hq9 hb9 hs9 hsz HIA hlen
                go_wp2_with (at_builtin; refine wpList_run rfl (.tmp 37) (.tmp 39) 48 rfl (.slice A9 (4 * k + 2) c9) (.slice (some ⟨wr.heap.size + 1, 0, none⟩) 1 1) (by rfl) (by rfl) HR9.out ?_)
                go_roundw
                case rel => exact ⟨2 + 1, by omega, rfl, HQ9, HBW9⟩
                case measure => simp [intOf]
            · rcases hY with hY | hY
              · have hp : ptOf b 2 = (-1, 1) := by
                  rw [show ptOf b 2 = (1 - 2 * ((b / 8 % 2 : Nat) : Int), 1 - 2 * ((b / 4 % 2 : Nat) : Int)) from rfl]
                  refine Prod.ext ?_ ?_ <;> simp only <;> omega
                rw [hp] at hpt
                have b1 : ((b : Int) / 4 / 2 % 2 == 1) = true := by rw [hX]; rfl
                have b2 : ((b : Int) / 4 % 2 == 1) = false := by rw [hY]; rfl
                have HIA : QOwn w.heap.size ((ptsL l).take (4 * k + 2)) u3 (wr.alloc (.cells #[.float .f64 (fl (-1)), .float .f64 (fl 1)] 53)) := ⟨HI.out.1.alloc _, by have := HI.out.2; simp; omega⟩
                obtain ⟨A9, c9, rfl⟩ := HI.out.form
                have hlen : ((ptsL l).take (4 * k + 2)).length = 4 * k + 2 := by rw [List.length_take, length_ptsL]; omega
                obtain ⟨g9, cap9, W9, hr9, hq9, hb9, hs9⟩ := HIA.step (-1, 1) (by rw [hlen]; omega)
                rw [hlen] at hr9 hq9
                rw [← take_snocP hpt] at hq9
                have HQ9 := Lib.hid hq9
                have HBW9 := Lib.hid ((bl_alloc HBW.out (.cells #[.float .f64 (fl (-1)), .float .f64 (fl 1)] 53)).trans hb9)
                simp only [fl_mone, fl_one] at hr9
                have hsz : (wr.alloc (.cells #[.float .f64 13830554455654793216, .float .f64 4607182418800017408] 53)).heap.size = wr.heap.size + 1 := by simp
                rw [hsz] at hr9
                have HR9 := Lib.hid hr9
                have hst := flt_stored
                rw [hlen]
                clear hX hY hp hpt hr9 hq9 hb9 hs9 hsz HIA hlen
                go_wp2_with (at_builtin; refine wpList_run rfl (.tmp 37) (.tmp 39) 48 rfl (.slice A9 (4 * k + 2) c9) (.slice (some ⟨wr.heap.size + 1, 0, none⟩) 1 1) (by rfl) (by rfl) HR9.out ?_)
                go_roundw
                case rel => exact ⟨2 + 1, by omega, rfl, HQ9, HBW9⟩
                case measure => simp [intOf]
              · have hp : ptOf b 2 = (-1, -1) := by
                  rw [show ptOf b 2 = (1 - 2 * ((b / 8 % 2 : Nat) : Int), 1 - 2 * ((b / 4 % 2 : Nat) : Int)) from rfl]
                  refine Prod.ext ?_ ?_ <;> simp only <;> omega
                rw [hp] at hpt
                have b1 : ((b : Int) / 4 / 2 % 2 == 1) = true := by rw [hX]; rfl
                have b2 : ((b : Int) / 4 % 2 == 1) = true := by rw [hY]; rfl
                have HIA : QOwn w.heap.size ((ptsL l).take (4 * k + 2)) u3 (wr.alloc (.cells #[.float .f64 (fl (-1)), .float .f64 (fl (-1))] 53)) := ⟨HI.out.1.alloc _, by have := HI.out.2; simp; omega⟩
                obtain ⟨A9, c9, rfl⟩ := HI.out.form
                have hlen : ((ptsL l).take (4 * k + 2)).length = 4 * k + 2 := by rw [List.length_take, length_ptsL]; omega
                obtain ⟨g9, cap9, W9, hr9, hq9, hb9, hs9⟩ := HIA.step (-1, -1) (by rw [hlen]; omega)
                rw [hlen] at hr9 hq9
                rw [← take_snocP hpt] at hq9
                have HQ9 := Lib.hid hq9
                have HBW9 := Lib.hid ((bl_alloc HBW.out (.cells #[.float .f64 (fl (-1)), .float .f64 (fl (-1))] 53)).trans hb9)
                simp only [fl_mone] at hr9
                have hsz : (wr.alloc (.cells #[.float .f64 13830554455654793216, .float .f64 13830554455654793216] 53)).heap.size = wr.heap.size + 1 := by simp
                rw [hsz] at hr9
                have HR9 := Lib.hid hr9
                have hst := flt_stored
                rw [hlen]
                clear hX hY hp hpt hr9 hq9 hb9 hs9 hsz HIA hlen
                go_wp2_with (at_builtin; refine wpList_run rfl (.tmp 37) (.tmp 39) 48 rfl (.slice A9 (4 * k + 2) c9) (.slice (some ⟨wr.heap.size + 1, 0, none⟩) 1 1) (by rfl) (by rfl) HR9.out ?_)
                go_roundw
                case rel => exact ⟨2 + 1, by omega, rfl, HQ9, HBW9⟩
                case measure => simp [intOf]
          · have hX : (b : Int) / 1 / 2 % 2 = 0 ∨ (b : Int) / 1 / 2 % 2 = 1 := by omega
            have hY : (b : Int) / 1 % 2 = 0 ∨ (b : Int) / 1 % 2 = 1 := by omega
            have hw : (((if (3 : Nat) < 4 then wt 3 else 0 : Nat)) : Int) = 1 := by decide
            have hgl : g < wr.heap.size := hgl0
            have hgn : ¬ g = wr.heap.size := by omega
            rw [hw]
            clear hw
            rcases hX with hX | hX
            · rcases hY with hY | hY
              · have hp : ptOf b 3 = (1, 1) := by
                  rw [show ptOf b 3 = (1 - 2 * ((b / 2 % 2 : Nat) : Int), 1 - 2 * ((b / 1 % 2 : Nat) : Int)) from rfl]
                  refine Prod.ext ?_ ?_ <;> simp only <;> omega
                rw [hp] at hpt
                have b1 : ((b : Int) / 1 / 2 % 2 == 1) = false := by rw [hX]; rfl
                have b2 : ((b : Int) / 1 % 2 == 1) = false := by rw [hY]; rfl
                have HIA : QOwn w.heap.size ((ptsL l).take (4 * k + 3)) u3 (wr.alloc (.cells #[.float .f64 (fl 1), .float .f64 (fl 1)] 53)) := ⟨HI.out.1.alloc _, by have := HI.out.2; simp; omega⟩
                obtain ⟨A9, c9, rfl⟩ := HI.out.form
                have hlen : ((ptsL l).take (4 * k + 3)).length = 4 * k + 3 := by rw [List.length_take, length_ptsL]; omega
                obtain ⟨g9, cap9, W9, hr9, hq9, hb9, hs9⟩ := HIA.step (1, 1) (by rw [hlen]; omega)
                rw [hlen] at hr9 hq9
                rw [← take_snocP hpt] at hq9
                have HQ9 := Lib.hid hq9
                have HBW9 := Lib.hid ((bl_alloc HBW.out (.cells #[.float .f64 (fl 1), .float .f64 (fl 1)] 53)).trans hb9)
                simp only [fl_one] at hr9
                have hsz : (wr.alloc (.cells #[.float .f64 4607182418800017408, .float .f64 4607182418800017408] 53)).heap.size = wr.heap.size + 1 := by simp
                rw [hsz] at hr9
                have HR9 := Lib.hid hr9
                have hst := flt_stored
                rw [hlen]
                clear hX hY hp hpt hr9 hq9 hb9 hs9 hsz HIA hlen
                go_wp2_with (at_builtin; refine wpList_run rfl (.tmp 37) (.tmp 39) 48 rfl (.slice A9 (4 * k + 3) c9) (.slice (some ⟨wr.heap.size + 1, 0, none⟩) 1 1) (by rfl) (by rfl) HR9.out ?_)
                go_roundw
                case rel => exact ⟨3 + 1, by omega, rfl, HQ9, HBW9⟩
                case measure => simp [intOf]
              · have hp : ptOf b 3 = (1, -1) := by
                  rw [show ptOf b 3 = (1 - 2 * ((b / 2 % 2 : Nat) : Int), 1 - 2 * ((b / 1 % 2 : Nat) : Int)) from rfl]
                  refine Prod.ext ?_ ?_ <;> simp only <;> omega
                rw [hp] at hpt
                have b1 : ((b : Int) / 1 / 2 % 2 == 1) = false := by rw [hX]; rfl
                have b2 : ((b : Int) / 1 % 2 == 1) = true := by rw [hY]; rfl
                have HIA : QOwn w.heap.size ((ptsL l).take (4 * k + 3)) u3 (wr.alloc (.cells #[.float .f64 (fl 1), .float .f64 (fl (-1))] 53)) := ⟨HI.out.1.alloc _, by have := HI.out.2; simp; omega⟩
                obtain ⟨A9, c9, rfl⟩ := HI.out.form
                have hlen : ((ptsL l).take (4 * k + 3)).length = 4 * k + 3 := by rw [List.length_take, length_ptsL]; omega
                obtain ⟨g9, cap9, W9, hr9, hq9, hb9, hs9⟩ := HIA.step (1, -1) (by rw [hlen]; omega)
                rw [hlen] at hr9 hq9
                rw [← take_snocP hpt] at hq9
                have HQ9 := Lib.hid hq9
                have HBW9 := Lib.hid ((bl_alloc HBW.out (.cells #[.float .f64 (fl 1), .float .f64 (fl (-1))] 53)).trans hb9)
                simp only [fl_mone, fl_one] at hr9
                have hsz : (wr.alloc (.cells #[.float .f64 4607182418800017408, .float .f64 13830554455654793216] 53)).heap.size = wr.heap.size + 1 := by simp
                rw [hsz] at hr9
                have HR9 := Lib.hid hr9
                have hst := flt_stored
                rw [hlen]
                clear hX hY hp hpt hr9 hq9 hb9 hs9 hsz HIA hlen
                go_wp2_with (at_builtin; refine wpList_run rfl (.tmp 37) (.tmp 39) 48 rfl (.slice A9 (4 * k + 3) c9) (.slice (some ⟨wr.heap.size + 1, 0, none⟩) 1 1) (by rfl) (by rfl) HR9.out ?_)
                go_roundw
                case rel => exact ⟨3 + 1, by omega, rfl, HQ9, HBW9⟩
                case measure => simp [intOf]
            · rcases hY with hY | hY
              · have hp : ptOf b 3 = (-1, 1) := by
                  rw [show ptOf b 3 = (1 - 2 * ((b / 2 % 2 : Nat) : Int), 1 - 2 * ((b / 1 % 2 : Nat) : Int)) from rfl]
                  refine Prod.ext ?_ ?_ <;> simp only <;> omega
                rw [hp] at hpt
                have b1 : ((b : Int) / 1 / 2 % 2 == 1) = true := by rw [hX]; rfl
                have b2 : ((b : Int) / 1 % 2 == 1) = false := by rw [hY]; rfl
                have HIA : QOwn w.heap.size ((ptsL l).take (4 * k + 3)) u3 (wr.alloc (.cells #[.float .f64 (fl (-1)), .float .f64 (fl 1)] 53)) := ⟨HI.out.1.alloc _, by have := HI.out.2; simp; omega⟩
                obtain ⟨A9, c9, rfl⟩ := HI.out.form
                have hlen : ((ptsL l).take (4 * k + 3)).length = 4 * k + 3 := by rw [List.length_take, length_ptsL]; omega
                obtain ⟨g9, cap9, W9, hr9, hq9, hb9, hs9⟩ := HIA.step (-1, 1) (by rw [hlen]; omega)
                rw [hlen] at hr9 hq9
                rw [← take_snocP hpt] at hq9
                have HQ9 := Lib.hid hq9
                have HBW9 := Lib.hid ((bl_alloc HBW.out (.cells #[.float .f64 (fl (-1)), .float .f64 (fl 1)] 53)).trans hb9)
                simp only [fl_mone, fl_one] at hr9
                have hsz : (wr.alloc (.cells #[.float .f64 13830554455654793216, .float .f64 4607182418800017408] 53)).heap.size = wr.heap.size + 1 := by simp
                rw [hsz] at hr9
                have HR9 := Lib.hid hr9
                have hst := flt_stored
                rw [hlen]
                clear hX hY hp hpt hr9 hq9 hb9 hs9 hsz HIA hlen
                go_wp2_with (at_builtin; refine wpList_run rfl (.tmp 37) (.tmp 39) 48 rfl (.slice A9 (4 * k + 3) c9) (.slice (some ⟨wr.heap.size + 1, 0, none⟩) 1 1) (by rfl) (by rfl) HR9.out ?_)
                go_roundw
                case rel => exact ⟨3 + 1, by omega, rfl, HQ9, HBW9⟩
                case measure => simp [intOf]
              · have hp : ptOf b 3 = (-1, -1) := by
                  rw [show ptOf b 3 = (1 - 2 * ((b / 2 % 2 : Nat) : Int), 1 - 2 * ((b / 1 % 2 : Nat) : Int)) from rfl]
                  refine Prod.ext ?_ ?_ <;> simp only <;> omega
                rw [hp] at hpt
                have b1 : ((b : Int) / 1 / 2 % 2 == 1) = true := by rw [hX]; rfl
                have b2 : ((b : Int) / 1 % 2 == 1) = true := by rw [hY]; rfl
                have HIA : QOwn w.heap.size ((ptsL l).take (4 * k + 3)) u3 (wr.alloc (.cells #[.float .f64 (fl (-1)), .float .f64 (fl (-1))] 53)) := ⟨HI.out.1.alloc _, by have := HI.out.2; simp; omega⟩
                obtain ⟨A9, c9, rfl⟩ := HI.out.form
                have hlen : ((ptsL l).take (4 * k + 3)).length = 4 * k + 3 := by rw [List.length_take, length_ptsL]; omega
                obtain ⟨g9, cap9, W9, hr9, hq9, hb9, hs9⟩ := HIA.step (-1, -1) (by rw [hlen]; omega)
                rw [hlen] at hr9 hq9
                rw [← take_snocP hpt] at hq9
                have HQ9 := Lib.hid hq9
                have HBW9 := Lib.hid ((bl_alloc HBW.out (.cells #[.float .f64 (fl (-1)), .float .f64 (fl (-1))] 53)).trans hb9)
                simp only [fl_mone] at hr9
                have hsz : (wr.alloc (.cells #[.float .f64 13830554455654793216, .float .f64 13830554455654793216] 53)).heap.size = wr.heap.size + 1 := by simp
                rw [hsz] at hr9
                have HR9 := Lib.hid hr9
                have hst := flt_stored
                rw [hlen]
                clear hX hY hp hpt hr9 hq9 hb9 hs9 hsz HIA hlen
                go_wp2_with (at_builtin; refine wpList_run rfl (.tmp 37) (.tmp 39) 48 rfl (.slice A9 (4 * k + 3) c9) (.slice (some ⟨wr.heap.size + 1, 0, none⟩) 1 1) (by rfl) (by rfl) HR9.out ?_)
                go_roundw
                case rel => exact ⟨3 + 1, by omega, rfl, HQ9, HBW9⟩
                case measure => simp [intOf]
        · obtain rfl : r = 4 := by omega
          have hw : (((if (4 : Nat) < 4 then wt 4 else 0 : Nat)) : Int) = 0 := by decide
          rw [hw]
          clear hw
          go_wp2
          go_roundw
          case rel => exact ⟨k + 1, by omega, by go_num, by rw [show 4 * (k + 1) = 4 * k + 4 by omega]; exact HI, HBW⟩
          case measure => simp [intOf]; omega
    · obtain rfl : k = l.length := by omega
      have hki : ¬ (l.length : Int) < (l.length : Int) := by omega
      obtain ⟨A9, c9, rfl⟩ := HI.out.form
      have hlen : ((ptsL l).take (4 * l.length)).length = 4 * l.length := by rw [List.length_take, length_ptsL]; omega
      have HA := Lib.hid (show OfAns l w (.returned (.slice A9 (4 * l.length) c9)) wr from ⟨⟨A9, c9, rfl, by
        have := HI.out.src
        rw [show (ptsL l).take (4 * l.length) = ptsL l from List.take_of_length_le (by rw [length_ptsL]; exact Nat.le_refl _)] at this
        exact this⟩, HBW.out⟩)
      rw [hlen]
      clear HI hlen
      go_wp2
      go_ret
      exact HA.out
end Go.Proofs.Ytieokmmejdngcaa
