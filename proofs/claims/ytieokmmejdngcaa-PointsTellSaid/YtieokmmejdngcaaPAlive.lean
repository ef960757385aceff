/-
  The fixed calls at the end of the statements of points; bytes as texts.
-/
import Derived.Test.YtieokmmejdngcaaMix
import Derived.Test.YtieokmmejdngcaaBack
import Derived.Laws.BytesString
import Derived.Shelf.Bytes.SlSmallAll
namespace Go.Proofs.Ytieokmmejdngcaa
open Go.RowKit

/-- bytes as a text -/
def strOf (l : List Nat) : ByteArray := ⟨(l.map UInt8.ofNat).toArray⟩
theorem conv_b {w : World} {A : Option Addr} {c : Nat} {l : List Nat} (h : BSrc w A l) (hb : ∀ b ∈ l, b < 256) : (convert 44 9 (.slice A l.length c)).run Try.prog w = .ok (.string (strOf l)) w := by
  cases hl : l with
  | nil => exact run_convert_bytes_zero w 44 5 Try.under44 (by kernel_rfl) A c 9 (by kernel_rfl)
  | cons b0 r =>
    rw [← hl]
    obtain ⟨g, off, rfl, _⟩ := h 0 b0 (by rw [hl]; rfl)
    have hx := run_convert_bytes_back (P := Try.prog) w 44 9 5 ⟨g, off, none⟩ c (l.map UInt8.ofNat) Try.under44 (by kernel_rfl) (by kernel_rfl) (fun j hj => by
      have hj' : j < l.length := by simpa using hj
      have e : (⟨g, off, none⟩ : Addr).add j = ⟨g, off + j, none⟩ := by
        unfold Addr.add
        split
        · rename_i h; rw [h]; rfl
        · rfl
      rw [e]
      obtain ⟨g', off', he, h2⟩ := h j _ (List.getElem?_eq_getElem hj')
      obtain ⟨rfl, rfl⟩ : g = g' ∧ off = off' := by simpa using he
      rw [h2, List.getElem_map]
      have h3 : (UInt8.ofNat l[j]).toNat = l[j] := UInt8.toNat_ofNat_of_lt' (hb _ (List.getElem_mem hj'))
      rw [h3])
    rw [List.length_map] at hx
    exact hx

theorem PSrc.four_at {w : World} {A : Option Addr} {L : List (Int × Int)} (h : PSrc w A L) {a b : Int} {i : Nat} (hp : L[i]? = some (a, b)) : ∃ g, A = some ⟨g, 0, none⟩ ∧ w.cell? ⟨g, i, none⟩ = some (.complex .f64 (fl a) (fl b)) := h i (a, b) hp

set_option maxRecDepth 100000 in
set_option maxHeartbeats 1600000 in
theorem alive6_any (w : World) : Calls Try.prog 23 #[] w fun e w' => e = .returned (.bool true) ∧ Below w.heap.size w w' := by
  have p0 : ptsL [27] = [(1, 1), (1, -1), (-1, 1), (-1, -1)] := by decide
  have k1 : okB [((1 : Int), (1 : Int)), (1, -1), (-1, 1), (-1, -1)] = true := by decide
  have k2 : backB [((1 : Int), (1 : Int)), (1, -1), (-1, 1), (-1, -1)] = [27] := by decide
  have k3 : lenF [((1 : Int), (1 : Int)), (1, -1), (-1, 1), (-1, -1)] = 8 := by decide
  have k4 : okB [] = true := by decide
  have k5 : backB [] = [] := by decide
  have hs4 : ∀ p ∈ [((1 : Int), (1 : Int)), (1, -1), (-1, 1), (-1, -1)], (-1000 ≤ p.1 ∧ p.1 ≤ 1000) ∧ (-1000 ≤ p.2 ∧ p.2 ≤ 1000) := by decide
  have n3 : fl 3 = 4613937818241073152 := by decide +kernel
  have n2 : fl (-2) = 13835058055282163712 := by decide +kernel
  have hst : strOf [27] = ⟨#[27]⟩ := rfl
  have HK := Lib.hid (And.intro p0 (And.intro k1 (And.intro k2 (And.intro k3 (And.intro k4 (And.intro k5 (And.intro hs4 (And.intro n3 (And.intro n2 hst)))))))))
  clear p0 k1 k2 k3 k4 k5 hs4 n3 n2 hst
  have HB0 := Lib.hid (bl_alloc (Below.refl w.heap.size w) (.cells #[.int .u8 27] 5))
  have HS0 := Lib.hid (show BSrc (w.alloc (.cells #[.int .u8 27] 5)) (some ⟨w.heap.size, 0, none⟩) [27] from fun i b hb => by
    match i, hb with
    | 0, hb =>
      simp at hb
      subst hb
      exact ⟨_, 0, rfl, by simp⟩)
  go_enter Try.func23, Try.ntmps23
  go_wp2_with fail
  refine (of_t (some ⟨w.heap.size, 0, none⟩) [27] 1 _ (by decide) (by decide) HS0.out).mono ?_
  rintro e w1 ⟨⟨v, rfl, A, hv, hp⟩, hb1⟩
  rw [HK.out.1] at hv hp
  subst hv
  have HP1 := Lib.hid hp
  have HB1 := Lib.hid (bl_step HB0.out hb1)
  clear hp hb1 HB0 HS0
  go_wp2_with fail
  refine (back_t A _ 4 _ (by decide) (fun p hp => ⟨by unfold sml; have := HK.out.2.2.2.2.2.2.1 p hp; omega, by unfold sml; have := HK.out.2.2.2.2.2.2.1 p hp; omega⟩) HP1.out).mono ?_
  rintro e w2 ⟨h2 | h2, hb2⟩
  · obtain ⟨_, v2, rfl, A2, hv2, hr2⟩ := h2
    rw [HK.out.2.2.1] at hv2 hr2
    subst hv2
    have HP2 := Lib.hid (HP1.out.later hb2)
    have HR2 := Lib.hid hr2
    have HB2 := Lib.hid (bl_step HB1.out hb2)
    clear hb2 hr2 HP1 HB1
    go_wp2_with fail
    refine (length_t A _ 4 _ (by decide) HK.out.2.2.2.2.2.2.1 HP2.out).mono ?_
    rintro e w3 ⟨rfl, rfl⟩
    rw [HK.out.2.2.2.1]
    obtain ⟨g, hA, c0⟩ := HP2.out.four_at (i := 0) rfl
    subst hA
    go_wp2_with fail
    refine (back_t (some ⟨g, 0, none⟩) [] 4 _ (by decide) (fun p hp => by cases hp) (fun i p hp => by simp at hp)).mono ?_
    rintro e w4 ⟨h4 | h4, hb4⟩
    · obtain ⟨_, v4, rfl, _⟩ := h4
      have HP4 := Lib.hid (HP2.out.later hb4)
      have HC := Lib.hid (conv_b (c := 1) (l := [27]) (fun i b hb => by
        obtain ⟨g', off', h1, h2⟩ := HR2.out i b hb
        exact ⟨g', off', h1, kept_box hb4 h2⟩ : BSrc w4 A2 [27]) (by decide))
      have HB4 := Lib.hid (bl_step HB2.out hb4)
      clear hb4 HB2 c0 HP2
      obtain ⟨g0, h0, c0⟩ := HP4.out.four_at (i := 0) rfl
      obtain ⟨g1, h1, c1⟩ := HP4.out.four_at (i := 1) rfl
      obtain ⟨g2, h2, c2⟩ := HP4.out.four_at (i := 2) rfl
      obtain ⟨g3, h3, c3⟩ := HP4.out.four_at (i := 3) rfl
      obtain rfl : g = g0 := by simpa using h0
      obtain rfl : g = g1 := by simpa using h1
      obtain rfl : g = g2 := by simpa using h2
      obtain rfl : g = g3 := by simpa using h3
      rw [fl_one, fl_mone] at c1 c2
      rw [fl_one] at c0
      rw [fl_mone] at c3
      have o1 : (FloatKind.f64.format.order 4607182418800017408 4607182418800017408 == some .eq) = true := by decide +kernel
      have o2 : (FloatKind.f64.format.order 13830554455654793216 13830554455654793216 == some .eq) = true := by decide +kernel
      have hc := HC.out
      have hst := HK.out.2.2.2.2.2.2.2.2.2
      rw [hst] at hc
      have hc : (convert 44 9 (.slice A2 1 1)).run Try.prog w4 = .ok (.string ⟨#[27]⟩) w4 := hc
      clear hst h0 h1 h2 h3
      have HN := Lib.hid (fun W => near_t (3, -2) (by unfold sml; omega) (by unfold sml; omega) W)
      simp only [cpx] at HN
      rw [HK.out.2.2.2.2.2.2.2.1, HK.out.2.2.2.2.2.2.2.2.1, show sg 3 = 1 by decide, show sg (-2) = -1 by decide, fl_one, fl_mone] at HN
      go_wp2_with (go_at_call 30; refine (HN.out _).mono ?_; rintro e w5 ⟨rfl, rfl⟩)
      go_ret
      exact ⟨rfl, HB4.out⟩
    · exfalso
      have := h4.1
      rw [HK.out.2.2.2.2.1] at this
      cases this
  · exfalso
    have := h2.1
    rw [HK.out.2.1] at this
    cases this
end Go.Proofs.Ytieokmmejdngcaa
