/-
  What a reader does: Rest.
-/
import Derived.Test.YtdklddpkklodnaaBitsGet
namespace Go.Proofs.Ytdklddpkklodnaa
open Go.RowKit

set_option maxHeartbeats 400000 in
theorem rest_nil (w : World) : Calls Try.prog 105 #[.pointer none] w fun e w' => e = .returned (.tuple #[.slice none 0 0, .int .i64 6]) ∧ w = w' := by
  go_enter Try.func105, Try.ntmps105
  go_wp2
  go_step3
  go_wp2
  rw [Exit.noGoto_ret]
  exact bodyPost_ret (v := .tuple #[.slice none 0 0, .int .i64 6]) (by simp [results, Try.results105, go_sem]) rfl ⟨rfl, rfl⟩

/-- how many bytes are begun -/
def up (i : Nat) : Nat := (i + 7) / 8

def RestOk (w : World) (p g : Nat) (bs : List Nat) (i : Nat) (e : Ending) (w' : World) : Prop :=
  ∃ g', e = .returned (.tuple #[.slice (some ⟨g', 0, none⟩) (bs.length - up i) (bs.length - up i), .int .i64 0]) ∧ w.heap.size ≤ g' ∧ Row w' g' 5 (bts (bs.drop (up i))).toArray ∧ RRep w' p g bs (8 * bs.length) ∧ Only (fun k => k = p) w w'

theorem rest_end {p g m : Nat} {bs : List Nat} {i : Nat} {w w2 : World} (hr : RRep w p g bs i) (hm : m = up i) {g' : Nat} {n n' : Nat} (hn : n = bs.length - m) (hn' : n' = n)
    (hg : (w.setCell ⟨p, 1, none⟩ (.int .i64 (8 * (bs.length : Int)))).heap.size ≤ g') (hrow : Row w2 g' 5 (bts (bs.drop m)).toArray) (hb : Below (w.setCell ⟨p, 1, none⟩ (.int .i64 (8 * (bs.length : Int)))).heap.size (w.setCell ⟨p, 1, none⟩ (.int .i64 (8 * (bs.length : Int)))) w2) :
    RestOk w p g bs i (.returned (.tuple #[.slice (some ⟨g', 0, none⟩) n n', .int .i64 0])) w2 := by
  subst hm
  subst hn'
  subst hn
  have hsz : (w.setCell ⟨p, 1, none⟩ (.int .i64 (8 * (bs.length : Int)))).heap.size = w.heap.size := by simp [World.setCell]
  rw [hsz] at hg
  obtain ⟨h1, h2, h3, h4, h5⟩ := hr
  have hne := h2.apart h1 (by decide)
  have e8 : ((8 * bs.length : Nat) : Int) = 8 * (bs.length : Int) := by omega
  refine ⟨g', rfl, hg, hrow, ⟨by rw [e8]; exact (h1.written 1 _).later hb, (h2.elsewhere (p := ⟨p, 1, none⟩) hne _).later hb, Nat.le_refl _, h4, h5⟩, ?_⟩
  exact ((Only.refl (fun k => k = p) w).set (p := ⟨p, 1, none⟩) (.inl rfl) _).andThen (T := fun _ => False) (.of_below hb) fun _ _ h => h.elim

theorem bts_drop (l : List Nat) (m : Nat) : bts (l.drop m) = (bts l).drop m := by simp [bts, List.map_drop]
theorem src_drop {w : World} {g m : Nat} {xs : List Value} (h : Row w g 5 xs.toArray) : Src w (some ⟨g, m, none⟩) (xs.drop m) := by
  intro _
  refine ⟨_, rfl, fun j u hu => ?_⟩
  have e : (⟨g, m, none⟩ : Addr).add j = ⟨g, m + j, none⟩ := by
    unfold Addr.add
    split
    · rename_i h0
      rw [h0]
      rfl
    · rfl
  rw [e]
  rw [List.getElem?_drop] at hu
  exact h.read (by simpa using hu)

set_option maxRecDepth 100000 in
set_option maxHeartbeats 1600000 in
theorem rest_ok {p g : Nat} {bs : List Nat} {i : Nat} (w : World) (hr : RRep w p g bs i) (h : ∀ k, i ≤ k → k < 8 * up i → bitAt bs k = false) :
    Calls Try.prog 105 #[.pointer (some ⟨p, 0, none⟩)] w (RestOk w p g bs i) := by
  have hi := hr.2.2.1
  have hn := hr.2.2.2.1
  have hup : up i ≤ bs.length := by unfold up; omega
  have hc0 : w.cell? ⟨p, 0, none⟩ = some (.slice (some ⟨g, 0, none⟩) bs.length bs.length) := hr.1.read rfl
  have hc1 : w.cell? ⟨p, 1, none⟩ = some (.int .i64 i) := hr.1.read rfl
  have hf1 := hr.1.free 1
  have HR := Lib.hid hr
  have HH := Lib.hid h
  clear hr h
  go_enter Try.func105, Try.ntmps105
  go_wp2
  refine wp_scope_jumps 0 (fun a' w' => ∃ k : Nat, i ≤ k ∧ k ≤ 8 * up i ∧ Fr [some (.pointer (some ⟨p, 0, none⟩)), none, none, none, some (.int .i64 k), none, none, none, none, none, none, none, none, none, none, none, none, none, none, none, none, none, none, none, none, none, none, none, none, none, none, none, none, none, none, none, none] a' ∧ w' = w) (fun a' _ => 8 * up i - (intOf (a'.tmps.getD 4 undef)).toNat) rfl ?_ ?_
  · go_wp2
    go_step3
    obtain ⟨k, hki⟩ : ∃ k, k = i := ⟨i, rfl⟩
    have hk0 : i ≤ k := by omega
    have hk1 : k ≤ 8 * up i := by unfold up; omega
    subst hki
    clear hc1
    have hc1 : w.cell? ⟨p, 1, none⟩ = some (.int .i64 k) := HR.out.1.read rfl
    by_cases h8 : k % 8 = 0
    · have hku : k / 8 = up k := by unfold up at *; omega
      have hb8 : ((k : Int) % 8 != 0) = false := by simp; omega
      obtain ⟨m, rfl⟩ : ∃ m, k = 8 * m := ⟨k / 8, by omega⟩
      have hmu : m = up (8 * m) := by omega
      have hrow := HR.out.2.1
      have hne := HR.out.ne
      have HE := Lib.hid (fun g' (w2 : World) n => rest_end (w2 := w2) HR.out hmu (g' := g') (n := n) (n' := n))
      have hlen : (bs.drop m).length = bs.length - m := by rw [List.length_drop]
      have HC := Lib.hid (fun A' cap' W h => copied_any A' cap' (bs.drop m) W (by rw [hlen]; omega) h)
      rw [hlen] at HC
      have HS := Lib.hid (src_drop (m := m) (hrow.elsewhere (p := ⟨p, 1, none⟩) hne (.int .i64 (8 * (bs.length : Int)))))
      have HZ := Lib.hid hmu
      clear h8 hku hrow hlen hmu
      rcases Nat.lt_or_ge m bs.length with hml | hml
      · generalize hN : bs.length = N at *
        have HN := Lib.hid hN
        clear hN
        rw [← bts_drop] at HS
        go_wp2_with (go_at_call 76; refine (HC.out _ _ _ ?_).mono ?_; exact HS.out; rintro e w2 ⟨g', rfl, hg, hrow, hb⟩)
        simp only [Exit.jump]
        refine bodyPost_ret (v := .tuple #[.slice (some ⟨g', 0, none⟩) (N - m) (N - m), .int .i64 0]) (by simp [results, Try.results105, go_sem]) rfl ?_
        exact HE.out g' w2 (N - m) rfl trivial hg hrow hb
      · have hmn : bs.length = m := by omega
        have hd : bs.drop m = [] := by rw [List.drop_eq_nil_iff]; omega
        have HD := Lib.hid hd
        have HC0 := Lib.hid (fun A' cap' W h => copied_any A' cap' [] W (by simp) h)
        rw [hmn] at hc0 HE
        have HMN := Lib.hid hmn
        clear hd HC HS hmn
        go_wp2_with (go_at_call 76; refine (HC0.out _ _ _ ?_).mono ?_; intro h0; simp [bts] at h0; rintro e w2 ⟨g', rfl, hg, hrow, hb⟩)
        simp only [Exit.jump]
        refine bodyPost_ret (v := .tuple #[.slice (some ⟨g', 0, none⟩) 0 0, .int .i64 0]) (by simp [results, Try.results105, go_sem]) rfl ?_
        exact HE.out g' w2 0 (by omega) trivial hg (by rw [HD.out]; exact hrow) hb
    · have hb8 : ((k : Int) % 8 != 0) = true := by simp; omega
      have hklt : k < 8 * up k := by unfold up at *; omega
      have hbit := HH.out k hk0 hklt
      have hkl : k < 8 * bs.length := by omega
      go_wp2_with (go_at_call 87; refine (bit_any HR.out hkl).mono ?_; rintro e w1 ⟨rfl, rfl⟩; rw [hbit])
      go_step3
      refine ⟨rfl, k + 1, by omega, by omega, ?_, rfl⟩
      simp only [Fr, Holes]
      repeat apply Exists.intro
      rfl
  · rintro a' w' ⟨k, hk0, hk1, hfr, rfl⟩
    simp only [Fr, Holes] at hfr
    repeat (obtain ⟨_, hfr⟩ := hfr)
    by_cases h8 : k % 8 = 0
    · have hku : k / 8 = up i := by unfold up at *; omega
      have hb8 : ((k : Int) % 8 != 0) = false := by simp; omega
      obtain ⟨m, rfl⟩ : ∃ m, k = 8 * m := ⟨k / 8, by omega⟩
      have hmu : m = up i := by omega
      have hrow := HR.out.2.1
      have hne := HR.out.ne
      have HE := Lib.hid (fun g' (w2 : World) n => rest_end (w2 := w2) HR.out hmu (g' := g') (n := n) (n' := n))
      have hlen : (bs.drop m).length = bs.length - m := by rw [List.length_drop]
      have HC := Lib.hid (fun A' cap' W h => copied_any A' cap' (bs.drop m) W (by rw [hlen]; omega) h)
      rw [hlen] at HC
      have HS := Lib.hid (src_drop (m := m) (hrow.elsewhere (p := ⟨p, 1, none⟩) hne (.int .i64 (8 * (bs.length : Int)))))
      have HZ := Lib.hid hmu
      clear h8 hku hrow hlen hmu
      rcases Nat.lt_or_ge m bs.length with hml | hml
      · generalize hN : bs.length = N at *
        have HN := Lib.hid hN
        clear hN
        rw [← bts_drop] at HS
        go_wp2_with (go_at_call 76; refine (HC.out _ _ _ ?_).mono ?_; exact HS.out; rintro e w2 ⟨g', rfl, hg, hrow, hb⟩)
        simp only [Exit.jump]
        refine bodyPost_ret (v := .tuple #[.slice (some ⟨g', 0, none⟩) (N - m) (N - m), .int .i64 0]) (by simp [results, Try.results105, go_sem]) rfl ?_
        exact HE.out g' w2 (N - m) rfl trivial hg hrow hb
      · have hmn : bs.length = m := by omega
        have hd : bs.drop m = [] := by rw [List.drop_eq_nil_iff]; omega
        have HD := Lib.hid hd
        have HC0 := Lib.hid (fun A' cap' W h => copied_any A' cap' [] W (by simp) h)
        rw [hmn] at hc0 HE
        have HMN := Lib.hid hmn
        clear hd HC HS hmn
        go_wp2_with (go_at_call 76; refine (HC0.out _ _ _ ?_).mono ?_; intro h0; simp [bts] at h0; rintro e w2 ⟨g', rfl, hg, hrow, hb⟩)
        simp only [Exit.jump]
        refine bodyPost_ret (v := .tuple #[.slice (some ⟨g', 0, none⟩) 0 0, .int .i64 0]) (by simp [results, Try.results105, go_sem]) rfl ?_
        exact HE.out g' w2 0 (by omega) trivial hg (by rw [HD.out]; exact hrow) hb
    · have hb8 : ((k : Int) % 8 != 0) = true := by simp; omega
      have hklt : k < 8 * up i := by unfold up at *; omega
      have hbit := HH.out k hk0 hklt
      have hkl : k < 8 * bs.length := by omega
      go_wp2_with (go_at_call 87; refine (bit_any HR.out hkl).mono ?_; rintro e w1 ⟨rfl, rfl⟩; rw [hbit])
      go_step3
      refine ⟨rfl, ⟨k + 1, by omega, by omega, ?_, rfl⟩, ?_⟩
      · simp only [Fr, Holes]
        repeat apply Exists.intro
        rfl
      · simp [intOf]
        omega
end Go.Proofs.Ytdklddpkklodnaa
