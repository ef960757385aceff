/-
  The packet that bytes are: the document's answer.
-/
import Derived.Test.YtdklddpkklodnaaRefCut2
import Derived.Test.YtdklddpkklodnaaUmdRead
namespace Go.Proofs.Ytdklddpkklodnaa
open Go.RowKit


theorem Try.info28s : (Try.prog.info? 28).map (·.size) = some 3 := by kernel_rfl
theorem Try.under28s : (Try.prog.underlying 28).map (fun d => match d with | .struct _ => true | _ => false) = some true := by kernel_rfl
theorem under28_parts : ∃ fs, Try.prog.underlying 28 = some (.struct fs) := by
  obtain ⟨d, hd, h⟩ := Option.map_eq_some_iff.1 Try.under28s
  cases d with
  | struct fs => exact ⟨fs, hd⟩
  | _ => simp at h
/-- what the document's Read answers -/
def UrrAns (w : World) (r : Int × Nat × Nat × List (List Nat)) (e : Ending) (w' : World) : Prop :=
  ((r.1 = 0 ∧ ∃ A c L, r.2.2.2 = texts L ∧ e = .returned (.tuple #[.agg #[.int .i64 r.2.1, .int .i64 r.2.2.1, .slice A L.length c], .int .i64 0]) ∧ RSrc w' A L ∧ L.length ≤ c ∧ c ≤ 9223372036854775807) ∨ (r.1 ≠ 0 ∧ e = .returned (.tuple #[.agg #[.int .i64 0, .int .i64 0, .slice none 0 0], .int .i64 r.1]))) ∧ Below w.heap.size w w'
theorem urr_bad {w w' : World} {er : Int} {r : Int × Nat × Nat × List (List Nat)} (h : r.1 = er) (h0 : er ≠ 0) (hb : Below w.heap.size w w') : UrrAns w r (.returned (.tuple #[.agg #[.int .i64 0, .int .i64 0, .slice none 0 0], .int .i64 er])) w' := by
  subst h
  exact ⟨.inr ⟨h0, rfl⟩, hb⟩
theorem any_11 {bs : List Nat} (hb : ∀ b ∈ bs, b < 256) : (readF bs 11).1.any (fun x => decide (2047 < x)) = false := by
  rw [← Bool.not_eq_true, List.any_eq_true]
  rintro ⟨x, hx, h⟩
  rw [decide_eq_true_iff] at h
  by_cases h0 : (readF bs 11).2.2 = 0
  · obtain ⟨ls, k, hrf⟩ : ∃ ls k, readF bs 11 = (ls, k, 0) := ⟨(readF bs 11).1, (readF bs 11).2.1, by rw [← h0]⟩
    obtain ⟨_, _, q3, _⟩ := read_write hb hrf
    rw [hrf] at hx
    have := (q3 x hx).2
    omega
  · have : (readF bs 11).1 = [] := by
      unfold readF at h0 ⊢
      split
      · rename_i h1
        rw [if_pos h1] at h0
        split
        · rename_i h2
          rw [if_pos h2] at h0
          exact absurd rfl h0
        · rfl
      · rfl
    rw [this] at hx
    cases hx
theorem refcut_any {A : Option Addr} {bs : List Nat} (more : Bool) (n cap : Nat) (w : World) (hn : bs.length = n) (hm : n ≤ 8000) (hc : n ≤ cap) (hcm : cap ≤ 9223372036854775807) (hs : Src w A (bts bs)) (hb : ∀ b ∈ bs, b < 256) :
    Calls Try.prog 59 #[.slice A n cap, .bool more, .int .i64 11] w (RcAns A bs w (fldR bs more 11)) := by
  cases more
  · exact refcut_no 11 n cap 11 w hn hm hc hcm hs hb
  · exact refcut_yes 11 n cap 11 w (.inl rfl) rfl hn hm hc hcm hs hb (any_11 hb)
theorem val_seg3 {hd : List Nat} (h : hd.length = 2) : val (seg hd 0 3) = 4 * (bitAt hd 0).toNat + 2 * (bitAt hd 1).toNat + (bitAt hd 2).toNat := by
  have a : val (seg hd 0 3) = 2 * val (seg hd 0 2) + (bitAt hd 2).toNat := val_seg_succ (bs := hd) (i := 0) (m := 2) (by omega)
  have b : val (seg hd 0 2) = 2 * val (seg hd 0 1) + (bitAt hd 1).toNat := val_seg_succ (bs := hd) (i := 0) (m := 1) (by omega)
  have c : val (seg hd 0 1) = (bitAt hd 0).toNat := val_one (by omega)
  omega
theorem seg3_zero {hd : List Nat} (h : hd.length = 2) (hz : val (seg hd 0 3) = 0) : bitAt hd 0 = false ∧ bitAt hd 1 = false ∧ bitAt hd 2 = false := by
  rw [val_seg3 h] at hz
  generalize bitAt hd 0 = a at *
  generalize bitAt hd 1 = b at *
  generalize bitAt hd 2 = c at *
  cases a <;> cases b <;> cases c <;> simp at hz ⊢
theorem SrcB.bit {w : World} {A : Option Addr} {hd : List Nat} (h : SrcB w A (bls (bitsOf hd))) (k : Nat) (hk : k < 8 * hd.length) : ∃ b off, A = some ⟨b, off, none⟩ ∧ w.cell? ⟨b, off + k, none⟩ = some (.bool (bitAt hd k)) := by
  obtain ⟨b, off, hA, hc⟩ := h (by rw [length_bls, length_bitsOf]; omega)
  exact ⟨b, off, hA, hc _ _ (bls_at (bitAt_get hk))⟩
set_option maxRecDepth 100000 in
set_option maxHeartbeats 1600000 in
theorem rread_kind {A : Option Addr} (n cap : Nat) (wd : Int) (w : World) (h5 : wd ≠ 5) (h10 : wd ≠ 10) :
    Calls Try.prog 22 #[.slice A n cap, .int .i64 wd] w fun e w' => e = .returned (.tuple #[.agg #[.int .i64 0, .int .i64 0, .slice none 0 0], .int .i64 9]) ∧ Below w.heap.size w w' := by
  have h5' : (wd != 5) = true := by simpa using h5
  have h10' : (wd != 10) = true := by simpa using h10
  clear h5 h10
  go_enter Try.func22, Try.ntmps22
  go_wp2
  exact bodyPost_ret (v := .tuple #[.agg #[.int .i64 0, .int .i64 0, .slice none 0 0], .int .i64 9]) (by simp [results, Try.results22, go_sem]) rfl ⟨rfl, by first | exact bl_alloc (Below.refl _ _) _ | exact (bl_alloc (Below.refl _ _) _).setCell (by simp) _⟩
end Go.Proofs.Ytdklddpkklodnaa
