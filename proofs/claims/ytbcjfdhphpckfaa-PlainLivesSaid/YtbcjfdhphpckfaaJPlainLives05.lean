/-
  What a reader does: Rest. Bytes of memory as a text. BitsBack: what was put, one behind the other, and what is then read: plain lists. Lengths as bits: plain lists, no program. What one answers: the next length, and whether another one follows.
-/
import Derived.Test.YtbcjfdhphpckfaaJPlainLives04
import Derived.Laws.BytesString
import Derived.Laws.IdiomStrings
import Derived.BigQuiet
import Derived.Laws.BitsAllLaws
namespace Go.Proofs.Ytbcjfdhphpckfaa
open Go.RowKit

set_option maxHeartbeats 400000 in
theorem rest_nil (w : World) : Calls Try.prog 239 #[.pointer none] w fun e w' => e = .returned (.tuple #[.slice none 0 0, .int .i64 6]) ∧ w = w' := by
  go_enter Try.func239, Try.ntmps239
  go_wp2
  go_step3
  go_wp2
  rw [Exit.noGoto_ret]
  exact bodyPost_ret (v := .tuple #[.slice none 0 0, .int .i64 6]) (by simp [results, Try.results239, go_sem]) rfl ⟨rfl, rfl⟩

/-- how many bytes are begun -/
def up (i : Nat) : Nat := (i + 7) / 8

def RestOk (w : World) (p g : Nat) (bs : List Nat) (i : Nat) (e : Ending) (w' : World) : Prop :=
  ∃ g', e = .returned (.tuple #[.slice (some ⟨g', 0, none⟩) (bs.length - up i) (bs.length - up i), .int .i64 0]) ∧ w.heap.size ≤ g' ∧ Row w' g' 5 (bts (bs.drop (up i))).toArray ∧ RRep w' p g bs (8 * bs.length) ∧ Only (fun k => k = p) w w'

theorem rest_end {p g m : Nat} {bs : List Nat} {i : Nat} {w w2 : World} (hr : RRep w p g bs i) (hm : m = up i) {g' : Nat} {n n' : Nat} (hn : n = bs.length - m) (hn' : n' = n)
    (hg : (w.setCell ⟨p, 1, none⟩ (.int .i64 (8 * (bs.length : Int)))).heap.size ≤ g') (hrow : Row w2 g' 5 (bts (bs.drop m)).toArray) (hb : Below (w.setCell ⟨p, 1, none⟩ (.int .i64 (8 * (bs.length : Int)))).heap.size (w.setCell ⟨p, 1, none⟩ (.int .i64 (8 * (bs.length : Int)))) w2) :
    RestOk w p g bs i (.returned (.tuple #[.slice (some ⟨g', 0, none⟩) n n', .int .i64 0])) w2 := by
  subst hm
  subst hn'
  subst hn
  have hsz : (w.setCell ⟨p, 1, none⟩ (.int .i64 (8 * (bs.length : Int)))).heap.size = w.heap.size := by simp [World.setCell]
  rw [hsz] at hg
  obtain ⟨h1, h2, h3, h4, h5⟩ := hr
  have hne := h2.apart h1 (by decide)
  have e8 : ((8 * bs.length : Nat) : Int) = 8 * (bs.length : Int) := by omega
  refine ⟨g', rfl, hg, hrow, ⟨by rw [e8]; exact (h1.written 1 _).later hb, (h2.elsewhere (p := ⟨p, 1, none⟩) hne _).later hb, Nat.le_refl _, h4, h5⟩, ?_⟩
  exact ((Only.refl (fun k => k = p) w).set (p := ⟨p, 1, none⟩) (.inl rfl) _).andThen (T := fun _ => False) (.of_below hb) fun _ _ h => h.elim

theorem bts_drop (l : List Nat) (m : Nat) : bts (l.drop m) = (bts l).drop m := by simp [bts, List.map_drop]
theorem src_drop {w : World} {g m : Nat} {xs : List Value} (h : Row w g 5 xs.toArray) : Src w (some ⟨g, m, none⟩) (xs.drop m) := by
  intro _
  refine ⟨_, rfl, fun j u hu => ?_⟩
  have e : (⟨g, m, none⟩ : Addr).add j = ⟨g, m + j, none⟩ := by
    unfold Addr.add
    split
    · rename_i h0
      rw [h0]
      rfl
    · rfl
  rw [e]
  rw [List.getElem?_drop] at hu
  exact h.read (by simpa using hu)

set_option maxRecDepth 100000 in
set_option maxHeartbeats 1600000 in
theorem rest_ok {p g : Nat} {bs : List Nat} {i : Nat} (w : World) (hr : RRep w p g bs i) (h : ∀ k, i ≤ k → k < 8 * up i → bitAt bs k = false) :
    Calls Try.prog 239 #[.pointer (some ⟨p, 0, none⟩)] w (RestOk w p g bs i) := by
  have hi := hr.2.2.1
  have hn := hr.2.2.2.1
  have hup : up i ≤ bs.length := by unfold up; omega
  have hc0 : w.cell? ⟨p, 0, none⟩ = some (.slice (some ⟨g, 0, none⟩) bs.length bs.length) := hr.1.read rfl
  have hc1 : w.cell? ⟨p, 1, none⟩ = some (.int .i64 i) := hr.1.read rfl
  have hf1 := hr.1.free 1
  have HR := Lib.hid hr
  have HH := Lib.hid h
  clear hr h
  go_enter Try.func239, Try.ntmps239
  go_wp2
  refine wp_scope_jumps 0 (fun a' w' => ∃ k : Nat, i ≤ k ∧ k ≤ 8 * up i ∧ Fr [some (.pointer (some ⟨p, 0, none⟩)), none, none, none, some (.int .i64 k), none, none, none, none, none, none, none, none, none, none, none, none, none, none, none, none, none, none, none, none, none, none, none, none, none, none, none, none, none, none, none, none] a' ∧ w' = w) (fun a' _ => 8 * up i - (intOf (a'.tmps.getD 4 undef)).toNat) rfl ?_ ?_
  · go_wp2
    go_step3
    obtain ⟨k, hki⟩ : ∃ k, k = i := ⟨i, rfl⟩
    have hk0 : i ≤ k := by omega
    have hk1 : k ≤ 8 * up i := by unfold up; omega
    subst hki
    clear hc1
    have hc1 : w.cell? ⟨p, 1, none⟩ = some (.int .i64 k) := HR.out.1.read rfl
    by_cases h8 : k % 8 = 0
    · have hku : k / 8 = up k := by unfold up at *; omega
      have hb8 : ((k : Int) % 8 != 0) = false := by simp; omega
      obtain ⟨m, rfl⟩ : ∃ m, k = 8 * m := ⟨k / 8, by omega⟩
      have hmu : m = up (8 * m) := by omega
      have hrow := HR.out.2.1
      have hne := HR.out.ne
      have HE := Lib.hid (fun g' (w2 : World) n => rest_end (w2 := w2) HR.out hmu (g' := g') (n := n) (n' := n))
      have hlen : (bs.drop m).length = bs.length - m := by rw [List.length_drop]
      have HC := Lib.hid (fun A' cap' W h => copied_any A' cap' (bs.drop m) W (by rw [hlen]; omega) h)
      rw [hlen] at HC
      have HS := Lib.hid (src_drop (m := m) (hrow.elsewhere (p := ⟨p, 1, none⟩) hne (.int .i64 (8 * (bs.length : Int)))))
      have HZ := Lib.hid hmu
      clear h8 hku hrow hlen hmu
      rcases Nat.lt_or_ge m bs.length with hml | hml
      · generalize hN : bs.length = N at *
        have HN := Lib.hid hN
        clear hN
        rw [← bts_drop] at HS
        go_wp2_with (go_at_call 245; refine (HC.out _ _ _ ?_).mono ?_; exact HS.out; rintro e w2 ⟨g', rfl, hg, hrow, hb⟩)
        simp only [Exit.jump]
        refine bodyPost_ret (v := .tuple #[.slice (some ⟨g', 0, none⟩) (N - m) (N - m), .int .i64 0]) (by simp [results, Try.results239, go_sem]) rfl ?_
        exact HE.out g' w2 (N - m) rfl trivial hg hrow hb
      · have hmn : bs.length = m := by omega
        have hd : bs.drop m = [] := by rw [List.drop_eq_nil_iff]; omega
        have HD := Lib.hid hd
        have HC0 := Lib.hid (fun A' cap' W h => copied_any A' cap' [] W (by simp) h)
        rw [hmn] at hc0 HE
        have HMN := Lib.hid hmn
        clear hd HC HS hmn
        go_wp2_with (go_at_call 245; refine (HC0.out _ _ _ ?_).mono ?_; intro h0; simp [bts] at h0; rintro e w2 ⟨g', rfl, hg, hrow, hb⟩)
        simp only [Exit.jump]
        refine bodyPost_ret (v := .tuple #[.slice (some ⟨g', 0, none⟩) 0 0, .int .i64 0]) (by simp [results, Try.results239, go_sem]) rfl ?_
        exact HE.out g' w2 0 (by omega) trivial hg (by rw [HD.out]; exact hrow) hb
    · have hb8 : ((k : Int) % 8 != 0) = true := by simp; omega
      have hklt : k < 8 * up k := by unfold up at *; omega
      have hbit := HH.out k hk0 hklt
      have hkl : k < 8 * bs.length := by omega
      go_wp2_with (go_at_call 262; refine (bit_any HR.out hkl).mono ?_; rintro e w1 ⟨rfl, rfl⟩; rw [hbit])
      go_step3
      refine ⟨rfl, k + 1, by omega, by omega, ?_, rfl⟩
      simp only [Fr, Holes]
      repeat apply Exists.intro
      rfl
  · rintro a' w' ⟨k, hk0, hk1, hfr, rfl⟩
    simp only [Fr, Holes] at hfr
    repeat (obtain ⟨_, hfr⟩ := hfr)
    by_cases h8 : k % 8 = 0
    · have hku : k / 8 = up i := by unfold up at *; omega
      have hb8 : ((k : Int) % 8 != 0) = false := by simp; omega
      obtain ⟨m, rfl⟩ : ∃ m, k = 8 * m := ⟨k / 8, by omega⟩
      have hmu : m = up i := by omega
      have hrow := HR.out.2.1
      have hne := HR.out.ne
      have HE := Lib.hid (fun g' (w2 : World) n => rest_end (w2 := w2) HR.out hmu (g' := g') (n := n) (n' := n))
      have hlen : (bs.drop m).length = bs.length - m := by rw [List.length_drop]
      have HC := Lib.hid (fun A' cap' W h => copied_any A' cap' (bs.drop m) W (by rw [hlen]; omega) h)
      rw [hlen] at HC
      have HS := Lib.hid (src_drop (m := m) (hrow.elsewhere (p := ⟨p, 1, none⟩) hne (.int .i64 (8 * (bs.length : Int)))))
      have HZ := Lib.hid hmu
      clear h8 hku hrow hlen hmu
      rcases Nat.lt_or_ge m bs.length with hml | hml
      · generalize hN : bs.length = N at *
        have HN := Lib.hid hN
        clear hN
        rw [← bts_drop] at HS
        go_wp2_with (go_at_call 245; refine (HC.out _ _ _ ?_).mono ?_; exact HS.out; rintro e w2 ⟨g', rfl, hg, hrow, hb⟩)
        simp only [Exit.jump]
        refine bodyPost_ret (v := .tuple #[.slice (some ⟨g', 0, none⟩) (N - m) (N - m), .int .i64 0]) (by simp [results, Try.results239, go_sem]) rfl ?_
        exact HE.out g' w2 (N - m) rfl trivial hg hrow hb
      · have hmn : bs.length = m := by omega
        have hd : bs.drop m = [] := by rw [List.drop_eq_nil_iff]; omega
        have HD := Lib.hid hd
        have HC0 := Lib.hid (fun A' cap' W h => copied_any A' cap' [] W (by simp) h)
        rw [hmn] at hc0 HE
        have HMN := Lib.hid hmn
        clear hd HC HS hmn
        go_wp2_with (go_at_call 245; refine (HC0.out _ _ _ ?_).mono ?_; intro h0; simp [bts] at h0; rintro e w2 ⟨g', rfl, hg, hrow, hb⟩)
        simp only [Exit.jump]
        refine bodyPost_ret (v := .tuple #[.slice (some ⟨g', 0, none⟩) 0 0, .int .i64 0]) (by simp [results, Try.results239, go_sem]) rfl ?_
        exact HE.out g' w2 0 (by omega) trivial hg (by rw [HD.out]; exact hrow) hb
    · have hb8 : ((k : Int) % 8 != 0) = true := by simp; omega
      have hklt : k < 8 * up i := by unfold up at *; omega
      have hbit := HH.out k hk0 hklt
      have hkl : k < 8 * bs.length := by omega
      go_wp2_with (go_at_call 262; refine (bit_any HR.out hkl).mono ?_; rintro e w1 ⟨rfl, rfl⟩; rw [hbit])
      go_step3
      refine ⟨rfl, ⟨k + 1, by omega, by omega, ?_, rfl⟩, ?_⟩
      · simp only [Fr, Holes]
        repeat apply Exists.intro
        rfl
      · simp [intOf]
        omega
end Go.Proofs.Ytbcjfdhphpckfaa
namespace Go.Proofs.Ytbcjfdhphpckfaa
open Go.RowKit

/-- bytes as a text -/
def strOf (l : List Nat) : ByteArray := ⟨(l.map UInt8.ofNat).toArray⟩

theorem conv_str {w : World} {g c : Nat} {l : List Nat} (h : Row w g 5 (bts l).toArray) (hb : ∀ b ∈ l, b < 256) :
    (convert 34 9 (.slice (some ⟨g, 0, none⟩) l.length c)).run Try.prog w = .ok (.string (strOf l)) w := by
  have hx := run_convert_bytes_back (P := Try.prog) w 34 9 5 ⟨g, 0, none⟩ c (l.map UInt8.ofNat) Try.underlying34 Try.underlying5 Try.underlying9 (fun j hj => by
    have hj' : j < l.length := by simpa using hj
    rw [add_zero_addr]
    have h1 : (bts l)[j]? = some (.int .u8 (l[j] : Nat)) := bts_at (List.getElem?_eq_getElem hj')
    have h2 := h.read (i := j) (x := .int .u8 (l[j] : Nat)) (by simpa using h1)
    rw [h2, List.getElem_map]
    have h3 : (UInt8.ofNat l[j]).toNat = l[j] := UInt8.toNat_ofNat_of_lt' (hb _ (List.getElem_mem hj'))
    rw [h3])
  rw [List.length_map] at hx
  exact hx

theorem wrote_below {B : Nat} {w w' : World} {p : Nat} {sv : Value} {bl : List Bool} (hr : WRep B w p sv bl) (h : Only (fun k => k = p ∨ sv.ownBlock = some k) w w') : Below B w w' :=
  h.below (by have := hr.1; have := hr.2.1.inside; omega) (fun k hk hS => by
    rcases hS with h1 | h1
    · have := hr.1; omega
    · have := (hr.2.2.lt k h1).1; omega)
theorem get_below {B p : Nat} {w w' : World} (h : Only (fun k => k = p) w w') (hp : B ≤ p) (hB : B ≤ w.heap.size) : Below B w w' :=
  h.below hB (fun k hk hS => by omega)
end Go.Proofs.Ytbcjfdhphpckfaa
namespace Go.Proofs.Ytbcjfdhphpckfaa
open Go.RowKit

def bitsP (kp : List (Nat × Nat)) : List Bool := kp.flatMap fun x => unval x.1 x.2
def cellsP (kp : List (Nat × Nat)) : List Value := kp.flatMap fun x => [.int .u64 x.1, .int .i64 x.2]
theorem bitsP_snoc (kp : List (Nat × Nat)) (v n : Nat) : bitsP (kp ++ [(v, n)]) = bitsP kp ++ unval v n := by simp [bitsP]
theorem cellsP_snoc (kp : List (Nat × Nat)) (v n : Nat) : cellsP (kp ++ [(v, n)]) = cellsP kp ++ [.int .u64 v, .int .i64 n] := by simp [cellsP]
theorem length_cellsP (kp : List (Nat × Nat)) : (cellsP kp).length = kp.length * 2 := by
  induction kp with
  | nil => rfl
  | cons x kp ih =>
    have : cellsP (x :: kp) = [.int .u64 x.1, .int .i64 x.2] ++ cellsP kp := rfl
    rw [this, List.length_append, ih, List.length_cons]
    simp
    omega
theorem length_bitsP {kp : List (Nat × Nat)} (h : ∀ x ∈ kp, x.2 ≤ 64 ∧ x.1 < 2 ^ x.2) : (bitsP kp).length ≤ 64 * kp.length := by
  induction kp with
  | nil => simp [bitsP]
  | cons x kp ih =>
    have e : bitsP (x :: kp) = unval x.1 x.2 ++ bitsP kp := rfl
    have h1 := h x (List.mem_cons_self ..)
    have h2 := ih fun y hy => h y (List.mem_cons_of_mem _ hy)
    rw [e, List.length_append, length_unval, List.length_cons]
    omega
theorem bitsP_append (a b : List (Nat × Nat)) : bitsP (a ++ b) = bitsP a ++ bitsP b := by simp [bitsP]
theorem bitsP_split {kp : List (Nat × Nat)} {k : Nat} (h : k < kp.length) : bitsP kp = bitsP (kp.take k) ++ (unval kp[k].1 kp[k].2 ++ bitsP (kp.drop (k + 1))) := by
  have h1 : kp = kp.take k ++ (kp[k] :: kp.drop (k + 1)) := by simp
  have h2 : bitsP (kp[k] :: kp.drop (k + 1)) = unval kp[k].1 kp[k].2 ++ bitsP (kp.drop (k + 1)) := rfl
  rw [← h2, ← bitsP_append, ← h1]
theorem bitsP_take {kp : List (Nat × Nat)} {k : Nat} (h : k < kp.length) : (bitsP (kp.take (k + 1))).length = (bitsP (kp.take k)).length + kp[k].2 := by
  rw [List.take_succ_eq_append_getElem h, bitsP_append, List.length_append]
  simp [bitsP, length_unval]
theorem cellsP_at {kp : List (Nat × Nat)} {k : Nat} (h : k < kp.length) : (cellsP kp)[k * 2]? = some (.int .u64 kp[k].1) ∧ (cellsP kp)[k * 2 + 1]? = some (.int .i64 kp[k].2) := by
  have h1 : kp = kp.take k ++ (kp[k] :: kp.drop (k + 1)) := by simp
  have h2 : cellsP kp = cellsP (kp.take k) ++ ([.int .u64 kp[k].1, .int .i64 kp[k].2] ++ cellsP (kp.drop (k + 1))) := by
    have h3 : cellsP (kp[k] :: kp.drop (k + 1)) = [.int .u64 kp[k].1, .int .i64 kp[k].2] ++ cellsP (kp.drop (k + 1)) := rfl
    have h4 : ∀ a b, cellsP (a ++ b) = cellsP a ++ cellsP b := fun a b => by simp [cellsP]
    rw [← h3, ← h4, ← h1]
  have hl : (cellsP (kp.take k)).length = k * 2 := by rw [length_cellsP, List.length_take]; omega
  rw [h2]
  constructor
  · rw [List.getElem?_append_right (by omega), hl, Nat.sub_self]
    rfl
  · rw [List.getElem?_append_right (by omega), hl, show k * 2 + 1 - k * 2 = 1 by omega]
    rfl

/-- what is read is what was put -/
theorem seg_back {kp : List (Nat × Nat)} {k : Nat} (h : k < kp.length) (hv : kp[k].1 < 2 ^ kp[k].2) : val (seg (pack (bitsP kp)) (bitsP (kp.take k)).length kp[k].2) = kp[k].1 := by
  unfold seg
  rw [bitsOf_pack, bitsP_split h, List.append_assoc, List.drop_left, List.append_assoc, List.take_left' (length_unval _ _), val_unval]
  exact Nat.mod_eq_of_lt hv
theorem back_fits {kp : List (Nat × Nat)} {k : Nat} (h : k < kp.length) : (bitsP (kp.take k)).length + kp[k].2 ≤ 8 * (pack (bitsP kp)).length := by
  have h1 := congrArg List.length (bitsP_split h)
  rw [List.length_append, List.length_append, length_unval] at h1
  rw [length_pack]
  unfold packLen
  omega
theorem back_rest (bl : List Bool) : ∀ k, bl.length ≤ k → k < 8 * up bl.length → bitAt (pack bl) k = false := by
  intro k h1 h2
  unfold bitAt
  rw [bitsOf_pack, List.getD_eq_getElem?_getD, List.getElem?_append_right h1, List.getElem?_replicate]
  split <;> rfl
theorem pack_small (bl : List Bool) : ∀ b ∈ pack bl, b < 256 := by
  intro b hb
  unfold pack at hb
  simp only [List.mem_map] at hb
  obtain ⟨i, _, rfl⟩ := hb
  exact byteAt_lt _ _
end Go.Proofs.Ytbcjfdhphpckfaa
namespace Go.Proofs.Ytbcjfdhphpckfaa

/-- the bits of lengths: each behind a bit that tells whether another one follows -/
def wbl (w : Nat) : List Nat → List Bool
  | [] => []
  | n :: r => (!r.isEmpty) :: (unval n w ++ wbl w r)
theorem length_wbl (w : Nat) (l : List Nat) : (wbl w l).length = l.length * (w + 1) := by
  induction l with
  | nil => simp [wbl]
  | cons n r ih => simp [wbl, ih, length_unval, Nat.add_mul]; omega
/-- .. of the first k -/
def wbk (w : Nat) (l : List Nat) : Nat → List Bool
  | 0 => []
  | k + 1 => wbk w l k ++ (decide (k + 1 < l.length) :: unval (l.getD k 0) w)
theorem length_wbk (w : Nat) (l : List Nat) (k : Nat) : (wbk w l k).length = k * (w + 1) := by
  induction k with
  | zero => simp [wbk]
  | succ k ih => simp [wbk, ih, length_unval, Nat.add_mul]
theorem wbk_wbl (w : Nat) (l : List Nat) (k : Nat) (h : k ≤ l.length) : wbk w l k ++ wbl w (l.drop k) = wbl w l := by
  induction k with
  | zero => simp [wbk]
  | succ k ih =>
    have h1 := ih (by omega)
    rw [List.drop_eq_getElem_cons (show k < l.length by omega)] at h1
    have e : (!(l.drop (k + 1)).isEmpty) = decide (k + 1 < l.length) := by
      rw [Bool.eq_iff_iff]
      simp
    rw [← h1, wbk, wbl, e, List.getD_eq_getElem?_getD, List.getElem?_eq_getElem (show k < l.length by omega), Option.getD_some]
    simp
theorem wbk_all (w : Nat) (l : List Nat) : wbk w l l.length = wbl w l := by
  have := wbk_wbl w l l.length (Nat.le_refl _)
  rwa [List.drop_length, wbl, List.append_nil] at this

/-- lengths read from bits, at most f: the lengths, how many bits, or why there are none -/
def prs (w : Nat) : Nat → List Bool → List Nat × Nat × Int
  | 0, _ => ([], 0, 2)
  | f + 1, y =>
    if y.length < w + 1 then ([], 0, 8)
    else if val ((y.drop 1).take w) = 0 then ([], 0, 3)
    else if y.getD 0 false then
      if (prs w f (y.drop (w + 1))).2.2 = 0 then (val ((y.drop 1).take w) :: (prs w f (y.drop (w + 1))).1, (prs w f (y.drop (w + 1))).2.1 + (w + 1), 0)
      else ([], 0, (prs w f (y.drop (w + 1))).2.2)
    else ([val ((y.drop 1).take w)], w + 1, 0)
/-- behind lengths that were read -/
def onto (w : Nat) (acc : List Nat) (r : List Nat × Nat × Int) : List Nat × Nat × Int := if r.2.2 = 0 then (acc ++ r.1, acc.length * (w + 1) + r.2.1, 0) else ([], 0, r.2.2)

theorem prs_ok (w : Nat) : ∀ (f : Nat) (y : List Bool), (prs w f y).2.2 = 0 → (prs w f y).1 ≠ [] ∧ (prs w f y).1.length ≤ f ∧ (∀ n ∈ (prs w f y).1, 1 ≤ n ∧ n < 2 ^ w) ∧ (prs w f y).2.1 = (prs w f y).1.length * (w + 1) ∧ (prs w f y).2.1 ≤ y.length ∧ y.take (prs w f y).2.1 = wbl w (prs w f y).1
  | 0, y, h => by simp [prs] at h
  | f + 1, y, h => by
    have hl := val_lt ((y.drop 1).take w)
    unfold prs at h ⊢
    split at h
    · simp at h
    · rename_i h1
      rw [if_neg h1]
      split at h
      · simp at h
      · rename_i h2
        rw [if_neg h2]
        have hlen : ((y.drop 1).take w).length = w := by rw [List.length_take, List.length_drop]; omega
        rw [hlen] at hl
        have hu : unval (val ((y.drop 1).take w)) w = (y.drop 1).take w := by
          have := unval_val ((y.drop 1).take w)
          rwa [hlen] at this
        obtain ⟨b, z, rfl⟩ : ∃ b z, y = b :: z := by
          cases y with
          | nil => simp at h1
          | cons b z => exact ⟨b, z, rfl⟩
        simp only [List.drop_succ_cons, List.drop_zero, List.getD_cons_zero, List.length_cons] at *
        cases b
        · simp only [Bool.false_eq_true, if_false] at h ⊢
          refine ⟨by simp, by simp, ?_, by simp, by omega, ?_⟩
          · intro n hn
            simp at hn
            subst hn
            omega
          · simp [wbl, hu]
        · simp only [if_true] at h ⊢
          split at h
          · rename_i h3
            rw [if_pos h3]
            obtain ⟨a1, a2, a3, a4, a5, a6⟩ := prs_ok w f (z.drop w) h3
            refine ⟨by simp, by simp; omega, ?_, by simp [a4, Nat.add_mul], by simp at a5 ⊢; omega, ?_⟩
            · intro n hn
              simp only [List.mem_cons] at hn
              rcases hn with rfl | hn
              · omega
              · exact a3 n hn
            · have e : (!(prs w f (z.drop w)).1.isEmpty) = true := by simpa using a1
              rw [wbl, e, hu, ← a6]
              rw [show (prs w f (z.drop w)).2.1 + (w + 1) = ((prs w f (z.drop w)).2.1 + w) + 1 by omega, List.take_succ_cons]
              congr 1
              rw [Nat.add_comm, List.take_add]
          · rename_i h3
            simp at h
            exact absurd h h3

theorem prs_wbl (w : Nat) : ∀ (f : Nat) (l : List Nat) (z : List Bool), l ≠ [] → l.length ≤ f → (∀ n ∈ l, 1 ≤ n ∧ n < 2 ^ w) → prs w f (wbl w l ++ z) = (l, l.length * (w + 1), 0)
  | 0, l, z, h0, hl, _ => by
    cases l with
    | nil => exact absurd rfl h0
    | cons => simp at hl
  | f + 1, [], z, h0, _, _ => absurd rfl h0
  | f + 1, n :: r, z, _, hl, hn => by
    have h1 := hn n (List.mem_cons_self ..)
    have e : wbl w (n :: r) ++ z = (!r.isEmpty) :: (unval n w ++ (wbl w r ++ z)) := by simp [wbl]
    have hv : val ((unval n w ++ (wbl w r ++ z)).take w) = n := by
      rw [List.take_append_of_le_length (by rw [length_unval]; exact Nat.le_refl _), List.take_of_length_le (by rw [length_unval]; exact Nat.le_refl _), val_unval, Nat.mod_eq_of_lt h1.2]
    have hd : (unval n w ++ (wbl w r ++ z)).drop w = wbl w r ++ z := by
      rw [List.drop_append_of_le_length (by rw [length_unval]; exact Nat.le_refl _), List.drop_of_length_le (by rw [length_unval]; exact Nat.le_refl _), List.nil_append]
    unfold prs
    rw [e]
    simp only [List.drop_succ_cons, List.drop_zero, List.getD_cons_zero, hv, hd]
    rw [if_neg (by simp [length_unval]), if_neg (by omega)]
    cases hr : r with
    | nil => simp
    | cons m t =>
      have hrec := prs_wbl w f (m :: t) z (by simp) (by rw [← hr]; simp at hl; omega) (fun k hk => hn k (List.mem_cons_of_mem _ (by rw [hr]; exact hk)))
      simp only [List.isEmpty_cons, Bool.not_false, if_true]
      rw [hrec]
      simp [Nat.add_mul]

/-- what Read answers -/
def quiet (x : List Bool) (a : Nat) : Bool := decide (∀ k, k < 8 * up a - a → x.getD (a + k) false = false)
def readF (bs : List Nat) (w : Nat) : List Nat × Nat × Int :=
  if (prs w 23 (bitsOf bs)).2.2 = 0 then
    if quiet (bitsOf bs) (prs w 23 (bitsOf bs)).2.1 then ((prs w 23 (bitsOf bs)).1, up (prs w 23 (bitsOf bs)).2.1, 0) else ([], 0, 3)
  else ([], 0, (prs w 23 (bitsOf bs)).2.2)

theorem quiet_iff {x : List Bool} {a : Nat} : quiet x a = true ↔ ∀ k, a ≤ k → k < 8 * up a → x.getD k false = false := by
  unfold quiet
  rw [decide_eq_true_iff]
  constructor
  · intro h k h1 h2
    have := h (k - a) (by omega)
    rwa [show a + (k - a) = k by omega] at this
  · intro h k hk
    exact h (a + k) (by omega) (by unfold up at *; omega)
theorem unval_inj {a b : Nat} (ha : a < 256) (hb : b < 256) (h : unval a 8 = unval b 8) : a = b := by
  have h1 := val_unval a 8
  have h2 := val_unval b 8
  rw [h, h2] at h1
  omega
theorem bitsOf_inj : ∀ {a b : List Nat}, (∀ x ∈ a, x < 256) → (∀ x ∈ b, x < 256) → bitsOf a = bitsOf b → a = b
  | [], [], _, _, _ => rfl
  | [], y :: b, _, _, h => by
    have := congrArg List.length h
    rw [length_bitsOf, length_bitsOf] at this
    simp at this
  | x :: a, [], _, _, h => by
    have := congrArg List.length h
    rw [length_bitsOf, length_bitsOf] at this
    simp at this
  | x :: a, y :: b, ha, hb, h => by
    have h' : unval x 8 ++ bitsOf a = unval y 8 ++ bitsOf b := h
    obtain ⟨h1, h2⟩ := List.append_inj h' (by rw [length_unval, length_unval])
    rw [unval_inj (ha x (List.mem_cons_self ..)) (hb y (List.mem_cons_self ..)) h1, bitsOf_inj (fun z hz => ha z (List.mem_cons_of_mem _ hz)) (fun z hz => hb z (List.mem_cons_of_mem _ hz)) h2]
theorem bitsOf_append (a b : List Nat) : bitsOf (a ++ b) = bitsOf a ++ bitsOf b := by simp [bitsOf]
theorem bitsOf_pre (bs : List Nat) (k : Nat) (h : k ≤ bs.length) : bitsOf (bs.take k) = (bitsOf bs).take (8 * k) := by
  have e : bitsOf bs = bitsOf (bs.take k) ++ bitsOf (bs.drop k) := by rw [← bitsOf_append, List.take_append_drop]
  have hl : (bitsOf (bs.take k)).length = 8 * k := by rw [length_bitsOf, List.length_take]; omega
  have h2 : (bitsOf (bs.take k)).take (8 * k) = bitsOf (bs.take k) := List.take_of_length_le (by omega)
  rw [e, List.take_append_of_le_length (by omega), h2]
theorem up_pack (n : Nat) : up n = packLen n := rfl

/-- lengths go there and back, whatever stands behind them -/
theorem read_back {w : Nat} {l : List Nat} {z : List Nat} (h0 : l ≠ []) (hl : l.length ≤ 23) (hn : ∀ n ∈ l, 1 ≤ n ∧ n < 2 ^ w) : readF (pack (wbl w l) ++ z) w = (l, packLen (l.length * (w + 1)), 0) := by
  have e : bitsOf (pack (wbl w l) ++ z) = wbl w l ++ (List.replicate (8 * packLen (l.length * (w + 1)) - l.length * (w + 1)) false ++ bitsOf z) := by
    rw [bitsOf_append, bitsOf_pack, List.append_assoc, length_wbl]
  have hp := prs_wbl w 23 l (List.replicate (8 * packLen (l.length * (w + 1)) - l.length * (w + 1)) false ++ bitsOf z) h0 hl hn
  rw [← e] at hp
  unfold readF
  rw [hp]
  simp only [if_true]
  rw [if_pos, up_pack]
  rw [quiet_iff]
  intro k h1 h2
  rw [e, List.getD_eq_getElem?_getD, List.getElem?_append_right (by rw [length_wbl]; exact h1), length_wbl, List.getElem?_append_left (by rw [List.length_replicate]; rw [up_pack] at h2; omega), List.getElem?_replicate]
  split <;> rfl
/-- what is read has, written, the bytes that it was read from -/
theorem read_write {w : Nat} {bs : List Nat} {l : List Nat} {n : Nat} (hb : ∀ b ∈ bs, b < 256) (h : readF bs w = (l, n, 0)) : l ≠ [] ∧ l.length ≤ 23 ∧ (∀ k ∈ l, 1 ≤ k ∧ k < 2 ^ w) ∧ n ≤ bs.length ∧ n = packLen (l.length * (w + 1)) ∧ pack (wbl w l) = bs.take n := by
  unfold readF at h
  split at h
  · rename_i h1
    obtain ⟨a1, a2, a3, a4, a5, a6⟩ := prs_ok w 23 (bitsOf bs) h1
    split at h
    · rename_i h2
      injection h with e1 e2
      injection e2 with e2 _
      rw [e1] at a1 a2 a3 a4 a6
      rw [length_bitsOf] at a5
      have hu : n ≤ bs.length := by rw [← e2]; unfold up; omega
      refine ⟨a1, a2, a3, hu, by rw [← e2, a4, up_pack], ?_⟩
      apply bitsOf_inj
      · intro x hx
        exact pack_small _ x hx
      · intro x hx
        exact hb x (List.mem_of_mem_take hx)
      · rw [bitsOf_pack, length_wbl, bitsOf_pre bs n hu, ← a6, ← a4]
        have hq := quiet_iff.1 h2
        rw [← e2, up_pack]
        rw [up_pack] at hq
        have hle : (prs w 23 (bitsOf bs)).2.1 ≤ 8 * packLen (prs w 23 (bitsOf bs)).2.1 := by unfold packLen; omega
        have hle2 : 8 * packLen (prs w 23 (bitsOf bs)).2.1 ≤ 8 * bs.length := by rw [← e2, up_pack] at hu; omega
        generalize (prs w 23 (bitsOf bs)).2.1 = a at *
        apply List.ext_getElem?
        intro k
        by_cases hk : k < a
        · rw [List.getElem?_append_left (by rw [List.length_take, length_bitsOf]; omega), List.getElem?_take, if_pos hk, List.getElem?_take, if_pos (by omega)]
        · rw [List.getElem?_append_right (by rw [List.length_take, length_bitsOf]; omega), List.length_take, length_bitsOf, Nat.min_eq_left a5, List.getElem?_replicate, List.getElem?_take]
          by_cases hk2 : k < 8 * packLen a
          · rw [if_pos (by omega), if_pos hk2]
            have := hq k (by omega) hk2
            rw [List.getD_eq_getElem?_getD, List.getElem?_eq_getElem (by rw [length_bitsOf]; omega), Option.getD_some] at this
            rw [List.getElem?_eq_getElem (by rw [length_bitsOf]; omega), this]
          · rw [if_neg (by omega), if_neg hk2]
    · injection h with _ h
      injection h with _ h
      cases h
  · rename_i h1
    injection h with _ h
    injection h with _ h
    exact absurd h h1

/-- behind the lengths acc the rest comes to what all comes to -/
def LInv (w : Nat) (x : List Bool) (acc : List Nat) : Prop := acc.length ≤ 22 ∧ onto w acc (prs w (23 - acc.length) (x.drop (acc.length * (w + 1)))) = prs w 23 x
theorem LInv.start (w : Nat) (x : List Bool) : LInv w x [] := by
  refine ⟨by simp, ?_⟩
  simp only [List.length_nil, Nat.sub_zero, Nat.zero_mul, List.drop_zero, onto, List.nil_append, Nat.zero_add]
  split
  · rename_i h
    rw [← h]
  · rename_i h
    have : ∀ f y, (prs w f y).2.2 ≠ 0 → prs w f y = ([], 0, (prs w f y).2.2) := by
      intro f y
      cases f with
      | zero => intro _; rfl
      | succ f =>
        unfold prs
        split
        · intro _; rfl
        · split
          · intro _; rfl
          · split
            · split
              · intro h; exact absurd rfl h
              · intro _; rfl
            · intro h; exact absurd rfl h
    exact (this 23 x h).symm
section
variable {w : Nat} {x : List Bool} {acc : List Nat}
theorem LInv.short (h : LInv w x acc) (h1 : x.length - acc.length * (w + 1) < w + 1) : prs w 23 x = ([], 0, 8) := by
  obtain ⟨h0, h⟩ := h
  rw [← h, show 23 - acc.length = (22 - acc.length) + 1 by omega]
  unfold prs
  rw [if_pos (by rw [List.length_drop]; exact h1)]
  rfl
theorem LInv.nought (h : LInv w x acc) (h1 : ¬ x.length - acc.length * (w + 1) < w + 1) (h2 : val ((x.drop (acc.length * (w + 1) + 1)).take w) = 0) : prs w 23 x = ([], 0, 3) := by
  obtain ⟨h0, h⟩ := h
  rw [← h, show 23 - acc.length = (22 - acc.length) + 1 by omega]
  unfold prs
  rw [if_neg (by rw [List.length_drop]; exact h1), List.drop_drop, if_pos h2]
  rfl
theorem LInv.last (h : LInv w x acc) (h1 : ¬ x.length - acc.length * (w + 1) < w + 1) (h2 : val ((x.drop (acc.length * (w + 1) + 1)).take w) ≠ 0) (h3 : x.getD (acc.length * (w + 1)) false = false) :
    prs w 23 x = (acc ++ [val ((x.drop (acc.length * (w + 1) + 1)).take w)], (acc.length + 1) * (w + 1), 0) := by
  obtain ⟨h0, h⟩ := h
  rw [← h, show 23 - acc.length = (22 - acc.length) + 1 by omega]
  unfold prs
  have e : (x.drop (acc.length * (w + 1))).getD 0 false = x.getD (acc.length * (w + 1)) false := by
    rw [List.getD_eq_getElem?_getD, List.getElem?_drop, Nat.add_zero, ← List.getD_eq_getElem?_getD]
  rw [if_neg (by rw [List.length_drop]; exact h1), List.drop_drop, if_neg h2, e, h3]
  simp [onto, Nat.add_mul]
theorem LInv.more (h : LInv w x acc) (h1 : ¬ x.length - acc.length * (w + 1) < w + 1) (h2 : val ((x.drop (acc.length * (w + 1) + 1)).take w) ≠ 0) (h3 : x.getD (acc.length * (w + 1)) false = true) (h4 : acc.length < 22) :
    LInv w x (acc ++ [val ((x.drop (acc.length * (w + 1) + 1)).take w)]) := by
  obtain ⟨h0, h⟩ := h
  have e : (x.drop (acc.length * (w + 1))).getD 0 false = x.getD (acc.length * (w + 1)) false := by
    rw [List.getD_eq_getElem?_getD, List.getElem?_drop, Nat.add_zero, ← List.getD_eq_getElem?_getD]
  have hl : (acc ++ [val ((x.drop (acc.length * (w + 1) + 1)).take w)]).length = acc.length + 1 := by simp
  have hs : prs w (23 - acc.length) (x.drop (acc.length * (w + 1))) = if (prs w (22 - acc.length) (x.drop ((acc.length + 1) * (w + 1)))).2.2 = 0 then (val ((x.drop (acc.length * (w + 1) + 1)).take w) :: (prs w (22 - acc.length) (x.drop ((acc.length + 1) * (w + 1)))).1, (prs w (22 - acc.length) (x.drop ((acc.length + 1) * (w + 1)))).2.1 + (w + 1), 0) else ([], 0, (prs w (22 - acc.length) (x.drop ((acc.length + 1) * (w + 1)))).2.2) := by
    rw [show 23 - acc.length = (22 - acc.length) + 1 by omega]
    conv => lhs; unfold prs
    rw [if_neg (by rw [List.length_drop]; exact h1), List.drop_drop, if_neg h2, e, h3, List.drop_drop, show acc.length * (w + 1) + (w + 1) = (acc.length + 1) * (w + 1) by rw [Nat.add_mul, Nat.one_mul]]
    rfl
  refine ⟨by rw [hl]; omega, ?_⟩
  rw [← h, hs, hl, show 23 - (acc.length + 1) = 22 - acc.length by omega]
  unfold onto
  generalize prs w (22 - acc.length) (x.drop ((acc.length + 1) * (w + 1))) = r
  by_cases hr : r.2.2 = 0
  · simp [hr, Nat.add_mul]
    omega
  · simp [hr]
theorem LInv.long (h : LInv w x acc) (h1 : ¬ x.length - acc.length * (w + 1) < w + 1) (h2 : val ((x.drop (acc.length * (w + 1) + 1)).take w) ≠ 0) (h3 : x.getD (acc.length * (w + 1)) false = true) (h4 : acc.length = 22) :
    prs w 23 x = ([], 0, 2) := by
  obtain ⟨h0, h⟩ := h
  have e : (x.drop (acc.length * (w + 1))).getD 0 false = x.getD (acc.length * (w + 1)) false := by
    rw [List.getD_eq_getElem?_getD, List.getElem?_drop, Nat.add_zero, ← List.getD_eq_getElem?_getD]
  rw [← h, show 23 - acc.length = 0 + 1 by omega]
  conv => lhs; unfold prs
  rw [if_neg (by rw [List.length_drop]; exact h1), List.drop_drop, if_neg h2, e, h3]
  simp [prs, onto]
end
end Go.Proofs.Ytbcjfdhphpckfaa
namespace Go.Proofs.Ytbcjfdhphpckfaa
open Go.RowKit

theorem i64_and_nat (a b : Nat) (ha : a < 9223372036854775808) (hb : b < 9223372036854775808) : bits .and .i64 (a : Int) (b : Int) = ((a &&& b : Nat) : Int) := by
  have hx : a &&& b ≤ a := Nat.and_le_left
  show IntKind.i64.wrap ((BitVec.ofInt 64 (a : Int) &&& BitVec.ofInt 64 (b : Int)).toNat : Int) = _
  rw [BitVec.toNat_and, ofInt_u64 a (by omega), ofInt_u64 b (by omega), IntKind.wrap_i64]
  omega

theorem one_short_11 {p g : Nat} {bs : List Nat} {a : Nat} (w : World) (hr : RRep w p g bs a) (h : 8 * bs.length - a < 12) :
    Calls Try.prog 278 #[.pointer (some ⟨p, 0, none⟩), .int .i64 11] w fun e w' => e = .returned (.tuple #[.int .i64 0, .bool false, .int .i64 8]) ∧ Below w.heap.size w w' := by
  have HG := Lib.hid (show Calls Try.prog 231 #[.pointer (some ⟨p, 0, none⟩), .int .i64 12] w fun e w' => e = .returned (.tuple #[.int .u64 0, .int .i64 8]) ∧ Below w.heap.size w w' from get_short 12 w hr (by omega) h)
  clear hr h
  go_enter Try.func278, Try.ntmps278
  go_wp2_with (go_at_call 231; refine HG.out.mono ?_; rintro e w1 ⟨rfl, hb1⟩)
  exact bodyPost_ret (v := .tuple #[.int .i64 0, .bool false, .int .i64 8]) (by simp [results, Try.results278, go_sem]) rfl ⟨rfl, hb1⟩

set_option maxRecDepth 100000 in
set_option maxHeartbeats 800000 in
theorem one_ok_11 {p g : Nat} {bs : List Nat} {a : Nat} (w : World) (hr : RRep w p g bs a) (h : a + 12 ≤ 8 * bs.length) :
    Calls Try.prog 278 #[.pointer (some ⟨p, 0, none⟩), .int .i64 11] w fun e w' => e = .returned (if val (seg bs (a + 1) 11) = 0 then .tuple #[.int .i64 0, .bool false, .int .i64 3] else .tuple #[.int .i64 (val (seg bs (a + 1) 11)), .bool (bitAt bs a), .int .i64 0]) ∧ RRep w' p g bs (a + 12) ∧ Only (fun k => k = p) w w' := by
  have HG := Lib.hid (show Calls Try.prog 231 #[.pointer (some ⟨p, 0, none⟩), .int .i64 12] w fun e w' => e = .returned (.tuple #[.int .u64 (val (seg bs a 12)), .int .i64 0]) ∧ Getting w p g bs a 12 w' from get_any 12 w hr (by omega) h)
  have HL := fun W => longest_ok (x := 11) rfl W
  have hv : val (seg bs a 12) = (bitAt bs a).toNat * 2048 + val (seg bs (a + 1) 11) := by
    have h1 : seg bs a (1 + 11) = seg bs a 1 ++ seg bs (a + 1) 11 := by
      unfold seg
      rw [List.take_add, List.drop_drop]
    rw [show 12 = 1 + 11 from rfl, h1, val_append, val_one (by omega), length_seg (by omega)]
  have hn : val (seg bs (a + 1) 11) < 2048 := by
    have := val_lt (seg bs (a + 1) 11)
    rw [length_seg (by omega)] at this
    exact this
  generalize val (seg bs (a + 1) 11) = n at *
  generalize bitAt bs a = bit at *
  generalize val (seg bs a 12) = V at *
  have hV : V < 4096 := by cases bit <;> simp at hv <;> omega
  have hand : bits .and .i64 (V : Int) 2047 = (n : Int) := by
    have h1 := i64_and_nat V 2047 (by omega) (by omega)
    have h2 : V &&& 2047 = n := by
      rw [show 2047 = 2 ^ 11 - 1 from rfl, Nat.and_two_pow_sub_one_eq_mod]
      cases bit <;> simp at hv <;> omega
    rw [h2] at h1
    exact h1
  have hsh : ((V : Int) / 2048 == 1) = bit := by
    cases bit <;> simp at hv ⊢ <;> omega
  have HSH := Lib.hid hsh
  have hw1 : IntKind.i64.wrap (V : Int) = (V : Int) := by rw [IntKind.wrap_i64]; omega
  clear hr h hv hsh
  rcases Nat.eq_zero_or_pos n with h0 | h0
  · subst h0
    rw [if_pos rfl]
    go_enter Try.func278, Try.ntmps278
    go_wp2_with (first
      | (go_at_call 231; refine HG.out.mono ?_; rintro e w1 ⟨rfl, hr1, ho1⟩)
      | (go_at_call 279; refine (HL _).mono ?_; rintro e w2 ⟨rfl, rfl⟩))
    exact bodyPost_ret (v := .tuple #[.int .i64 0, .bool false, .int .i64 3]) (by simp [results, Try.results278, go_sem]) rfl ⟨rfl, hr1, ho1⟩
  · rw [if_neg (by omega)]
    have hn0 : ((n : Int) == 0) = false := by simp; omega
    go_enter Try.func278, Try.ntmps278
    go_wp2_with (first
      | (go_at_call 231; refine HG.out.mono ?_; rintro e w1 ⟨rfl, hr1, ho1⟩)
      | (go_at_call 279; refine (HL _).mono ?_; rintro e w2 ⟨rfl, rfl⟩))
    go_quiet (fail)
    go_wp2
    refine bodyPost_ret (v := .tuple #[.int .i64 n, .bool bit, .int .i64 0]) ?_ rfl ⟨rfl, hr1.later (below_drewN (Below.refl _ _) _), ho1.drewN _⟩
    rw [← HSH.out]
    simp [results, Try.results278, go_sem]

theorem one_short_15 {p g : Nat} {bs : List Nat} {a : Nat} (w : World) (hr : RRep w p g bs a) (h : 8 * bs.length - a < 16) :
    Calls Try.prog 278 #[.pointer (some ⟨p, 0, none⟩), .int .i64 15] w fun e w' => e = .returned (.tuple #[.int .i64 0, .bool false, .int .i64 8]) ∧ Below w.heap.size w w' := by
  have HG := Lib.hid (show Calls Try.prog 231 #[.pointer (some ⟨p, 0, none⟩), .int .i64 16] w fun e w' => e = .returned (.tuple #[.int .u64 0, .int .i64 8]) ∧ Below w.heap.size w w' from get_short 16 w hr (by omega) h)
  clear hr h
  go_enter Try.func278, Try.ntmps278
  go_wp2_with (go_at_call 231; refine HG.out.mono ?_; rintro e w1 ⟨rfl, hb1⟩)
  exact bodyPost_ret (v := .tuple #[.int .i64 0, .bool false, .int .i64 8]) (by simp [results, Try.results278, go_sem]) rfl ⟨rfl, hb1⟩

set_option maxRecDepth 100000 in
set_option maxHeartbeats 800000 in
theorem one_ok_15 {p g : Nat} {bs : List Nat} {a : Nat} (w : World) (hr : RRep w p g bs a) (h : a + 16 ≤ 8 * bs.length) :
    Calls Try.prog 278 #[.pointer (some ⟨p, 0, none⟩), .int .i64 15] w fun e w' => e = .returned (if val (seg bs (a + 1) 15) = 0 then .tuple #[.int .i64 0, .bool false, .int .i64 3] else .tuple #[.int .i64 (val (seg bs (a + 1) 15)), .bool (bitAt bs a), .int .i64 0]) ∧ RRep w' p g bs (a + 16) ∧ Only (fun k => k = p) w w' := by
  have HG := Lib.hid (show Calls Try.prog 231 #[.pointer (some ⟨p, 0, none⟩), .int .i64 16] w fun e w' => e = .returned (.tuple #[.int .u64 (val (seg bs a 16)), .int .i64 0]) ∧ Getting w p g bs a 16 w' from get_any 16 w hr (by omega) h)
  have HL := fun W => longest_ok (x := 15) rfl W
  have hv : val (seg bs a 16) = (bitAt bs a).toNat * 32768 + val (seg bs (a + 1) 15) := by
    have h1 : seg bs a (1 + 15) = seg bs a 1 ++ seg bs (a + 1) 15 := by
      unfold seg
      rw [List.take_add, List.drop_drop]
    rw [show 16 = 1 + 15 from rfl, h1, val_append, val_one (by omega), length_seg (by omega)]
  have hn : val (seg bs (a + 1) 15) < 32768 := by
    have := val_lt (seg bs (a + 1) 15)
    rw [length_seg (by omega)] at this
    exact this
  generalize val (seg bs (a + 1) 15) = n at *
  generalize bitAt bs a = bit at *
  generalize val (seg bs a 16) = V at *
  have hV : V < 65536 := by cases bit <;> simp at hv <;> omega
  have hand : bits .and .i64 (V : Int) 32767 = (n : Int) := by
    have h1 := i64_and_nat V 32767 (by omega) (by omega)
    have h2 : V &&& 32767 = n := by
      rw [show 32767 = 2 ^ 15 - 1 from rfl, Nat.and_two_pow_sub_one_eq_mod]
      cases bit <;> simp at hv <;> omega
    rw [h2] at h1
    exact h1
  have hsh : ((V : Int) / 32768 == 1) = bit := by
    cases bit <;> simp at hv ⊢ <;> omega
  have HSH := Lib.hid hsh
  have hw1 : IntKind.i64.wrap (V : Int) = (V : Int) := by rw [IntKind.wrap_i64]; omega
  clear hr h hv hsh
  rcases Nat.eq_zero_or_pos n with h0 | h0
  · subst h0
    rw [if_pos rfl]
    go_enter Try.func278, Try.ntmps278
    go_wp2_with (first
      | (go_at_call 231; refine HG.out.mono ?_; rintro e w1 ⟨rfl, hr1, ho1⟩)
      | (go_at_call 279; refine (HL _).mono ?_; rintro e w2 ⟨rfl, rfl⟩))
    exact bodyPost_ret (v := .tuple #[.int .i64 0, .bool false, .int .i64 3]) (by simp [results, Try.results278, go_sem]) rfl ⟨rfl, hr1, ho1⟩
  · rw [if_neg (by omega)]
    have hn0 : ((n : Int) == 0) = false := by simp; omega
    go_enter Try.func278, Try.ntmps278
    go_wp2_with (first
      | (go_at_call 231; refine HG.out.mono ?_; rintro e w1 ⟨rfl, hr1, ho1⟩)
      | (go_at_call 279; refine (HL _).mono ?_; rintro e w2 ⟨rfl, rfl⟩))
    go_quiet (fail)
    go_wp2
    refine bodyPost_ret (v := .tuple #[.int .i64 n, .bool bit, .int .i64 0]) ?_ rfl ⟨rfl, hr1.later (below_drewN (Below.refl _ _) _), ho1.drewN _⟩
    rw [← HSH.out]
    simp [results, Try.results278, go_sem]
end Go.Proofs.Ytbcjfdhphpckfaa
