/-
  The document's Read answers as the code's.
-/
import Derived.Test.YtdklddpkklodnaaLensRead
import Derived.Test.YtdklddpkklodnaaRefGet
namespace Go.Proofs.Ytdklddpkklodnaa
open Go.RowKit

/-- what the document's Read answers: its list may have room behind -/
def RrAns (w : World) (bs : List Nat) (wd : Nat) (e : Ending) (w' : World) : Prop :=
  (((readF bs wd).2.2 = 0 ∧ ∃ u, e = .returned (.tuple #[u, .int .i64 ((readF bs wd).2.1 : Nat), .int .i64 0]) ∧ w'.ownsRow w.heap.size 3 1 u (readF bs wd).1.length (insN (readF bs wd).1)) ∨
   ((readF bs wd).2.2 ≠ 0 ∧ e = .returned (.tuple #[.slice none 0 0, .int .i64 0, .int .i64 (readF bs wd).2.2]))) ∧ Below w.heap.size w w'
theorem rr_bad {w w' : World} {bs : List Nat} {wd : Nat} {er : Int} (h : prs wd 23 (bitsOf bs) = ([], 0, er)) (h0 : er ≠ 0) (hb : Below w.heap.size w w') : RrAns w bs wd (.returned (.tuple #[.slice none 0 0, .int .i64 0, .int .i64 er])) w' := by
  have h1 : readF bs wd = ([], 0, er) := by
    unfold readF
    rw [h]
    simp [h0]
  unfold RrAns
  rw [h1]
  exact ⟨.inr ⟨h0, rfl⟩, hb⟩
theorem rr_form {w w' : World} {bs l : List Nat} {wd a : Nat} (h : prs wd 23 (bitsOf bs) = (l, a, 0)) (hq : quiet (bitsOf bs) a = false) (hb : Below w.heap.size w w') : RrAns w bs wd (.returned (.tuple #[.slice none 0 0, .int .i64 0, .int .i64 3])) w' := by
  have h1 : readF bs wd = ([], 0, 3) := by
    unfold readF
    rw [h]
    simp [hq]
  unfold RrAns
  rw [h1]
  exact ⟨.inr ⟨by decide, rfl⟩, hb⟩
theorem rr_good {w w' : World} {bs l : List Nat} {wd a : Nat} {u : Value} (h : prs wd 23 (bitsOf bs) = (l, a, 0)) (hq : quiet (bitsOf bs) a = true) (hu : w'.ownsRow w.heap.size 3 1 u l.length (insN l)) (hb : Below w.heap.size w w') :
    RrAns w bs wd (.returned (.tuple #[u, .int .i64 ((up a : Nat) : Int), .int .i64 0])) w' := by
  have h1 : readF bs wd = (l, up a, 0) := by
    unfold readF
    rw [h]
    simp [hq]
  unfold RrAns
  rw [h1]
  exact ⟨.inl ⟨rfl, u, rfl, hu⟩, hb⟩

theorem plain_add (b off j : Nat) : (⟨b, off, none⟩ : Addr).add j = ⟨b, off + j, none⟩ := by
  unfold Addr.add
  split
  · rename_i h; rw [h]; rfl
  · rfl
theorem src_b {w : World} {A : Option Addr} {xs : List Value} (h : Src w A xs) : SrcB w A xs := by
  intro h0
  obtain ⟨a, rfl, hc⟩ := h h0
  obtain ⟨b, off, spot⟩ := a
  have hspot : spot = none := by
    have h1 := hc 0 xs[0] (List.getElem?_eq_getElem h0)
    simpa [Addr.add] using World.cell?_spot h1
  subst hspot
  refine ⟨b, off, rfl, fun j u hu => ?_⟩
  have h1 := hc j u hu
  rw [plain_add] at h1
  exact h1
theorem own_own {w : World} {b1 b2 : Nat} {e1 e2 : TypeId} {s1 s2 : Nat} {x y : Value} {n m : Nat} {xs ys : List Value} (h : w.ownsRow b1 e1 s1 x n xs) (h' : w.ownsRow b2 e2 s2 y m ys) (hne : e1 ≠ e2) : ∀ k, x.ownBlock = some k → y.ownBlock ≠ some k := by
  intro k hk
  rcases h.2 with ⟨rfl, _⟩ | ⟨g, cap, cur, rfl, _, hh, _⟩
  · simp [Value.ownBlock] at hk
  · have e : g = k := by simpa [Value.ownBlock] using hk
    subst e
    exact own_apart h' (show Row w g e1 cur from hh) (Ne.symm hne)

/-- behind some rounds: the bits in x7, the lengths acc in v -/
structure RrInv (B : Nat) (bs acc : List Nat) (x7 : Value) (v : Value) (w w' : World) : Prop where
  bits : OwnB B w' x7 (bitsOf bs)
  own : w'.ownsRow B 3 1 v acc.length (insN acc)
  below : Below B w w'
  size : B ≤ w'.heap.size
section
variable {B : Nat} {bs acc : List Nat} {x7 v : Value} {w w' : World}
theorem RrInv.start {w w' : World} (h : OwnB w.heap.size w' x7 (bitsOf bs)) (hb : Below w.heap.size w w') : RrInv w.heap.size bs [] x7 (.slice none 0 0) w w' :=
  ⟨h, World.ownsRow_nil _ _ _ _, hb, hb.size⟩
theorem RrInv.form (h : RrInv B bs acc x7 v w w') : ∃ A c, v = .slice A acc.length c := by
  rcases h.own.2 with ⟨rfl, h0⟩ | ⟨g, c, cur, rfl, _⟩
  · exact ⟨none, 0, by rw [h0]⟩
  · exact ⟨_, c, rfl⟩
theorem RrInv.src {A7 : Option Addr} {L c7 : Nat} (h : RrInv B bs acc (.slice A7 L c7) v w w') : SrcB w' A7 (bls (bitsOf bs)) := h.bits.src
theorem RrInv.cell {A7 : Option Addr} {L c7 : Nat} (h : RrInv B bs acc (.slice A7 L c7) v w w') {k : Nat} (hk : k < 8 * bs.length) : ∃ b off, A7 = some ⟨b, off, none⟩ ∧ w'.cell? ⟨b, off + k, none⟩ = some (.bool (bitAt bs k)) := by
  obtain ⟨b, off, hA, hc⟩ := h.src (by rw [length_bls, length_bitsOf]; omega)
  exact ⟨b, off, hA, hc _ _ (bls_at (bitAt_get hk))⟩
theorem RrInv.next (h : RrInv B bs acc x7 v w w') (m : Nat) (hacc : acc.length ≤ 1000000) : ∃ g3 c3 w3, (Builtin.append_ #[105, 105] 105 #[v, .slice (some ⟨w'.heap.size, 0, none⟩) 1 1]).run Try.prog (w'.alloc (.cells #[.int .i64 m] 3)) = .ok (.slice (some ⟨g3, 0, none⟩) (acc.length + 1) c3) w3 ∧
      RrInv B bs (acc ++ [m]) x7 (.slice (some ⟨g3, 0, none⟩) (acc.length + 1) c3) w w3 := by
  have hl : acc.length ≤ 1000000 := hacc
  obtain ⟨g3, c3, w3, hrun, hown3, ho3⟩ := int_tail h.own h.size m hl
  refine ⟨g3, c3, w3, hrun, ⟨⟨own_only h.bits.1 ho3 fun k hk hk' => own_own h.own h.bits.1 (by decide) k hk' hk, h.bits.2⟩, ?_, h.below.trans (ho3.below h.size fun k hk hk' => by have := (h.own.lt k hk').1; omega), Nat.le_trans h.size ho3.size⟩⟩
  rw [List.length_append, List.length_singleton]
  have e : insN (acc ++ [m]) = insN acc ++ [.int .i64 m] := by simp [insN]
  rw [e]
  exact hown3
end

set_option maxRecDepth 100000 in
set_option maxHeartbeats 6400000 in
theorem refread_11 {A : Option Addr} {bs : List Nat} (n cap : Nat) (w : World) (hn : bs.length = n) (hm : n ≤ 8000) (hs : Src w A (bts bs)) (hb : ∀ b ∈ bs, b < 256) :
    Calls Try.prog 69 #[.slice A n cap, .int .i64 11] w (RrAns w bs 11) := by
  have HRB := Lib.hid (refbits_any cap (src_b hs) (by omega) hb)
  rw [hn] at HRB
  have HN := Lib.hid hn
  clear hs hb
  go_enter Try.func69, Try.ntmps69
  go_wp2_with (go_at_call 57; refine HRB.out.mono ?_; rintro e w1 ⟨x7, rfl, ho7, hb7⟩; have HO7 := Lib.hid ho7; have HB7 := Lib.hid hb7; clear ho7 hb7)
  obtain ⟨A7, c7, hx7⟩ := HO7.out.form
  rw [length_bitsOf, HN.out] at hx7
  subst hx7
  have HL0 := Lib.hid (LInv.start 11 (bitsOf bs))
  have HI0 := Lib.hid (RrInv.start HO7.out HB7.out)
  clear HO7 HB7 HRB
  obtain ⟨L, hL⟩ : ∃ L, L = 8 * n := ⟨_, rfl⟩
  rw [← hL] at HI0 ⊢
  have hL2 : L ≤ 64000 := by omega
  have HLL := Lib.hid (show L = 8 * bs.length by rw [hL, hn])
  have HLB := Lib.hid (show (bitsOf bs).length = L by rw [length_bitsOf, hn, hL])
  clear hL hn
  go_loopw [8, 9] (fun o at' wr => ∃ (acc : List Nat) (a : Nat), a ≤ L ∧ at' = .int .i64 a ∧ Hid (a = acc.length * (11 + 1)) ∧ Hid (LInv 11 (bitsOf bs) acc) ∧ Hid (RrInv w.heap.size bs acc (.slice A7 L c7) o w wr)) (fun o _ _ => 23 - sliceLen o)
  case atStart => exact ⟨[], 0, by omega, rfl, Lib.hid (by simp), HL0, HI0⟩
  case round =>
    obtain ⟨acc, a, haL, rfl, HA, HI, HR⟩ := hrel
    obtain ⟨Av, cv, rfl⟩ := HR.out.form
    clear HL0 HI0
    have hl22 := HI.out.1
    rcases Nat.lt_or_ge (L - a) 12 with hsh | hsh
    · have HE := Lib.hid (HI.out.short (by rw [HLB.out, ← HA.out]; exact hsh))
      have hlt : (L : Int) - (a : Int) < 12 := by omega
      clear hsh
      go_wp2_with fail
      exact bodyPost_ret (v := .tuple #[.slice none 0 0, .int .i64 0, .int .i64 8]) (by simp [results, Try.results69, go_sem]) rfl (rr_bad HE.out (by decide) HR.out.below)
    · have hnlt : ¬ (L : Int) - (a : Int) < 12 := by omega
      have hns : ¬ (bitsOf bs).length - acc.length * (11 + 1) < 11 + 1 := by rw [HLB.out, ← HA.out]; omega
      have HNS := Lib.hid hns
      have hlen : bs.length ≤ 8000 := by have := HLL.out; omega
      have HG := Lib.hid (refget_ok A7 L c7 (a + 1) 11 wr HR.out.src HLL.out hlen (by omega) (by omega))
      have hcast : (((a + 1 : Nat)) : Int) = (a : Int) + 1 := by omega
      rw [hcast] at HG
      have hcell := HR.out.cell (k := a) (by have := HLL.out; omega)
      have HBT := Lib.hid (show bitAt bs a = (bitsOf bs).getD (acc.length * (11 + 1)) false by rw [← HA.out]; rfl)
      have HV := Lib.hid (show val (seg bs (a + 1) 11) = val (((bitsOf bs).drop (acc.length * (11 + 1) + 1)).take 11) by rw [← HA.out]; rfl)
      have hnl : val (seg bs (a + 1) 11) < 32768 := by
        have h9 := val_lt (seg bs (a + 1) 11)
        rw [length_seg (by have := HLL.out; omega)] at h9
        omega
      obtain ⟨b7, o7, hA7, hcell⟩ := hcell
      subst hA7
      generalize val (seg bs (a + 1) 11) = m at *
      generalize bitAt bs a = bit at *
      have ha0 : (0 : Int) ≤ (a : Int) := by omega
      have ha1 : (a : Int) < (L : Int) := by omega
      clear hsh hns hlen hcast
      rcases Nat.eq_zero_or_pos m with hz | hz
      · have HE := Lib.hid (HI.out.nought HNS.out (by rw [← HV.out]; exact hz))
        subst hz
        go_wp2_with (go_at_call 58; refine HG.out.mono ?_; rintro e w2 ⟨rfl, rfl⟩)
        exact bodyPost_ret (v := .tuple #[.slice none 0 0, .int .i64 0, .int .i64 3]) (by simp [results, Try.results69, go_sem]) rfl (rr_bad HE.out (by decide) HR.out.below)
      · have hz0 : ((m : Int) == 0) = false := by simp; omega
        have HZ := Lib.hid (show m ≠ 0 by omega)
        obtain ⟨g3, c3, w3, hr3, hinv⟩ := HR.out.next m (by omega)
        have HR3 := Lib.hid hr3
        have HI3 := Lib.hid hinv
        have HNA := Lib.hid (show a + 12 = (acc ++ [m]).length * (11 + 1) by rw [HA.out]; simp; omega)
        clear hz hr3 hinv
        cases bit
        · have HE := Lib.hid (HI.out.last HNS.out (by rw [← HV.out]; exact HZ.out) HBT.out.symm)
          rw [← HV.out] at HE
          go_wp2_with (first
            | (go_at_call 58; refine HG.out.mono ?_; rintro e w2 ⟨rfl, rfl⟩)
            | (at_builtin; refine wpList_run rfl (.tmp 45) (.tmp 48) 105 rfl (.slice Av acc.length cv) (.slice (some ⟨wr.heap.size, 0, none⟩) 1 1) (by rfl) (by rfl) HR3.out ?_))
          have HNA2 := Lib.hid (show (acc.length + 1) * (11 + 1) = a + 12 by rw [HNA.out]; simp)
          rw [HNA2.out] at HE
          obtain ⟨q, hq⟩ : ∃ q, q = a + 12 := ⟨_, rfl⟩
          have hcq : (a : Int) + 1 + 11 = (q : Int) := by omega
          have hqL : q ≤ L := by have := HLL.out; omega
          have hupL : 8 * up q ≤ L := by have := HLL.out; unfold up; omega
          rw [← hq] at HE
          go_loopw [9] (fun at' wq => ∃ k : Nat, q ≤ k ∧ k ≤ 8 * up q ∧ at' = .int .i64 k ∧ Hid (∀ j, q ≤ j → j < k → bitAt bs j = false) ∧ w3 = wq) (fun at' _ => 8 * up q - (intOf at').toNat)
          case atStart => exact ⟨q, by omega, by unfold up; omega, by first | rfl | (rw [hq]; rfl) | go_num, Lib.hid (fun j h1 h2 => by omega), rfl⟩
          case round =>
            obtain ⟨k, hk1, hk2, rfl, HZS, rfl⟩ := hrel
            by_cases h8 : k % 8 = 0
            · have hb8 : ((k : Int) % 8 != 0) = false := by simp; omega
              have hku : k = 8 * up q := by unfold up at *; omega
              have HQ := Lib.hid (show quiet (bitsOf bs) q = true from quiet_iff.2 fun j h1 h2 => HZS.out j h1 (by omega))
              have HKU := Lib.hid (show (k : Int) / 8 = ((up q : Nat) : Int) by omega)
              clear hku h8 hq hcq
              go_wp2_with fail
              refine bodyPost_ret (v := .tuple #[.slice (some ⟨g3, 0, none⟩) (acc.length + 1) c3, .int .i64 ((up q : Nat) : Int), .int .i64 0]) ?_ rfl ?_
              · rw [← HKU.out]
                simp [results, Try.results69, go_sem]
              · exact rr_good HE.out HQ.out (by have h := HI3.out.own; simpa using h) HI3.out.below
            · have hb8 : ((k : Int) % 8 != 0) = true := by simp; omega
              have hklt : k < 8 * up q := by unfold up at *; omega
              obtain ⟨b8, o8, hA8, hcell8⟩ := HI3.out.cell (k := k) (by have := HLL.out; omega)
              injection hA8 with hA8
              injection hA8 with hA8 hO8
              subst hA8
              subst hO8
              have hk0 : (0 : Int) ≤ (k : Int) := by omega
              have hkL : (k : Int) < (L : Int) := by omega
              have HBK := Lib.hid (show bitAt bs k = (bitsOf bs).getD k false from rfl)
              cases hbk : bitAt bs k
              · rw [hbk] at hcell8
                have HBK2 := Lib.hid hbk
                clear hbk HBK h8 hq hcq
                go_wp2_with fail
                go_roundw
                case rel => exact ⟨k + 1, by omega, by omega, by go_num, Lib.hid (fun j h1 h2 => by
                  rcases Nat.lt_or_ge j k with h3 | h3
                  · exact HZS.out j h1 h3
                  · obtain rfl : j = k := by omega
                    exact HBK2.out), trivial⟩
                case measure => simp [intOf]; omega
              · rw [hbk] at hcell8
                have HQ := Lib.hid (show quiet (bitsOf bs) q = false by
                  rw [← Bool.not_eq_true, quiet_iff]
                  intro hh
                  have := hh k hk1 hklt
                  rw [← HBK.out, hbk] at this
                  cases this)
                clear hbk HBK h8 hq hcq
                go_wp2_with fail
                exact bodyPost_ret (v := .tuple #[.slice none 0 0, .int .i64 0, .int .i64 3]) (by simp [results, Try.results69, go_sem]) rfl (rr_form HE.out HQ.out HI3.out.below)
        · rcases Nat.lt_or_ge acc.length 22 with h22 | h22
          · have HM2 := Lib.hid (HI.out.more HNS.out (by rw [← HV.out]; exact HZ.out) HBT.out.symm h22)
            rw [← HV.out] at HM2
            have hcnt : ((acc.length : Int) + 1 == 23) = false := by simp; omega
            go_wp2_with (first
              | (go_at_call 58; refine HG.out.mono ?_; rintro e w2 ⟨rfl, rfl⟩)
              | (at_builtin; refine wpList_run rfl (.tmp 45) (.tmp 48) 105 rfl (.slice Av acc.length cv) (.slice (some ⟨wr.heap.size, 0, none⟩) 1 1) (by rfl) (by rfl) HR3.out ?_))
            go_roundw
            case rel => exact ⟨acc ++ [m], a + 12, by omega, by go_num, HNA, HM2, HI3⟩
            case measure => simp [sliceLen]; omega
          · have HE := Lib.hid (HI.out.long HNS.out (by rw [← HV.out]; exact HZ.out) HBT.out.symm (by omega))
            have hcnt : ((acc.length : Int) + 1 == 23) = true := by simp; omega
            go_wp2_with (first
              | (go_at_call 58; refine HG.out.mono ?_; rintro e w2 ⟨rfl, rfl⟩)
              | (at_builtin; refine wpList_run rfl (.tmp 45) (.tmp 48) 105 rfl (.slice Av acc.length cv) (.slice (some ⟨wr.heap.size, 0, none⟩) 1 1) (by rfl) (by rfl) HR3.out ?_))
            exact bodyPost_ret (v := .tuple #[.slice none 0 0, .int .i64 0, .int .i64 2]) (by simp [results, Try.results69, go_sem]) rfl (rr_bad HE.out (by decide) HI3.out.below)

set_option maxRecDepth 100000 in
set_option maxHeartbeats 6400000 in
theorem refread_15 {A : Option Addr} {bs : List Nat} (n cap : Nat) (w : World) (hn : bs.length = n) (hm : n ≤ 8000) (hs : Src w A (bts bs)) (hb : ∀ b ∈ bs, b < 256) :
    Calls Try.prog 69 #[.slice A n cap, .int .i64 15] w (RrAns w bs 15) := by
  have HRB := Lib.hid (refbits_any cap (src_b hs) (by omega) hb)
  rw [hn] at HRB
  have HN := Lib.hid hn
  clear hs hb
  go_enter Try.func69, Try.ntmps69
  go_wp2_with (go_at_call 57; refine HRB.out.mono ?_; rintro e w1 ⟨x7, rfl, ho7, hb7⟩; have HO7 := Lib.hid ho7; have HB7 := Lib.hid hb7; clear ho7 hb7)
  obtain ⟨A7, c7, hx7⟩ := HO7.out.form
  rw [length_bitsOf, HN.out] at hx7
  subst hx7
  have HL0 := Lib.hid (LInv.start 15 (bitsOf bs))
  have HI0 := Lib.hid (RrInv.start HO7.out HB7.out)
  clear HO7 HB7 HRB
  obtain ⟨L, hL⟩ : ∃ L, L = 8 * n := ⟨_, rfl⟩
  rw [← hL] at HI0 ⊢
  have hL2 : L ≤ 64000 := by omega
  have HLL := Lib.hid (show L = 8 * bs.length by rw [hL, hn])
  have HLB := Lib.hid (show (bitsOf bs).length = L by rw [length_bitsOf, hn, hL])
  clear hL hn
  go_loopw [8, 9] (fun o at' wr => ∃ (acc : List Nat) (a : Nat), a ≤ L ∧ at' = .int .i64 a ∧ Hid (a = acc.length * (15 + 1)) ∧ Hid (LInv 15 (bitsOf bs) acc) ∧ Hid (RrInv w.heap.size bs acc (.slice A7 L c7) o w wr)) (fun o _ _ => 23 - sliceLen o)
  case atStart => exact ⟨[], 0, by omega, rfl, Lib.hid (by simp), HL0, HI0⟩
  case round =>
    obtain ⟨acc, a, haL, rfl, HA, HI, HR⟩ := hrel
    obtain ⟨Av, cv, rfl⟩ := HR.out.form
    clear HL0 HI0
    have hl22 := HI.out.1
    rcases Nat.lt_or_ge (L - a) 16 with hsh | hsh
    · have HE := Lib.hid (HI.out.short (by rw [HLB.out, ← HA.out]; exact hsh))
      have hlt : (L : Int) - (a : Int) < 16 := by omega
      clear hsh
      go_wp2_with fail
      exact bodyPost_ret (v := .tuple #[.slice none 0 0, .int .i64 0, .int .i64 8]) (by simp [results, Try.results69, go_sem]) rfl (rr_bad HE.out (by decide) HR.out.below)
    · have hnlt : ¬ (L : Int) - (a : Int) < 16 := by omega
      have hns : ¬ (bitsOf bs).length - acc.length * (15 + 1) < 15 + 1 := by rw [HLB.out, ← HA.out]; omega
      have HNS := Lib.hid hns
      have hlen : bs.length ≤ 8000 := by have := HLL.out; omega
      have HG := Lib.hid (refget_ok A7 L c7 (a + 1) 15 wr HR.out.src HLL.out hlen (by omega) (by omega))
      have hcast : (((a + 1 : Nat)) : Int) = (a : Int) + 1 := by omega
      rw [hcast] at HG
      have hcell := HR.out.cell (k := a) (by have := HLL.out; omega)
      have HBT := Lib.hid (show bitAt bs a = (bitsOf bs).getD (acc.length * (15 + 1)) false by rw [← HA.out]; rfl)
      have HV := Lib.hid (show val (seg bs (a + 1) 15) = val (((bitsOf bs).drop (acc.length * (15 + 1) + 1)).take 15) by rw [← HA.out]; rfl)
      have hnl : val (seg bs (a + 1) 15) < 32768 := by
        have h9 := val_lt (seg bs (a + 1) 15)
        rw [length_seg (by have := HLL.out; omega)] at h9
        omega
      obtain ⟨b7, o7, hA7, hcell⟩ := hcell
      subst hA7
      generalize val (seg bs (a + 1) 15) = m at *
      generalize bitAt bs a = bit at *
      have ha0 : (0 : Int) ≤ (a : Int) := by omega
      have ha1 : (a : Int) < (L : Int) := by omega
      clear hsh hns hlen hcast
      rcases Nat.eq_zero_or_pos m with hz | hz
      · have HE := Lib.hid (HI.out.nought HNS.out (by rw [← HV.out]; exact hz))
        subst hz
        go_wp2_with (go_at_call 58; refine HG.out.mono ?_; rintro e w2 ⟨rfl, rfl⟩)
        exact bodyPost_ret (v := .tuple #[.slice none 0 0, .int .i64 0, .int .i64 3]) (by simp [results, Try.results69, go_sem]) rfl (rr_bad HE.out (by decide) HR.out.below)
      · have hz0 : ((m : Int) == 0) = false := by simp; omega
        have HZ := Lib.hid (show m ≠ 0 by omega)
        obtain ⟨g3, c3, w3, hr3, hinv⟩ := HR.out.next m (by omega)
        have HR3 := Lib.hid hr3
        have HI3 := Lib.hid hinv
        have HNA := Lib.hid (show a + 16 = (acc ++ [m]).length * (15 + 1) by rw [HA.out]; simp; omega)
        clear hz hr3 hinv
        cases bit
        · have HE := Lib.hid (HI.out.last HNS.out (by rw [← HV.out]; exact HZ.out) HBT.out.symm)
          rw [← HV.out] at HE
          go_wp2_with (first
            | (go_at_call 58; refine HG.out.mono ?_; rintro e w2 ⟨rfl, rfl⟩)
            | (at_builtin; refine wpList_run rfl (.tmp 45) (.tmp 48) 105 rfl (.slice Av acc.length cv) (.slice (some ⟨wr.heap.size, 0, none⟩) 1 1) (by rfl) (by rfl) HR3.out ?_))
          have HNA2 := Lib.hid (show (acc.length + 1) * (15 + 1) = a + 16 by rw [HNA.out]; simp)
          rw [HNA2.out] at HE
          obtain ⟨q, hq⟩ : ∃ q, q = a + 16 := ⟨_, rfl⟩
          have hcq : (a : Int) + 1 + 15 = (q : Int) := by omega
          have hqL : q ≤ L := by have := HLL.out; omega
          have hupL : 8 * up q ≤ L := by have := HLL.out; unfold up; omega
          rw [← hq] at HE
          go_loopw [9] (fun at' wq => ∃ k : Nat, q ≤ k ∧ k ≤ 8 * up q ∧ at' = .int .i64 k ∧ Hid (∀ j, q ≤ j → j < k → bitAt bs j = false) ∧ w3 = wq) (fun at' _ => 8 * up q - (intOf at').toNat)
          case atStart => exact ⟨q, by omega, by unfold up; omega, by first | rfl | (rw [hq]; rfl) | go_num, Lib.hid (fun j h1 h2 => by omega), rfl⟩
          case round =>
            obtain ⟨k, hk1, hk2, rfl, HZS, rfl⟩ := hrel
            by_cases h8 : k % 8 = 0
            · have hb8 : ((k : Int) % 8 != 0) = false := by simp; omega
              have hku : k = 8 * up q := by unfold up at *; omega
              have HQ := Lib.hid (show quiet (bitsOf bs) q = true from quiet_iff.2 fun j h1 h2 => HZS.out j h1 (by omega))
              have HKU := Lib.hid (show (k : Int) / 8 = ((up q : Nat) : Int) by omega)
              clear hku h8 hq hcq
              go_wp2_with fail
              refine bodyPost_ret (v := .tuple #[.slice (some ⟨g3, 0, none⟩) (acc.length + 1) c3, .int .i64 ((up q : Nat) : Int), .int .i64 0]) ?_ rfl ?_
              · rw [← HKU.out]
                simp [results, Try.results69, go_sem]
              · exact rr_good HE.out HQ.out (by have h := HI3.out.own; simpa using h) HI3.out.below
            · have hb8 : ((k : Int) % 8 != 0) = true := by simp; omega
              have hklt : k < 8 * up q := by unfold up at *; omega
              obtain ⟨b8, o8, hA8, hcell8⟩ := HI3.out.cell (k := k) (by have := HLL.out; omega)
              injection hA8 with hA8
              injection hA8 with hA8 hO8
              subst hA8
              subst hO8
              have hk0 : (0 : Int) ≤ (k : Int) := by omega
              have hkL : (k : Int) < (L : Int) := by omega
              have HBK := Lib.hid (show bitAt bs k = (bitsOf bs).getD k false from rfl)
              cases hbk : bitAt bs k
              · rw [hbk] at hcell8
                have HBK2 := Lib.hid hbk
                clear hbk HBK h8 hq hcq
                go_wp2_with fail
                go_roundw
                case rel => exact ⟨k + 1, by omega, by omega, by go_num, Lib.hid (fun j h1 h2 => by
                  rcases Nat.lt_or_ge j k with h3 | h3
                  · exact HZS.out j h1 h3
                  · obtain rfl : j = k := by omega
                    exact HBK2.out), trivial⟩
                case measure => simp [intOf]; omega
              · rw [hbk] at hcell8
                have HQ := Lib.hid (show quiet (bitsOf bs) q = false by
                  rw [← Bool.not_eq_true, quiet_iff]
                  intro hh
                  have := hh k hk1 hklt
                  rw [← HBK.out, hbk] at this
                  cases this)
                clear hbk HBK h8 hq hcq
                go_wp2_with fail
                exact bodyPost_ret (v := .tuple #[.slice none 0 0, .int .i64 0, .int .i64 3]) (by simp [results, Try.results69, go_sem]) rfl (rr_form HE.out HQ.out HI3.out.below)
        · rcases Nat.lt_or_ge acc.length 22 with h22 | h22
          · have HM2 := Lib.hid (HI.out.more HNS.out (by rw [← HV.out]; exact HZ.out) HBT.out.symm h22)
            rw [← HV.out] at HM2
            have hcnt : ((acc.length : Int) + 1 == 23) = false := by simp; omega
            go_wp2_with (first
              | (go_at_call 58; refine HG.out.mono ?_; rintro e w2 ⟨rfl, rfl⟩)
              | (at_builtin; refine wpList_run rfl (.tmp 45) (.tmp 48) 105 rfl (.slice Av acc.length cv) (.slice (some ⟨wr.heap.size, 0, none⟩) 1 1) (by rfl) (by rfl) HR3.out ?_))
            go_roundw
            case rel => exact ⟨acc ++ [m], a + 16, by omega, by go_num, HNA, HM2, HI3⟩
            case measure => simp [sliceLen]; omega
          · have HE := Lib.hid (HI.out.long HNS.out (by rw [← HV.out]; exact HZ.out) HBT.out.symm (by omega))
            have hcnt : ((acc.length : Int) + 1 == 23) = true := by simp; omega
            go_wp2_with (first
              | (go_at_call 58; refine HG.out.mono ?_; rintro e w2 ⟨rfl, rfl⟩)
              | (at_builtin; refine wpList_run rfl (.tmp 45) (.tmp 48) 105 rfl (.slice Av acc.length cv) (.slice (some ⟨wr.heap.size, 0, none⟩) 1 1) (by rfl) (by rfl) HR3.out ?_))
            exact bodyPost_ret (v := .tuple #[.slice none 0 0, .int .i64 0, .int .i64 2]) (by simp [results, Try.results69, go_sem]) rfl (rr_bad HE.out (by decide) HI3.out.below)

set_option maxHeartbeats 400000 in
theorem refread_kind (A : Option Addr) (n cap : Nat) {x : Int} (w : World) (h : okW x = false) :
    Calls Try.prog 69 #[.slice A n cap, .int .i64 x] w fun e w' => e = .returned (.tuple #[.slice none 0 0, .int .i64 0, .int .i64 9]) ∧ w = w' := by
  obtain ⟨h1, h2⟩ := okW_not h
  have h3 : (x != 11) = true := by simpa using h1
  have h4 : (x != 15) = true := by simpa using h2
  clear h h1 h2
  go_enter Try.func69, Try.ntmps69
  go_wp2
  exact bodyPost_ret (v := .tuple #[.slice none 0 0, .int .i64 0, .int .i64 9]) (by simp [results, Try.results69, go_sem]) rfl ⟨rfl, rfl⟩
end Go.Proofs.Ytdklddpkklodnaa
