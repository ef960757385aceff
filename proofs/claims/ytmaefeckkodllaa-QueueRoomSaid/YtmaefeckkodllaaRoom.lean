/-
  QueueRoom: never do more bytes wait than there is room; what is refused changes nothing; what is discarded gives its room back.
-/
import Derived.Test.YtmaefeckkodllaaQArgs
import Derived.Test.YtmaefeckkodllaaHand
namespace Go.Proofs.Ytmaefeckkodllaa
open Go.RowKit

set_option maxRecDepth 100000 in
set_option maxHeartbeats 800000 in
theorem room_guard (room : Int) (A A2 : Option Addr) (N c N2 c2 : Nat) (w : World) (h : room < 1 ∨ 20000 < room) :
    Calls Try.prog 9 #[.int .i64 room, .slice A N c, .slice A2 N2 c2] w fun e w' => e = .returned (.bool true) ∧ Below w.heap.size w w' := by
  have HG := Lib.hid h
  rcases Int.lt_or_le room 1 with h1 | h1
  · clear h
    go_enter Try.func9, Try.ntmps9
    go_wp2_with (first
      | (go_at_call 28; refine (qnew_arg room _ HG.out).mono ?_; rintro e _ ⟨rfl, rfl⟩)
      | (go_at_call 29; refine (alive4_any _).mono ?_; rintro e w2 ⟨rfl, hb2⟩))
    go_ret
    exact ⟨rfl, hb2⟩
  · have h2 : 20000 < room := by omega
    clear h
    go_enter Try.func9, Try.ntmps9
    go_wp2_with (first
      | (go_at_call 28; refine (qnew_arg room _ HG.out).mono ?_; rintro e _ ⟨rfl, rfl⟩)
      | (go_at_call 29; refine (alive4_any _).mono ?_; rintro e w2 ⟨rfl, hb2⟩))
    go_ret
    exact ⟨rfl, hb2⟩

theorem Txt.fits_len {ts : List Txt} {room : Int} (_h : (bytesF ts : Int) ≤ room) : 0 ≤ (bytesF ts : Int) := by omega

/-- what a queue of fair size is in a round: its numbers rise, what waits has room -/
def Fair (B p : Nat) (room : Int) (k : Nat) (w : World) : Prop :=
  ∃ (last : Nat) (ts : List Txt), QRep B w p room last ts ∧ last ≤ k ∧ (bytesF ts : Int) ≤ room ∧ ts.length ≤ 64 ∧ ∀ t ∈ ts, t.id ≤ last ∧ t.bg = false
theorem Fair.later {B p k : Nat} {room : Int} {w v : World} (h : Fair B p room k w) (hb : Below w.heap.size w v) : Fair B p room k v := by
  obtain ⟨last, ts, h1, h2⟩ := h
  exact ⟨last, ts, h1.later hb, h2⟩
theorem fair_drop {B p last : Nat} {room : Int} {ts : List Txt} {t : Txt} {w : World} (h : QRep B w p room (last + 1) (ts ++ [t])) (ht : t.id = last + 1) (hbg : t.bg = false) (hids : ∀ x ∈ ts, x.id ≤ last) :
    discE (last + 1) (ts ++ [t]) = 0 ∧ discF (last + 1) (ts ++ [t]) = ts ∧ discE (last + 1) ts = 4 ∧ discF (last + 1) ts = ts := by
  have _ := h
  have e0 : placeF (last + 1) ts = ts.length := by
    unfold placeF
    rw [List.findIdx_eq_length]
    intro x hx
    have := hids x hx
    simp
    omega
  have e1 : placeF (last + 1) (ts ++ [t]) = ts.length := by
    unfold placeF at e0 ⊢
    rw [List.findIdx_append, e0, if_neg (Nat.lt_irrefl _), List.findIdx_cons]
    simp [ht]
  unfold discE discF
  rw [e0, e1, List.getElem?_append_right (Nat.le_refl _), Nat.sub_self, List.getElem?_eq_none (Nat.le_refl _)]
  simp [hbg, List.eraseIdx_append_of_length_le]

set_option maxRecDepth 100000 in
set_option maxHeartbeats 6400000 in
theorem room_walk (room : Int) (A A2 : Option Addr) (L : List RowB) (cap : Nat) (gn : List Nat) (cap2 : Nat) (w : World) (h1 : 1 ≤ room) (h2 : room ≤ 20000) (hs : RSrc w A L) (hgl : gn.length ≤ 9223372036854775807) (hs2 : SrcB w A2 (bts gn)) :
    Calls Try.prog 9 #[.int .i64 room, .slice A L.length cap, .slice A2 gn.length cap2] w fun e w' => e = .returned (.bool true) ∧ Below w.heap.size w w' := by
  have HS := Lib.hid hs
  have HS2 := Lib.hid hs2
  clear hs hs2
  go_enter Try.func9, Try.ntmps9
  go_wp2_with fail
  refine (qnew_any w.heap.size room w (Nat.le_refl _) h1 h2).mono ?_
  rintro e w1 ⟨rfl, hq1, hb1⟩
  have HF1 : Hid (Fair w.heap.size w.heap.size room 0 w1) := Lib.hid ⟨0, [], hq1, Nat.le_refl _, by simp [bytesF]; omega, by simp, fun t ht => by cases ht⟩
  have HB1 := Lib.hid hb1
  clear hq1 hb1
  go_wp2_with fail
  go_loopw [9] (fun i wr => ∃ k : Nat, k ≤ L.length ∧ k ≤ 80 ∧ i = .int .i64 k ∧ Fair w.heap.size w.heap.size room k wr ∧ Below w.heap.size w wr) (fun i _ => L.length - (intOf i).toNat)
  case atStart => exact ⟨0, by omega, by omega, rfl, HF1.out, HB1.out⟩
  case round =>
    obtain ⟨k, hk, hk2, rfl, hfair, hbr⟩ := hrel
    have HF := Lib.hid hfair
    have HBR := Lib.hid hbr
    have hsr := hbr.size
    clear hfair hbr HF1 HB1
    by_cases hlt : k < L.length ∧ k < 80
    · obtain ⟨hlt, hlt2⟩ := hlt
      obtain ⟨tb, toff, rfl, hc⟩ := HS.out (by omega)
      obtain ⟨r, hr⟩ : ∃ r, L[k]? = some r := ⟨_, List.getElem?_eq_getElem hlt⟩
      obtain ⟨c0, hrok⟩ := hc k r hr
      have HROK := Lib.hid hrok
      have hll := hrok.2.1
      have hlm := hrok.2.2.1
      have hi0 : (0 : Int) ≤ (k : Int) := by omega
      have hi1 : (k : Int) < (L.length : Int) := by omega
      have d0 := kept_box HBR.out c0
      clear hc hr hrok
      rcases Nat.lt_or_ge 1100 r.bs.length with hbig | hbig
      · go_wp2_with (go_at_call 29; refine (alive4_any _).mono ?_; rintro e w7 ⟨rfl, hb7⟩)
        go_ret
        exact ⟨rfl, bl_step HBR.out hb7⟩
      · obtain ⟨last, ts, hq, hlast, hbf, hts, hids⟩ := HF.out
        have HQ := Lib.hid hq
        have HIDS := Lib.hid hids
        obtain ⟨bf, hbfe⟩ : ∃ bf, bytesF ts = bf := ⟨_, rfl⟩
        rw [hbfe] at hbf
        have HBF := Lib.hid hbfe
        obtain ⟨nn, hnn⟩ : ∃ nn, ts.length = nn := ⟨_, rfl⟩
        rw [hnn] at hts
        have HNN := Lib.hid hnn
        have hI := ids_any hq (by omega) (by omega)
        unfold IdsDone at hI
        have HB := Lib.hid (bytes_any hq (by omega) (by omega))
        rw [hbfe] at HB
        clear hq hids hbfe hnn hI
        go_wp2_with fail
        refine (HB.out).mono ?_
        rintro e w2 ⟨rfl, hb2⟩
        have HQ2 := Lib.hid (HQ.out.later hb2)
        have HB2 := Lib.hid (bl_step HBR.out hb2)
        clear hb2
        go_wp2_with fail
        refine (ids_any HQ2.out (by omega) (by rw [HNN.out]; omega)).mono ?_
        rintro e w3 ⟨g3, rfl, _, _, hb3⟩
        rw [HNN.out]
        have HQ3 := Lib.hid (HQ2.out.later hb3)
        have HB3 := Lib.hid (bl_step HB2.out hb3)
        have hs3 := HB3.out.size
        have d3 := kept_box HB3.out c0
        clear hb3
        go_wp2_with fail
        refine (push_all r.A r.bs r.cap HQ3.out (by omega) h2 (by rw [HBF.out]; exact hbf) (by rw [HNN.out]; exact hts) (by omega) (by omega) (fun W hW => src_q HROK.out.1 HB3.out (Nat.le_refl _) hs3 hW)).mono ?_
        rintro e w5 ⟨nid, er, rfl, ho5, hcase⟩
        have HB5 := Lib.hid (HB3.out.trans (ho5.below hs3))
        have c5 := kept_box HB5.out c0
        have HCASE := Lib.hid hcase
        clear ho5 hcase d0 d3
        rcases Classical.em (er = 0) with he | he
        · subst he
          obtain ⟨_, hid, hl0, hl1, htl, hfit, t, ht1, ht2, ht3, hq5⟩ : (0 : Int) = 0 ∧ nid = last + 1 ∧ 0 < r.bs.length ∧ r.bs.length ≤ 1000 ∧ ts.length < 64 ∧ ((bytesF ts : Nat) : Int) + r.bs.length ≤ room ∧ ∃ t : Txt, t.id = last + 1 ∧ t.bs = r.bs ∧ t.bg = false ∧ QRep w.heap.size w5 w.heap.size room (last + 1) (ts ++ [t]) := by
            rcases HCASE.out with h | h
            · exact h
            · exact absurd rfl h.1
          rw [HBF.out] at hfit
          rw [HNN.out] at htl
          have HQ5 := Lib.hid hq5
          have hsum : bytesF (ts ++ [t]) = bf + r.bs.length := by rw [bytesF_snoc, ht2, HBF.out]
          have hlen5 : (ts ++ [t]).length = nn + 1 := by rw [List.length_append, HNN.out]; rfl
          have hdr := fair_drop hq5 ht1 ht3 (fun x hx => (HIDS.out x hx).1)
          have HDR := Lib.hid hdr
          have HT := Lib.hid (And.intro ht1 ht3)
          obtain ⟨bt, hbt⟩ : ∃ bt, bf + r.bs.length = bt := ⟨_, rfl⟩
          rw [hbt] at hsum
          have HBY := Lib.hid (fun W (hW : QRep w.heap.size W w.heap.size room (last + 1) (ts ++ [t])) => (by
            have := bytes_any hW (by omega) (by rw [hsum]; omega)
            rw [hsum] at this
            exact this : Calls Try.prog 41 #[.pointer (some ⟨w.heap.size, 0, none⟩)] W fun e w' => e = .returned (.int .i64 (bt : Nat)) ∧ Below W.heap.size W w'))
          have HID := Lib.hid (fun W (hW : QRep w.heap.size W w.heap.size room (last + 1) (ts ++ [t])) => (by
            have := ids_any hW (by omega) (by rw [hlen5]; omega)
            unfold IdsDone at this
            rw [hlen5] at this
            exact this : Calls Try.prog 43 #[.pointer (some ⟨w.heap.size, 0, none⟩)] W fun e w' => ∃ g, e = .returned (.slice (some ⟨g, 0, none⟩) (nn + 1) (nn + 1)) ∧ W.heap.size ≤ g ∧ Row w' g 67 (idv (ts ++ [t])).toArray ∧ Below W.heap.size W w'))
          have HSUM := Lib.hid (And.intro hsum hlen5)
          have hw0 : IntKind.i64.wrap ((bt : Int) - (bf : Int)) = (r.bs.length : Int) := by rw [IntWalk.i64_in _ (by omega)]; omega
          have hw1 : IntKind.i64.wrap ((nn : Int) + 1) = (nn : Int) + 1 := IntWalk.i64_in _ (by omega)
          have hbr1 : (bt : Int) ≤ room := by omega
          have hnr1 : nn + 1 ≤ 64 := by omega
          have hd1 : decide (room < (bt : Int)) = false := by simp; omega
          have hd2 : decide ((64 : Int) < (nn : Int) + 1) = false := by simp; omega
          have HBT := Lib.hid hbt
          have hsz5 := HB5.out.size
          clear HCASE ht1 ht2 ht3 hq5 hsum hlen5 hdr hbt
          subst hid
          go_wp2_with fail
          refine wp_of_frame [some (.int .i64 room), some (.slice (some ⟨tb, toff, none⟩) L.length cap), some (.slice A2 gn.length cap2), some (undef), some (undef), some (undef), none, some (.pointer (some ⟨w.heap.size, 0, none⟩)), some (.int .i64 0), some (.int .i64 k), some (.int .i64 bf), some (.int .i64 nn), some (.int .u64 ((last + 1 : Nat) : Int)), some (.int .i64 0), some (.tuple #[.pointer (some ⟨w.heap.size, 0, none⟩), .int .i64 0]), some (.int .i64 room), some (.tuple #[.pointer (some ⟨w.heap.size, 0, none⟩), .int .i64 0]), some (.pointer (some ⟨w.heap.size, 0, none⟩)), some (.int .i64 0), some (.int .i64 0), some (.bool false), some (.bool false), some (.pointer (some ⟨w.heap.size, 0, none⟩)), some (.bool false), some (.bool false), some (undef), some (undef), some (undef), some (undef), some (undef), some (undef), some (undef), some (undef), some (undef), none, none, none, none, none, none, none, none, none, none, none, none, none, none, none, none, none, none, none, none, none, none, none, none, none, none, none, none, none, none, none, none, none, none, none, none, none, none, none, none, none, none, none, none, none, none, none, none, none, none, none, none, none, none, none, none, none, none, none, none, none, none, none, none, none, none, none, none, none, none, none, none, none, none, none, none, none, none, none, none, none, none, none, none, none, none, none, none, none, none, none, none, none, none, none, none, none, none, none, none, none, none, none, none, none, none, none, none, none, none, none, none, none, none, none, none, some (undef)] (by
            simp only [Fr, Holes]
            repeat apply Exists.intro
            rfl) ?_
          intro a' hfr
          simp only [Fr, Holes] at hfr
          repeat (obtain ⟨_, hfr⟩ := hfr)
          refine wp_region_noPanic ?_
          refine wp_region_held_drew (S := fun W => Below w5.heap.size w5 W) (by kernel_rfl) (bl_drew (Below.refl _ _)) (fun hS => ?_)
          refine take_at 0 65 (v := ?vE0) (by simp only [List.getElem?_toArray, List.getElem?_cons_zero]; rfl) rfl (by kernel_rfl) (by kernel_rfl) (by kernel_rfl) (fun _ _ _ h => h) (Or.inl ⟨by rfl, ?yE0⟩) hS ?_
          case yE0 =>
            intro W hSW
            (try dsimp only at hSW)
            go_simp
            first | done | with_reducible rfl
          simp only [Act.put, List.setIfInBounds_toArray, List.set_cons_zero, List.set_cons_succ]
          refine take_at 1 66 (v := ?vE1) (by simp only [List.getElem?_toArray, List.getElem?_cons_succ, List.getElem?_cons_zero]; rfl) rfl (by kernel_rfl) (by kernel_rfl) (by kernel_rfl) (fun _ _ _ h => h) (Or.inl ⟨by rfl, ?yE1⟩) hS ?_
          case yE1 =>
            intro W hSW
            (try dsimp only at hSW)
            go_simp
            first | done | with_reducible rfl
          simp only [Act.put, List.setIfInBounds_toArray, List.set_cons_zero, List.set_cons_succ]
          refine take_at 2 67 (v := ?vE2) (by simp only [List.getElem?_toArray, List.getElem?_cons_succ, List.getElem?_cons_zero]; rfl) rfl (by kernel_rfl) (by kernel_rfl) (by kernel_rfl) (fun _ _ _ h => h) (Or.inl ⟨by rfl, ?yE2⟩) hS ?_
          case yE2 =>
            intro W hSW
            (try dsimp only at hSW)
            go_simp
            first | done | with_reducible rfl
          simp only [Act.put, List.setIfInBounds_toArray, List.set_cons_zero, List.set_cons_succ]
          refine take_at 3 68 (v := ?vE3) (by simp only [List.getElem?_toArray, List.getElem?_cons_succ, List.getElem?_cons_zero]; rfl) rfl (by kernel_rfl) (by kernel_rfl) (by kernel_rfl) (fun _ _ _ h => h) (Or.inl ⟨by rfl, ?yE3⟩) hS ?_
          case yE3 =>
            intro W hSW
            (try dsimp only at hSW)
            go_simp
            first | done | with_reducible rfl
          simp only [Act.put, List.setIfInBounds_toArray, List.set_cons_zero, List.set_cons_succ]
          refine take_at 5 70 (v := ?vE5) (by simp only [List.getElem?_toArray, List.getElem?_cons_succ, List.getElem?_cons_zero]; rfl) rfl (by kernel_rfl) (by kernel_rfl) (by kernel_rfl) (fun _ _ _ h => h) (Or.inl ⟨by rfl, ?yE5⟩) hS ?_
          case yE5 =>
            intro W hSW
            (try dsimp only at hSW)
            go_simp
            first | done | with_reducible rfl
          simp only [Act.put, List.setIfInBounds_toArray, List.set_cons_zero, List.set_cons_succ]
          refine take_at 7 72 (v := ?vE7) (by simp only [List.getElem?_toArray, List.getElem?_cons_succ, List.getElem?_cons_zero]; rfl) rfl (by kernel_rfl) (by kernel_rfl) (by kernel_rfl) (fun _ _ _ h => h) (Or.inl ⟨by rfl, ?yE7⟩) hS ?_
          case yE7 =>
            intro W hSW
            (try dsimp only at hSW)
            go_simp
            first | done | with_reducible rfl
          simp only [Act.put, List.setIfInBounds_toArray, List.set_cons_zero, List.set_cons_succ]
          refine take_at 8 73 (v := ?vE8) (by simp only [List.getElem?_toArray, List.getElem?_cons_succ, List.getElem?_cons_zero]; rfl) rfl (by kernel_rfl) (by kernel_rfl) (by kernel_rfl) (fun _ _ _ h => h) (Or.inl ⟨by rfl, ?yE8⟩) hS ?_
          case yE8 =>
            intro W hSW
            (try dsimp only at hSW)
            go_simp
            first | done | with_reducible rfl
          simp only [Act.put, List.setIfInBounds_toArray, List.set_cons_zero, List.set_cons_succ]
          refine take_at 9 74 (v := ?vE9) (by simp only [List.getElem?_toArray, List.getElem?_cons_succ, List.getElem?_cons_zero]; rfl) rfl (by kernel_rfl) (by kernel_rfl) (by kernel_rfl) (fun _ _ _ h => h) (Or.inl ⟨by rfl, ?yE9⟩) hS ?_
          case yE9 =>
            intro W hSW
            (try dsimp only at hSW)
            go_simp
            first | done | with_reducible rfl
          simp only [Act.put, List.setIfInBounds_toArray, List.set_cons_zero, List.set_cons_succ]
          refine take_at 10 75 (v := ?vE10) (by simp only [List.getElem?_toArray, List.getElem?_cons_succ, List.getElem?_cons_zero]; rfl) rfl (by kernel_rfl) (by kernel_rfl) (by kernel_rfl) (fun _ _ _ h => h) (Or.inl ⟨by rfl, ?yE10⟩) hS ?_
          case yE10 =>
            intro W hSW
            (try dsimp only at hSW)
            have z := kept_box hSW c5
            go_simp
            first | done | with_reducible rfl
          simp only [Act.put, List.setIfInBounds_toArray, List.set_cons_zero, List.set_cons_succ]
          refine take_at 11 76 (v := ?vE11) (by simp only [List.getElem?_toArray, List.getElem?_cons_succ, List.getElem?_cons_zero]; rfl) rfl (by kernel_rfl) (by kernel_rfl) (by kernel_rfl) (fun _ _ _ h => h) (Or.inl ⟨by rfl, ?yE11⟩) hS ?_
          case yE11 =>
            intro W hSW
            (try dsimp only at hSW)
            go_simp
            first | done | with_reducible rfl
          simp only [Act.put, List.setIfInBounds_toArray, List.set_cons_zero, List.set_cons_succ]
          refine wpAnyH_ready (rs := [4]) (by kernel_rfl) (by simp) ?_
          refine AllReadyH.cons rfl (fun K hK => ?_) AllReadyH.nil
          go_simp
          refine (HBY.out _ (HQ5.out.later hS)).mono ?_
          rintro e v1 ⟨rfl, g1⟩
          try go_simp
          refine hK.out _ _ (bl_step hS g1) (fun hS => ?_)
          clear hK K
          try simp only [Act.put, List.setIfInBounds_toArray, List.set_cons_zero, List.set_cons_succ]
          have hBv1 : Below w5.heap.size w5 v1 := hS
          refine wpAnyH_more (S' := fun W => Below v1.heap.size v1 W) ?_ (fun _ h => bl_step hBv1 h)
          clear hS
          have hS : (fun W => Below v1.heap.size v1 W) v1 := Below.refl _ _
          refine take_at 6 71 (v := ?vE6) (by simp only [List.getElem?_toArray, List.getElem?_cons_succ, List.getElem?_cons_zero]; rfl) rfl (by kernel_rfl) (by kernel_rfl) (by kernel_rfl) (fun _ _ _ h => h) (Or.inl ⟨by rfl, ?yE6⟩) hS ?_
          case yE6 =>
            intro W hSW
            (try dsimp only at hSW)
            go_simp
            first | done | with_reducible rfl
          simp only [Act.put, List.setIfInBounds_toArray, List.set_cons_zero, List.set_cons_succ]
          refine take_at 12 77 (v := ?vE12) (by simp only [List.getElem?_toArray, List.getElem?_cons_succ, List.getElem?_cons_zero]; rfl) rfl (by kernel_rfl) (by kernel_rfl) (by kernel_rfl) (fun _ _ _ h => h) (Or.inl ⟨by rfl, ?yE12⟩) hS ?_
          case yE12 =>
            intro W hSW
            (try dsimp only at hSW)
            go_simp
            first | done | with_reducible rfl
          simp only [Act.put, List.setIfInBounds_toArray, List.set_cons_zero, List.set_cons_succ]
          refine take_at 13 78 (v := ?vE13) (by simp only [List.getElem?_toArray, List.getElem?_cons_succ, List.getElem?_cons_zero]; rfl) rfl (by kernel_rfl) (by kernel_rfl) (by kernel_rfl) (fun _ _ _ h => h) (Or.inl ⟨by rfl, ?yE13⟩) hS ?_
          case yE13 =>
            intro W hSW
            (try dsimp only at hSW)
            go_simp
            first | done | with_reducible rfl
          simp only [Act.put, List.setIfInBounds_toArray, List.set_cons_zero, List.set_cons_succ]
          refine take_at 14 79 (v := ?vE14) (by simp only [List.getElem?_toArray, List.getElem?_cons_succ, List.getElem?_cons_zero]; rfl) rfl (by kernel_rfl) (by kernel_rfl) (by kernel_rfl) (fun _ _ _ h => h) (Or.inl ⟨by rfl, ?yE14⟩) hS ?_
          case yE14 =>
            intro W hSW
            (try dsimp only at hSW)
            go_simp
            first | done | with_reducible rfl
          simp only [Act.put, List.setIfInBounds_toArray, List.set_cons_zero, List.set_cons_succ]
          refine take_at 17 82 (v := ?vE17) (by simp only [List.getElem?_toArray, List.getElem?_cons_succ, List.getElem?_cons_zero]; rfl) rfl (by kernel_rfl) (by kernel_rfl) (by kernel_rfl) (fun _ _ _ h => h) (Or.inl ⟨by rfl, ?yE17⟩) hS ?_
          case yE17 =>
            intro W hSW
            (try dsimp only at hSW)
            go_simp
            first | done | with_reducible rfl
          simp only [Act.put, List.setIfInBounds_toArray, List.set_cons_zero, List.set_cons_succ]
          refine take_at 18 83 (v := ?vE18) (by simp only [List.getElem?_toArray, List.getElem?_cons_succ, List.getElem?_cons_zero]; rfl) rfl (by kernel_rfl) (by kernel_rfl) (by kernel_rfl) (fun _ _ _ h => h) (Or.inl ⟨by rfl, ?yE18⟩) hS ?_
          case yE18 =>
            intro W hSW
            (try dsimp only at hSW)
            go_simp
            first | done | with_reducible rfl
          simp only [Act.put, List.setIfInBounds_toArray, List.set_cons_zero, List.set_cons_succ]
          refine wpAnyH_ready (rs := [15]) (by kernel_rfl) (by simp) ?_
          refine AllReadyH.cons rfl (fun K hK => ?_) AllReadyH.nil
          go_simp
          refine (HID.out _ ((HQ5.out.later hBv1))).mono ?_
          rintro e v2 ⟨gg, rfl, _, _, g2⟩
          try go_simp
          refine hK.out _ _ (bl_step hS g2) (fun hS => ?_)
          clear hK K
          try simp only [Act.put, List.setIfInBounds_toArray, List.set_cons_zero, List.set_cons_succ]
          have hBv2 : Below v1.heap.size v1 v2 := hS
          refine wpAnyH_more (S' := fun W => Below v2.heap.size v2 W) ?_ (fun _ h => bl_step hBv2 h)
          clear hS
          have hS : (fun W => Below v2.heap.size v2 W) v2 := Below.refl _ _
          refine take_at 16 81 (v := ?vE16) (by simp only [List.getElem?_toArray, List.getElem?_cons_succ, List.getElem?_cons_zero]; rfl) rfl (by kernel_rfl) (by kernel_rfl) (by kernel_rfl) (fun _ _ _ h => h) (Or.inl ⟨by rfl, ?yE16⟩) hS ?_
          case yE16 =>
            intro W hSW
            (try dsimp only at hSW)
            go_simp
            first | done | with_reducible rfl
          simp only [Act.put, List.setIfInBounds_toArray, List.set_cons_zero, List.set_cons_succ]
          refine take_at 19 84 (v := ?vE19) (by simp only [List.getElem?_toArray, List.getElem?_cons_succ, List.getElem?_cons_zero]; rfl) rfl (by kernel_rfl) (by kernel_rfl) (by kernel_rfl) (fun _ _ _ h => h) (Or.inl ⟨by rfl, ?yE19⟩) hS ?_
          case yE19 =>
            intro W hSW
            (try dsimp only at hSW)
            go_simp
            first | done | with_reducible rfl
          simp only [Act.put, List.setIfInBounds_toArray, List.set_cons_zero, List.set_cons_succ]
          refine take_at 20 85 (v := ?vE20) (by simp only [List.getElem?_toArray, List.getElem?_cons_succ, List.getElem?_cons_zero]; rfl) rfl (by kernel_rfl) (by kernel_rfl) (by kernel_rfl) (fun _ _ _ h => h) (Or.inl ⟨by rfl, ?yE20⟩) hS ?_
          case yE20 =>
            intro W hSW
            (try dsimp only at hSW)
            go_simp
            first | done | with_reducible rfl
          simp only [Act.put, List.setIfInBounds_toArray, List.set_cons_zero, List.set_cons_succ]
          refine take_at 21 86 (v := ?vE21) (by simp only [List.getElem?_toArray, List.getElem?_cons_succ, List.getElem?_cons_zero]; rfl) rfl (by kernel_rfl) (by kernel_rfl) (by kernel_rfl) (fun _ _ _ h => h) (Or.inl ⟨by rfl, ?yE21⟩) hS ?_
          case yE21 =>
            intro W hSW
            (try dsimp only at hSW)
            go_simp
            first | done | with_reducible rfl
          simp only [Act.put, List.setIfInBounds_toArray, List.set_cons_zero, List.set_cons_succ]
          refine take_at 22 87 (v := ?vE22) (by simp only [List.getElem?_toArray, List.getElem?_cons_succ, List.getElem?_cons_zero]; rfl) rfl (by kernel_rfl) (by kernel_rfl) (by kernel_rfl) (fun _ _ _ h => h) (Or.inl ⟨by rfl, ?yE22⟩) hS ?_
          case yE22 =>
            intro W hSW
            (try dsimp only at hSW)
            go_simp
            first | done | with_reducible rfl
          simp only [Act.put, List.setIfInBounds_toArray, List.set_cons_zero, List.set_cons_succ]
          refine take_at 23 88 (v := ?vE23) (by simp only [List.getElem?_toArray, List.getElem?_cons_succ, List.getElem?_cons_zero]; rfl) rfl (by kernel_rfl) (by kernel_rfl) (by kernel_rfl) (fun _ _ _ h => h) (Or.inl ⟨by rfl, ?yE23⟩) hS ?_
          case yE23 =>
            intro W hSW
            (try dsimp only at hSW)
            go_simp
            first | done | with_reducible rfl
          simp only [Act.put, List.setIfInBounds_toArray, List.set_cons_zero, List.set_cons_succ]
          refine take_at 24 89 (v := ?vE24) (by simp only [List.getElem?_toArray, List.getElem?_cons_succ, List.getElem?_cons_zero]; rfl) rfl (by kernel_rfl) (by kernel_rfl) (by kernel_rfl) (fun _ _ _ h => h) (Or.inl ⟨by rfl, ?yE24⟩) hS ?_
          case yE24 =>
            intro W hSW
            (try dsimp only at hSW)
            go_simp
            first | done | with_reducible rfl
          simp only [Act.put, List.setIfInBounds_toArray, List.set_cons_zero, List.set_cons_succ]
          refine take_at 25 90 (v := ?vE25) (by simp only [List.getElem?_toArray, List.getElem?_cons_succ, List.getElem?_cons_zero]; rfl) rfl (by kernel_rfl) (by kernel_rfl) (by kernel_rfl) (fun _ _ _ h => h) (Or.inl ⟨by rfl, ?yE25⟩) hS ?_
          case yE25 =>
            intro W hSW
            (try dsimp only at hSW)
            go_simp
            first | done | with_reducible rfl
          simp only [Act.put, List.setIfInBounds_toArray, List.set_cons_zero, List.set_cons_succ]
          refine take_at 26 91 (v := undef) (by simp only [List.getElem?_toArray, List.getElem?_cons_succ, List.getElem?_cons_zero]; rfl) rfl (by kernel_rfl) (by kernel_rfl) (by kernel_rfl) (fun _ _ _ h => h) (Or.inr ⟨by rfl, rfl⟩) hS ?_
          simp only [Act.put, List.setIfInBounds_toArray, List.set_cons_zero, List.set_cons_succ]
          refine take_at 27 92 (v := undef) (by simp only [List.getElem?_toArray, List.getElem?_cons_succ, List.getElem?_cons_zero]; rfl) rfl (by kernel_rfl) (by kernel_rfl) (by kernel_rfl) (fun _ _ _ h => h) (Or.inr ⟨by rfl, rfl⟩) hS ?_
          simp only [Act.put, List.setIfInBounds_toArray, List.set_cons_zero, List.set_cons_succ]
          refine take_at 28 93 (v := undef) (by simp only [List.getElem?_toArray, List.getElem?_cons_succ, List.getElem?_cons_zero]; rfl) rfl (by kernel_rfl) (by kernel_rfl) (by kernel_rfl) (fun _ _ _ h => h) (Or.inr ⟨by rfl, rfl⟩) hS ?_
          simp only [Act.put, List.setIfInBounds_toArray, List.set_cons_zero, List.set_cons_succ]
          refine take_at 29 94 (v := undef) (by simp only [List.getElem?_toArray, List.getElem?_cons_succ, List.getElem?_cons_zero]; rfl) rfl (by kernel_rfl) (by kernel_rfl) (by kernel_rfl) (fun _ _ _ h => h) (Or.inr ⟨by rfl, rfl⟩) hS ?_
          simp only [Act.put, List.setIfInBounds_toArray, List.set_cons_zero, List.set_cons_succ]
          refine take_at 30 95 (v := undef) (by simp only [List.getElem?_toArray, List.getElem?_cons_succ, List.getElem?_cons_zero]; rfl) rfl (by kernel_rfl) (by kernel_rfl) (by kernel_rfl) (fun _ _ _ h => h) (Or.inr ⟨by rfl, rfl⟩) hS ?_
          simp only [Act.put, List.setIfInBounds_toArray, List.set_cons_zero, List.set_cons_succ]
          refine take_at 31 96 (v := undef) (by simp only [List.getElem?_toArray, List.getElem?_cons_succ, List.getElem?_cons_zero]; rfl) rfl (by kernel_rfl) (by kernel_rfl) (by kernel_rfl) (fun _ _ _ h => h) (Or.inr ⟨by rfl, rfl⟩) hS ?_
          simp only [Act.put, List.setIfInBounds_toArray, List.set_cons_zero, List.set_cons_succ]
          refine take_at 32 97 (v := undef) (by simp only [List.getElem?_toArray, List.getElem?_cons_succ, List.getElem?_cons_zero]; rfl) rfl (by kernel_rfl) (by kernel_rfl) (by kernel_rfl) (fun _ _ _ h => h) (Or.inr ⟨by rfl, rfl⟩) hS ?_
          simp only [Act.put, List.setIfInBounds_toArray, List.set_cons_zero, List.set_cons_succ]
          refine take_at 33 98 (v := undef) (by simp only [List.getElem?_toArray, List.getElem?_cons_succ, List.getElem?_cons_zero]; rfl) rfl (by kernel_rfl) (by kernel_rfl) (by kernel_rfl) (fun _ _ _ h => h) (Or.inr ⟨by rfl, rfl⟩) hS ?_
          simp only [Act.put, List.setIfInBounds_toArray, List.set_cons_zero, List.set_cons_succ]
          refine take_at 34 99 (v := undef) (by simp only [List.getElem?_toArray, List.getElem?_cons_succ, List.getElem?_cons_zero]; rfl) rfl (by kernel_rfl) (by kernel_rfl) (by kernel_rfl) (fun _ _ _ h => h) (Or.inr ⟨by rfl, rfl⟩) hS ?_
          simp only [Act.put, List.setIfInBounds_toArray, List.set_cons_zero, List.set_cons_succ]
          refine take_at 35 100 (v := undef) (by simp only [List.getElem?_toArray, List.getElem?_cons_succ, List.getElem?_cons_zero]; rfl) rfl (by kernel_rfl) (by kernel_rfl) (by kernel_rfl) (fun _ _ _ h => h) (Or.inr ⟨by rfl, rfl⟩) hS ?_
          simp only [Act.put, List.setIfInBounds_toArray, List.set_cons_zero, List.set_cons_succ]
          refine take_at 36 101 (v := undef) (by simp only [List.getElem?_toArray, List.getElem?_cons_succ, List.getElem?_cons_zero]; rfl) rfl (by kernel_rfl) (by kernel_rfl) (by kernel_rfl) (fun _ _ _ h => h) (Or.inr ⟨by rfl, rfl⟩) hS ?_
          simp only [Act.put, List.setIfInBounds_toArray, List.set_cons_zero, List.set_cons_succ]
          refine take_at 37 102 (v := undef) (by simp only [List.getElem?_toArray, List.getElem?_cons_succ, List.getElem?_cons_zero]; rfl) rfl (by kernel_rfl) (by kernel_rfl) (by kernel_rfl) (fun _ _ _ h => h) (Or.inr ⟨by rfl, rfl⟩) hS ?_
          simp only [Act.put, List.setIfInBounds_toArray, List.set_cons_zero, List.set_cons_succ]
          refine take_at 38 103 (v := undef) (by simp only [List.getElem?_toArray, List.getElem?_cons_succ, List.getElem?_cons_zero]; rfl) rfl (by kernel_rfl) (by kernel_rfl) (by kernel_rfl) (fun _ _ _ h => h) (Or.inr ⟨by rfl, rfl⟩) hS ?_
          simp only [Act.put, List.setIfInBounds_toArray, List.set_cons_zero, List.set_cons_succ]
          refine take_at 39 104 (v := undef) (by simp only [List.getElem?_toArray, List.getElem?_cons_succ, List.getElem?_cons_zero]; rfl) rfl (by kernel_rfl) (by kernel_rfl) (by kernel_rfl) (fun _ _ _ h => h) (Or.inr ⟨by rfl, rfl⟩) hS ?_
          simp only [Act.put, List.setIfInBounds_toArray, List.set_cons_zero, List.set_cons_succ]
          refine take_at 40 105 (v := undef) (by simp only [List.getElem?_toArray, List.getElem?_cons_succ, List.getElem?_cons_zero]; rfl) rfl (by kernel_rfl) (by kernel_rfl) (by kernel_rfl) (fun _ _ _ h => h) (Or.inr ⟨by rfl, rfl⟩) hS ?_
          simp only [Act.put, List.setIfInBounds_toArray, List.set_cons_zero, List.set_cons_succ]
          refine take_at 41 106 (v := ?vE41) (by simp only [List.getElem?_toArray, List.getElem?_cons_succ, List.getElem?_cons_zero]; rfl) rfl (by kernel_rfl) (by kernel_rfl) (by kernel_rfl) (fun _ _ _ h => h) (Or.inl ⟨by rfl, ?yE41⟩) hS ?_
          case yE41 =>
            intro W hSW
            (try dsimp only at hSW)
            go_simp
            first | done | with_reducible rfl
          simp only [Act.put, List.setIfInBounds_toArray, List.set_cons_zero, List.set_cons_succ]
          refine take_at 42 107 (v := ?vE42) (by simp only [List.getElem?_toArray, List.getElem?_cons_succ, List.getElem?_cons_zero]; rfl) rfl (by kernel_rfl) (by kernel_rfl) (by kernel_rfl) (fun _ _ _ h => h) (Or.inl ⟨by rfl, ?yE42⟩) hS ?_
          case yE42 =>
            intro W hSW
            (try dsimp only at hSW)
            go_simp
            first | done | with_reducible rfl
          simp only [Act.put, List.setIfInBounds_toArray, List.set_cons_zero, List.set_cons_succ]
          refine wpAnyH_done (by kernel_rfl) ?_ _
          refine NoPanic.normal ?_
          clear hw0 hw1
          have HQ8a := Lib.hid ((HQ5.out.later hBv1).later hBv2)
          have HB8a := Lib.hid (bl_step (bl_step HB5.out hBv1) hBv2)
          clear hBv1 hBv2 hS c5
          go_wp2_with fail
          refine (HBY.out _ HQ8a.out).mono ?_
          rintro e v3 ⟨rfl, g3⟩
          have HQ8b := Lib.hid (HQ8a.out.later g3)
          have HB8b := Lib.hid (bl_step HB8a.out g3)
          clear g3 HQ8a HB8a
          go_wp2_with fail
          refine (HID.out _ HQ8b.out).mono ?_
          rintro e v4 ⟨gg4, rfl, _, _, g4⟩
          have HQ8 := Lib.hid (HQ8b.out.later g4)
          have HB8 := Lib.hid (bl_step HB8b.out g4)
          have hs8 := HB8.out.size
          clear g4 HQ8b HB8b
          have HFA : Hid (∀ W, QRep w.heap.size W w.heap.size room (last + 1) (ts ++ [t]) → Fair w.heap.size w.heap.size room (k + 1) W) := Lib.hid fun W hW => ⟨last + 1, ts ++ [t], hW, by omega, by rw [HSUM.out.1]; omega, by rw [HSUM.out.2]; omega, fun x hx => by
            rcases List.mem_append.mp hx with hx | hx
            · exact ⟨Nat.le_succ_of_le (HIDS.out x hx).1, (HIDS.out x hx).2⟩
            · rw [List.mem_singleton.mp hx]; exact ⟨Nat.le_of_eq HT.out.1, HT.out.2⟩⟩
          have HFB : Hid (∀ W, QRep w.heap.size W w.heap.size room (last + 1) ts → Fair w.heap.size w.heap.size room (k + 1) W) := Lib.hid fun W hW => ⟨last + 1, ts, hW, by omega, by rw [HBF.out]; omega, by rw [HNN.out]; omega, fun x hx => ⟨Nat.le_succ_of_le (HIDS.out x hx).1, (HIDS.out x hx).2⟩⟩
          have HD1 := Lib.hid (fun W (hW : QRep w.heap.size W w.heap.size room (last + 1) (ts ++ [t])) => (by
            have := discard_any (last + 1) hW (by omega) (by rw [HSUM.out.2]; omega)
            rw [HDR.out.1, HDR.out.2.1] at this
            exact this : Calls Try.prog 34 #[.pointer (some ⟨w.heap.size, 0, none⟩), .int .u64 (last + 1 : Nat)] W fun e w' => e = .returned (.int .i64 0) ∧ QRep w.heap.size w' w.heap.size room (last + 1) ts ∧ QOnly w.heap.size W w'))
          have HD2 := Lib.hid (fun W (hW : QRep w.heap.size W w.heap.size room (last + 1) ts) => (by
            have := discard_any (last + 1) hW (by omega) (by rw [HNN.out]; omega)
            rw [HDR.out.2.2.1, HDR.out.2.2.2] at this
            exact this : Calls Try.prog 34 #[.pointer (some ⟨w.heap.size, 0, none⟩), .int .u64 (last + 1 : Nat)] W fun e w' => e = .returned (.int .i64 4) ∧ QRep w.heap.size w' w.heap.size room (last + 1) ts ∧ QOnly w.heap.size W w'))
          have HD3 := Lib.hid (fun W (hW : QRep w.heap.size W w.heap.size room (last + 1) ts) => (by
            have := bytes_any hW (by omega) (by rw [HBF.out]; omega)
            rw [HBF.out] at this
            exact this : Calls Try.prog 41 #[.pointer (some ⟨w.heap.size, 0, none⟩)] W fun e w' => e = .returned (.int .i64 (bf : Nat)) ∧ Below W.heap.size W w'))
          clear HBY HID HDR HT
          rcases Nat.lt_or_ge k gn.length with hg | hg
          · obtain ⟨b2, off2, rfl, hc2⟩ := HS2.out (by rw [length_bts]; omega)
            obtain ⟨g, hgk⟩ : ∃ g, gn[k]? = some g := ⟨_, List.getElem?_eq_getElem hg⟩
            have cg := kept_box HB8.out (hc2 k _ (bts_at hgk))
            clear hc2 hgk
            have hgi : (k : Int) < (gn.length : Int) := by omega
            go_wp2_with fail
            · rw [show ((last : Int) + 1) = ((last + 1 : Nat) : Int) from by omega]
              refine (HD1.out _ HQ8.out).mono ?_
              rintro e v5 ⟨rfl, hq9, ho9⟩
              have HQ9 := Lib.hid hq9
              have HB9 := Lib.hid (HB8.out.trans (ho9.below hs8))
              have hs9 := HB9.out.size
              clear hq9 ho9
              go_wp2_with fail
              refine (HD3.out _ HQ9.out).mono ?_
              rintro e v6 ⟨rfl, hb10⟩
              have HQ10 := Lib.hid (HQ9.out.later hb10)
              have HB10 := Lib.hid (bl_step HB9.out hb10)
              have hs10 := HB10.out.size
              clear hb10
              go_wp2_with fail
              rw [show ((last : Int) + 1) = ((last + 1 : Nat) : Int) from by omega]
              refine (HD2.out _ HQ10.out).mono ?_
              rintro e v7 ⟨rfl, hq11, ho11⟩
              have HF11 := Lib.hid (HFB.out _ hq11)
              have HB11 := Lib.hid (HB10.out.trans (ho11.below hs10))
              clear hq11 ho11
              go_wp2_with fail
              go_roundw
              case rel => exact ⟨k + 1, by omega, by omega, by go_num, HF11.out, HB11.out⟩
              case measure => simp [intOf]; omega
            · go_roundw
              case rel => exact ⟨k + 1, by omega, by omega, by go_num, HFA.out _ HQ8.out, HB8.out⟩
              case measure => simp [intOf]; omega
          · have hgd : decide ((k : Int) < (gn.length : Int)) = false := by simp; omega
            go_wp2_with fail
            go_roundw
            case rel => exact ⟨k + 1, by omega, by omega, by go_num, HFA.out _ HQ8.out, HB8.out⟩
            case measure => simp [intOf]; omega
        · obtain ⟨hne, hid, hq5, -⟩ : er ≠ 0 ∧ nid = 0 ∧ QRep w.heap.size w5 w.heap.size room last ts ∧ er = if r.bs.length = 0 then 1 else if 1000 < r.bs.length then 2 else 5 := by
            rcases HCASE.out with h | h
            · exact absurd h.1 he
            · exact h
          subst hid
          have HQ5 := Lib.hid hq5
          have HBY := Lib.hid (fun W (hW : QRep w.heap.size W w.heap.size room last ts) => (by
            have := bytes_any hW (by omega) (by rw [HBF.out]; omega)
            rw [HBF.out] at this
            exact this : Calls Try.prog 41 #[.pointer (some ⟨w.heap.size, 0, none⟩)] W fun e w' => e = .returned (.int .i64 (bf : Nat)) ∧ Below W.heap.size W w'))
          have HID := Lib.hid (fun W (hW : QRep w.heap.size W w.heap.size room last ts) => (by
            have := ids_any hW (by omega) (by rw [HNN.out]; omega)
            unfold IdsDone at this
            rw [HNN.out] at this
            exact this : Calls Try.prog 43 #[.pointer (some ⟨w.heap.size, 0, none⟩)] W fun e w' => ∃ g, e = .returned (.slice (some ⟨g, 0, none⟩) nn nn) ∧ W.heap.size ≤ g ∧ Row w' g 67 (idv ts).toArray ∧ Below W.heap.size W w'))
          have hed : decide (er = 0) = false := by simp; exact hne
          have hed2 : decide (er ≠ 0) = true := by simp; exact hne
          have hd1 : decide (room < (bf : Int)) = false := by simp; omega
          have hd2 : decide ((64 : Int) < (nn : Int)) = false := by simp; omega
          clear HCASE hq5 he c5
          go_wp2_with fail
          refine wp_of_frame [some (.int .i64 room), some (.slice (some ⟨tb, toff, none⟩) L.length cap), some (.slice A2 gn.length cap2), some (undef), some (undef), some (undef), none, some (.pointer (some ⟨w.heap.size, 0, none⟩)), some (.int .i64 0), some (.int .i64 k), some (.int .i64 bf), some (.int .i64 nn), some (.int .u64 0), some (.int .i64 er), some (.tuple #[.pointer (some ⟨w.heap.size, 0, none⟩), .int .i64 0]), some (.int .i64 room), some (.tuple #[.pointer (some ⟨w.heap.size, 0, none⟩), .int .i64 0]), some (.pointer (some ⟨w.heap.size, 0, none⟩)), some (.int .i64 0), some (.int .i64 0), some (.bool false), some (.bool false), some (.pointer (some ⟨w.heap.size, 0, none⟩)), some (.bool false), some (.bool false), some (undef), some (undef), some (undef), some (undef), some (undef), some (undef), some (undef), some (undef), some (undef), none, none, none, none, none, none, none, none, none, none, none, none, none, none, none, none, none, none, none, none, none, none, none, none, none, none, none, none, none, none, none, none, none, none, none, none, none, none, none, none, none, none, none, none, none, none, none, none, none, none, none, none, none, none, none, none, none, none, none, none, none, none, none, none, none, none, none, none, none, none, none, none, none, none, none, none, none, none, none, none, none, none, none, none, none, none, none, none, none, none, none, none, none, none, none, none, none, none, none, none, none, none, none, none, none, none, none, none, none, none, none, none, none, none, none, none, some (undef)] (by
            simp only [Fr, Holes]
            repeat apply Exists.intro
            rfl) ?_
          intro a' hfr
          simp only [Fr, Holes] at hfr
          repeat (obtain ⟨_, hfr⟩ := hfr)
          refine wp_region_noPanic ?_
          refine wp_region_held_drew (S := fun W => Below w5.heap.size w5 W) (by kernel_rfl) (bl_drew (Below.refl _ _)) (fun hS => ?_)
          refine take_at 0 65 (v := ?vN0) (by simp only [List.getElem?_toArray, List.getElem?_cons_zero]; rfl) rfl (by kernel_rfl) (by kernel_rfl) (by kernel_rfl) (fun _ _ _ h => h) (Or.inl ⟨by rfl, ?yN0⟩) hS ?_
          case yN0 =>
            intro W hSW
            (try dsimp only at hSW)
            go_simp
            first | done | with_reducible rfl
          simp only [Act.put, List.setIfInBounds_toArray, List.set_cons_zero, List.set_cons_succ]
          refine take_at 1 66 (v := .bool false) (by simp only [List.getElem?_toArray, List.getElem?_cons_succ, List.getElem?_cons_zero]; rfl) rfl (by kernel_rfl) (by kernel_rfl) (by kernel_rfl) (fun _ _ _ h => h) (Or.inl ⟨by rfl, ?yN1⟩) hS ?_
          case yN1 =>
            intro W hSW
            (try dsimp only at hSW)
            go_simp
            first | done | with_reducible rfl | (simp [hne]; done)
          simp only [Act.put, List.setIfInBounds_toArray, List.set_cons_zero, List.set_cons_succ]
          refine take_at 2 67 (v := ?vN2) (by simp only [List.getElem?_toArray, List.getElem?_cons_succ, List.getElem?_cons_zero]; rfl) rfl (by kernel_rfl) (by kernel_rfl) (by kernel_rfl) (fun _ _ _ h => h) (Or.inl ⟨by rfl, ?yN2⟩) hS ?_
          case yN2 =>
            intro W hSW
            (try dsimp only at hSW)
            go_simp
            first | done | with_reducible rfl
          simp only [Act.put, List.setIfInBounds_toArray, List.set_cons_zero, List.set_cons_succ]
          refine take_at 3 68 (v := undef) (by simp only [List.getElem?_toArray, List.getElem?_cons_succ, List.getElem?_cons_zero]; rfl) rfl (by kernel_rfl) (by kernel_rfl) (by kernel_rfl) (fun _ _ _ h => h) (Or.inr ⟨by rfl, rfl⟩) hS ?_
          simp only [Act.put, List.setIfInBounds_toArray, List.set_cons_zero, List.set_cons_succ]
          refine take_at 4 69 (v := undef) (by simp only [List.getElem?_toArray, List.getElem?_cons_succ, List.getElem?_cons_zero]; rfl) rfl (by kernel_rfl) (by kernel_rfl) (by kernel_rfl) (fun _ _ _ h => h) (Or.inr ⟨by rfl, rfl⟩) hS ?_
          simp only [Act.put, List.setIfInBounds_toArray, List.set_cons_zero, List.set_cons_succ]
          refine take_at 5 70 (v := undef) (by simp only [List.getElem?_toArray, List.getElem?_cons_succ, List.getElem?_cons_zero]; rfl) rfl (by kernel_rfl) (by kernel_rfl) (by kernel_rfl) (fun _ _ _ h => h) (Or.inr ⟨by rfl, rfl⟩) hS ?_
          simp only [Act.put, List.setIfInBounds_toArray, List.set_cons_zero, List.set_cons_succ]
          refine take_at 6 71 (v := undef) (by simp only [List.getElem?_toArray, List.getElem?_cons_succ, List.getElem?_cons_zero]; rfl) rfl (by kernel_rfl) (by kernel_rfl) (by kernel_rfl) (fun _ _ _ h => h) (Or.inr ⟨by rfl, rfl⟩) hS ?_
          simp only [Act.put, List.setIfInBounds_toArray, List.set_cons_zero, List.set_cons_succ]
          refine take_at 7 72 (v := undef) (by simp only [List.getElem?_toArray, List.getElem?_cons_succ, List.getElem?_cons_zero]; rfl) rfl (by kernel_rfl) (by kernel_rfl) (by kernel_rfl) (fun _ _ _ h => h) (Or.inr ⟨by rfl, rfl⟩) hS ?_
          simp only [Act.put, List.setIfInBounds_toArray, List.set_cons_zero, List.set_cons_succ]
          refine take_at 8 73 (v := undef) (by simp only [List.getElem?_toArray, List.getElem?_cons_succ, List.getElem?_cons_zero]; rfl) rfl (by kernel_rfl) (by kernel_rfl) (by kernel_rfl) (fun _ _ _ h => h) (Or.inr ⟨by rfl, rfl⟩) hS ?_
          simp only [Act.put, List.setIfInBounds_toArray, List.set_cons_zero, List.set_cons_succ]
          refine take_at 9 74 (v := undef) (by simp only [List.getElem?_toArray, List.getElem?_cons_succ, List.getElem?_cons_zero]; rfl) rfl (by kernel_rfl) (by kernel_rfl) (by kernel_rfl) (fun _ _ _ h => h) (Or.inr ⟨by rfl, rfl⟩) hS ?_
          simp only [Act.put, List.setIfInBounds_toArray, List.set_cons_zero, List.set_cons_succ]
          refine take_at 10 75 (v := undef) (by simp only [List.getElem?_toArray, List.getElem?_cons_succ, List.getElem?_cons_zero]; rfl) rfl (by kernel_rfl) (by kernel_rfl) (by kernel_rfl) (fun _ _ _ h => h) (Or.inr ⟨by rfl, rfl⟩) hS ?_
          simp only [Act.put, List.setIfInBounds_toArray, List.set_cons_zero, List.set_cons_succ]
          refine take_at 11 76 (v := undef) (by simp only [List.getElem?_toArray, List.getElem?_cons_succ, List.getElem?_cons_zero]; rfl) rfl (by kernel_rfl) (by kernel_rfl) (by kernel_rfl) (fun _ _ _ h => h) (Or.inr ⟨by rfl, rfl⟩) hS ?_
          simp only [Act.put, List.setIfInBounds_toArray, List.set_cons_zero, List.set_cons_succ]
          refine take_at 12 77 (v := undef) (by simp only [List.getElem?_toArray, List.getElem?_cons_succ, List.getElem?_cons_zero]; rfl) rfl (by kernel_rfl) (by kernel_rfl) (by kernel_rfl) (fun _ _ _ h => h) (Or.inr ⟨by rfl, rfl⟩) hS ?_
          simp only [Act.put, List.setIfInBounds_toArray, List.set_cons_zero, List.set_cons_succ]
          refine take_at 13 78 (v := undef) (by simp only [List.getElem?_toArray, List.getElem?_cons_succ, List.getElem?_cons_zero]; rfl) rfl (by kernel_rfl) (by kernel_rfl) (by kernel_rfl) (fun _ _ _ h => h) (Or.inr ⟨by rfl, rfl⟩) hS ?_
          simp only [Act.put, List.setIfInBounds_toArray, List.set_cons_zero, List.set_cons_succ]
          refine take_at 14 79 (v := undef) (by simp only [List.getElem?_toArray, List.getElem?_cons_succ, List.getElem?_cons_zero]; rfl) rfl (by kernel_rfl) (by kernel_rfl) (by kernel_rfl) (fun _ _ _ h => h) (Or.inr ⟨by rfl, rfl⟩) hS ?_
          simp only [Act.put, List.setIfInBounds_toArray, List.set_cons_zero, List.set_cons_succ]
          refine take_at 15 80 (v := undef) (by simp only [List.getElem?_toArray, List.getElem?_cons_succ, List.getElem?_cons_zero]; rfl) rfl (by kernel_rfl) (by kernel_rfl) (by kernel_rfl) (fun _ _ _ h => h) (Or.inr ⟨by rfl, rfl⟩) hS ?_
          simp only [Act.put, List.setIfInBounds_toArray, List.set_cons_zero, List.set_cons_succ]
          refine take_at 16 81 (v := undef) (by simp only [List.getElem?_toArray, List.getElem?_cons_succ, List.getElem?_cons_zero]; rfl) rfl (by kernel_rfl) (by kernel_rfl) (by kernel_rfl) (fun _ _ _ h => h) (Or.inr ⟨by rfl, rfl⟩) hS ?_
          simp only [Act.put, List.setIfInBounds_toArray, List.set_cons_zero, List.set_cons_succ]
          refine take_at 17 82 (v := undef) (by simp only [List.getElem?_toArray, List.getElem?_cons_succ, List.getElem?_cons_zero]; rfl) rfl (by kernel_rfl) (by kernel_rfl) (by kernel_rfl) (fun _ _ _ h => h) (Or.inr ⟨by rfl, rfl⟩) hS ?_
          simp only [Act.put, List.setIfInBounds_toArray, List.set_cons_zero, List.set_cons_succ]
          refine take_at 18 83 (v := undef) (by simp only [List.getElem?_toArray, List.getElem?_cons_succ, List.getElem?_cons_zero]; rfl) rfl (by kernel_rfl) (by kernel_rfl) (by kernel_rfl) (fun _ _ _ h => h) (Or.inr ⟨by rfl, rfl⟩) hS ?_
          simp only [Act.put, List.setIfInBounds_toArray, List.set_cons_zero, List.set_cons_succ]
          refine take_at 19 84 (v := undef) (by simp only [List.getElem?_toArray, List.getElem?_cons_succ, List.getElem?_cons_zero]; rfl) rfl (by kernel_rfl) (by kernel_rfl) (by kernel_rfl) (fun _ _ _ h => h) (Or.inr ⟨by rfl, rfl⟩) hS ?_
          simp only [Act.put, List.setIfInBounds_toArray, List.set_cons_zero, List.set_cons_succ]
          refine take_at 20 85 (v := undef) (by simp only [List.getElem?_toArray, List.getElem?_cons_succ, List.getElem?_cons_zero]; rfl) rfl (by kernel_rfl) (by kernel_rfl) (by kernel_rfl) (fun _ _ _ h => h) (Or.inr ⟨by rfl, rfl⟩) hS ?_
          simp only [Act.put, List.setIfInBounds_toArray, List.set_cons_zero, List.set_cons_succ]
          refine take_at 21 86 (v := ?vN21) (by simp only [List.getElem?_toArray, List.getElem?_cons_succ, List.getElem?_cons_zero]; rfl) rfl (by kernel_rfl) (by kernel_rfl) (by kernel_rfl) (fun _ _ _ h => h) (Or.inl ⟨by rfl, ?yN21⟩) hS ?_
          case yN21 =>
            intro W hSW
            (try dsimp only at hSW)
            go_simp
            first | done | with_reducible rfl
          simp only [Act.put, List.setIfInBounds_toArray, List.set_cons_zero, List.set_cons_succ]
          refine take_at 22 87 (v := ?vN22) (by simp only [List.getElem?_toArray, List.getElem?_cons_succ, List.getElem?_cons_zero]; rfl) rfl (by kernel_rfl) (by kernel_rfl) (by kernel_rfl) (fun _ _ _ h => h) (Or.inl ⟨by rfl, ?yN22⟩) hS ?_
          case yN22 =>
            intro W hSW
            (try dsimp only at hSW)
            go_simp
            first | done | with_reducible rfl
          simp only [Act.put, List.setIfInBounds_toArray, List.set_cons_zero, List.set_cons_succ]
          refine take_at 23 88 (v := ?vN23) (by simp only [List.getElem?_toArray, List.getElem?_cons_succ, List.getElem?_cons_zero]; rfl) rfl (by kernel_rfl) (by kernel_rfl) (by kernel_rfl) (fun _ _ _ h => h) (Or.inl ⟨by rfl, ?yN23⟩) hS ?_
          case yN23 =>
            intro W hSW
            (try dsimp only at hSW)
            go_simp
            first | done | with_reducible rfl
          simp only [Act.put, List.setIfInBounds_toArray, List.set_cons_zero, List.set_cons_succ]
          refine take_at 24 89 (v := .bool true) (by simp only [List.getElem?_toArray, List.getElem?_cons_succ, List.getElem?_cons_zero]; rfl) rfl (by kernel_rfl) (by kernel_rfl) (by kernel_rfl) (fun _ _ _ h => h) (Or.inl ⟨by rfl, ?yN24⟩) hS ?_
          case yN24 =>
            intro W hSW
            (try dsimp only at hSW)
            go_simp
            first | done | with_reducible rfl | (simp [hne]; done)
          simp only [Act.put, List.setIfInBounds_toArray, List.set_cons_zero, List.set_cons_succ]
          refine take_at 25 90 (v := ?vN25) (by simp only [List.getElem?_toArray, List.getElem?_cons_succ, List.getElem?_cons_zero]; rfl) rfl (by kernel_rfl) (by kernel_rfl) (by kernel_rfl) (fun _ _ _ h => h) (Or.inl ⟨by rfl, ?yN25⟩) hS ?_
          case yN25 =>
            intro W hSW
            (try dsimp only at hSW)
            go_simp
            first | done | with_reducible rfl
          simp only [Act.put, List.setIfInBounds_toArray, List.set_cons_zero, List.set_cons_succ]
          refine take_at 26 91 (v := ?vN26) (by simp only [List.getElem?_toArray, List.getElem?_cons_succ, List.getElem?_cons_zero]; rfl) rfl (by kernel_rfl) (by kernel_rfl) (by kernel_rfl) (fun _ _ _ h => h) (Or.inl ⟨by rfl, ?yN26⟩) hS ?_
          case yN26 =>
            intro W hSW
            (try dsimp only at hSW)
            go_simp
            first | done | with_reducible rfl
          simp only [Act.put, List.setIfInBounds_toArray, List.set_cons_zero, List.set_cons_succ]
          refine take_at 28 93 (v := ?vN28) (by simp only [List.getElem?_toArray, List.getElem?_cons_succ, List.getElem?_cons_zero]; rfl) rfl (by kernel_rfl) (by kernel_rfl) (by kernel_rfl) (fun _ _ _ h => h) (Or.inl ⟨by rfl, ?yN28⟩) hS ?_
          case yN28 =>
            intro W hSW
            (try dsimp only at hSW)
            go_simp
            first | done | with_reducible rfl
          simp only [Act.put, List.setIfInBounds_toArray, List.set_cons_zero, List.set_cons_succ]
          refine wpAnyH_ready (rs := [27]) (by kernel_rfl) (by simp) ?_
          refine AllReadyH.cons rfl (fun K hK => ?_) AllReadyH.nil
          go_simp
          refine (HBY.out _ (HQ5.out.later hS)).mono ?_
          rintro e v1 ⟨rfl, g1⟩
          try go_simp
          refine hK.out _ _ (bl_step hS g1) (fun hS => ?_)
          clear hK K
          try simp only [Act.put, List.setIfInBounds_toArray, List.set_cons_zero, List.set_cons_succ]
          have hBv1 : Below w5.heap.size w5 v1 := hS
          refine wpAnyH_more (S' := fun W => Below v1.heap.size v1 W) ?_ (fun _ h => bl_step hBv1 h)
          clear hS
          have hS : (fun W => Below v1.heap.size v1 W) v1 := Below.refl _ _
          refine take_at 29 94 (v := ?vN29) (by simp only [List.getElem?_toArray, List.getElem?_cons_succ, List.getElem?_cons_zero]; rfl) rfl (by kernel_rfl) (by kernel_rfl) (by kernel_rfl) (fun _ _ _ h => h) (Or.inl ⟨by rfl, ?yN29⟩) hS ?_
          case yN29 =>
            intro W hSW
            (try dsimp only at hSW)
            go_simp
            first | done | with_reducible rfl
          simp only [Act.put, List.setIfInBounds_toArray, List.set_cons_zero, List.set_cons_succ]
          refine take_at 30 95 (v := ?vN30) (by simp only [List.getElem?_toArray, List.getElem?_cons_succ, List.getElem?_cons_zero]; rfl) rfl (by kernel_rfl) (by kernel_rfl) (by kernel_rfl) (fun _ _ _ h => h) (Or.inl ⟨by rfl, ?yN30⟩) hS ?_
          case yN30 =>
            intro W hSW
            (try dsimp only at hSW)
            go_simp
            first | done | with_reducible rfl
          simp only [Act.put, List.setIfInBounds_toArray, List.set_cons_zero, List.set_cons_succ]
          refine take_at 31 96 (v := ?vN31) (by simp only [List.getElem?_toArray, List.getElem?_cons_succ, List.getElem?_cons_zero]; rfl) rfl (by kernel_rfl) (by kernel_rfl) (by kernel_rfl) (fun _ _ _ h => h) (Or.inl ⟨by rfl, ?yN31⟩) hS ?_
          case yN31 =>
            intro W hSW
            (try dsimp only at hSW)
            go_simp
            first | done | with_reducible rfl
          simp only [Act.put, List.setIfInBounds_toArray, List.set_cons_zero, List.set_cons_succ]
          refine take_at 34 99 (v := ?vN34) (by simp only [List.getElem?_toArray, List.getElem?_cons_succ, List.getElem?_cons_zero]; rfl) rfl (by kernel_rfl) (by kernel_rfl) (by kernel_rfl) (fun _ _ _ h => h) (Or.inl ⟨by rfl, ?yN34⟩) hS ?_
          case yN34 =>
            intro W hSW
            (try dsimp only at hSW)
            go_simp
            first | done | with_reducible rfl
          simp only [Act.put, List.setIfInBounds_toArray, List.set_cons_zero, List.set_cons_succ]
          refine wpAnyH_ready (rs := [32]) (by kernel_rfl) (by simp) ?_
          refine AllReadyH.cons rfl (fun K hK => ?_) AllReadyH.nil
          go_simp
          refine (HID.out _ ((HQ5.out.later hBv1))).mono ?_
          rintro e v2 ⟨gg, rfl, _, _, g2⟩
          try go_simp
          refine hK.out _ _ (bl_step hS g2) (fun hS => ?_)
          clear hK K
          try simp only [Act.put, List.setIfInBounds_toArray, List.set_cons_zero, List.set_cons_succ]
          have hBv2 : Below v1.heap.size v1 v2 := hS
          refine wpAnyH_more (S' := fun W => Below v2.heap.size v2 W) ?_ (fun _ h => bl_step hBv2 h)
          clear hS
          have hS : (fun W => Below v2.heap.size v2 W) v2 := Below.refl _ _
          refine take_at 33 98 (v := ?vN33) (by simp only [List.getElem?_toArray, List.getElem?_cons_succ, List.getElem?_cons_zero]; rfl) rfl (by kernel_rfl) (by kernel_rfl) (by kernel_rfl) (fun _ _ _ h => h) (Or.inl ⟨by rfl, ?yN33⟩) hS ?_
          case yN33 =>
            intro W hSW
            (try dsimp only at hSW)
            go_simp
            first | done | with_reducible rfl
          simp only [Act.put, List.setIfInBounds_toArray, List.set_cons_zero, List.set_cons_succ]
          refine take_at 35 100 (v := ?vN35) (by simp only [List.getElem?_toArray, List.getElem?_cons_succ, List.getElem?_cons_zero]; rfl) rfl (by kernel_rfl) (by kernel_rfl) (by kernel_rfl) (fun _ _ _ h => h) (Or.inl ⟨by rfl, ?yN35⟩) hS ?_
          case yN35 =>
            intro W hSW
            (try dsimp only at hSW)
            go_simp
            first | done | with_reducible rfl
          simp only [Act.put, List.setIfInBounds_toArray, List.set_cons_zero, List.set_cons_succ]
          refine take_at 36 101 (v := ?vN36) (by simp only [List.getElem?_toArray, List.getElem?_cons_succ, List.getElem?_cons_zero]; rfl) rfl (by kernel_rfl) (by kernel_rfl) (by kernel_rfl) (fun _ _ _ h => h) (Or.inl ⟨by rfl, ?yN36⟩) hS ?_
          case yN36 =>
            intro W hSW
            (try dsimp only at hSW)
            go_simp
            first | done | with_reducible rfl
          simp only [Act.put, List.setIfInBounds_toArray, List.set_cons_zero, List.set_cons_succ]
          refine take_at 37 102 (v := ?vN37) (by simp only [List.getElem?_toArray, List.getElem?_cons_succ, List.getElem?_cons_zero]; rfl) rfl (by kernel_rfl) (by kernel_rfl) (by kernel_rfl) (fun _ _ _ h => h) (Or.inl ⟨by rfl, ?yN37⟩) hS ?_
          case yN37 =>
            intro W hSW
            (try dsimp only at hSW)
            go_simp
            first | done | with_reducible rfl
          simp only [Act.put, List.setIfInBounds_toArray, List.set_cons_zero, List.set_cons_succ]
          refine take_at 38 103 (v := ?vN38) (by simp only [List.getElem?_toArray, List.getElem?_cons_succ, List.getElem?_cons_zero]; rfl) rfl (by kernel_rfl) (by kernel_rfl) (by kernel_rfl) (fun _ _ _ h => h) (Or.inl ⟨by rfl, ?yN38⟩) hS ?_
          case yN38 =>
            intro W hSW
            (try dsimp only at hSW)
            go_simp
            first | done | with_reducible rfl
          simp only [Act.put, List.setIfInBounds_toArray, List.set_cons_zero, List.set_cons_succ]
          refine take_at 39 104 (v := ?vN39) (by simp only [List.getElem?_toArray, List.getElem?_cons_succ, List.getElem?_cons_zero]; rfl) rfl (by kernel_rfl) (by kernel_rfl) (by kernel_rfl) (fun _ _ _ h => h) (Or.inl ⟨by rfl, ?yN39⟩) hS ?_
          case yN39 =>
            intro W hSW
            (try dsimp only at hSW)
            go_simp
            first | done | with_reducible rfl
          simp only [Act.put, List.setIfInBounds_toArray, List.set_cons_zero, List.set_cons_succ]
          refine take_at 40 105 (v := ?vN40) (by simp only [List.getElem?_toArray, List.getElem?_cons_succ, List.getElem?_cons_zero]; rfl) rfl (by kernel_rfl) (by kernel_rfl) (by kernel_rfl) (fun _ _ _ h => h) (Or.inl ⟨by rfl, ?yN40⟩) hS ?_
          case yN40 =>
            intro W hSW
            (try dsimp only at hSW)
            go_simp
            first | done | with_reducible rfl
          simp only [Act.put, List.setIfInBounds_toArray, List.set_cons_zero, List.set_cons_succ]
          refine take_at 41 106 (v := ?vN41) (by simp only [List.getElem?_toArray, List.getElem?_cons_succ, List.getElem?_cons_zero]; rfl) rfl (by kernel_rfl) (by kernel_rfl) (by kernel_rfl) (fun _ _ _ h => h) (Or.inl ⟨by rfl, ?yN41⟩) hS ?_
          case yN41 =>
            intro W hSW
            (try dsimp only at hSW)
            go_simp
            first | done | with_reducible rfl
          simp only [Act.put, List.setIfInBounds_toArray, List.set_cons_zero, List.set_cons_succ]
          refine take_at 42 107 (v := ?vN42) (by simp only [List.getElem?_toArray, List.getElem?_cons_succ, List.getElem?_cons_zero]; rfl) rfl (by kernel_rfl) (by kernel_rfl) (by kernel_rfl) (fun _ _ _ h => h) (Or.inl ⟨by rfl, ?yN42⟩) hS ?_
          case yN42 =>
            intro W hSW
            (try dsimp only at hSW)
            go_simp
            first | done | with_reducible rfl
          simp only [Act.put, List.setIfInBounds_toArray, List.set_cons_zero, List.set_cons_succ]
          refine wpAnyH_done (by kernel_rfl) ?_ _
          refine NoPanic.normal ?_
          have HQ8a := Lib.hid ((HQ5.out.later hBv1).later hBv2)
          have HB8a := Lib.hid (bl_step (bl_step HB5.out hBv1) hBv2)
          clear hBv1 hBv2 hS
          go_wp2_with fail
          refine (HBY.out _ HQ8a.out).mono ?_
          rintro e v3 ⟨rfl, g3⟩
          have HQ8b := Lib.hid (HQ8a.out.later g3)
          have HB8b := Lib.hid (bl_step HB8a.out g3)
          clear g3 HQ8a HB8a
          go_wp2_with fail
          refine (HID.out _ HQ8b.out).mono ?_
          rintro e v4 ⟨gg4, rfl, _, _, g4⟩
          have HB8 := Lib.hid (bl_step HB8b.out g4)
          have HFA : Hid (Fair w.heap.size w.heap.size room (k + 1) v4) := Lib.hid ⟨last, ts, HQ8b.out.later g4, by omega, by rw [HBF.out]; omega, by rw [HNN.out]; omega, HIDS.out⟩
          clear g4 HQ8b HB8b HBY HID
          rcases Nat.lt_or_ge k gn.length with hg | hg
          · obtain ⟨b2, off2, rfl, hc2⟩ := HS2.out (by rw [length_bts]; omega)
            obtain ⟨g, hgk⟩ : ∃ g, gn[k]? = some g := ⟨_, List.getElem?_eq_getElem hg⟩
            have cg := kept_box HB8.out (hc2 k _ (bts_at hgk))
            clear hc2 hgk
            have hgi : (k : Int) < (gn.length : Int) := by omega
            go_wp2_with fail
            all_goals
              go_roundw
              case rel => exact ⟨k + 1, by omega, by omega, by go_num, HFA.out, HB8.out⟩
              case measure => simp [intOf]; omega
          · have hgd : decide ((k : Int) < (gn.length : Int)) = false := by simp; omega
            go_wp2_with fail
            go_roundw
            case rel => exact ⟨k + 1, by omega, by omega, by go_num, HFA.out, HB8.out⟩
            case measure => simp [intOf]; omega
    · have hlt' : L.length ≤ k ∨ 80 ≤ k := by omega
      clear hlt
      rcases Nat.lt_or_ge k L.length with hkl | hkl
      all_goals
        first
          | have h80 : 80 ≤ k := by omega
          | have h80 : k = L.length := by omega
        clear hlt'
        go_wp2_with (go_at_call 29; refine (alive4_any _).mono ?_; rintro e w7 ⟨rfl, hb7⟩)
        go_ret
        exact ⟨rfl, bl_step HBR.out hb7⟩
end Go.Proofs.Ytmaefeckkodllaa
