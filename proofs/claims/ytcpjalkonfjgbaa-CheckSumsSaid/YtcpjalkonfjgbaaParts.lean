/-
  CheckParts: cut anywhere, a sum goes on; what is closed is opened as it was, and has, with its sum, the sum 0: the law walked.
-/
import Derived.Test.YtcpjalkonfjgbaaCheckAlive
import Derived.Test.YtcpjalkonfjgbaaRefBytes
namespace Go.Proofs.Ytcpjalkonfjgbaa
open Go.RowKit

set_option maxRecDepth 100000 in
set_option maxHeartbeats 1600000 in
theorem parts_guard (A : Option Addr) (n cap : Nat) (at' : Int) (w : World) (h : 3000 < n ∨ at' < 0 ∨ (n : Int) < at') :
    Calls Try.prog 4 #[.slice A n cap, .int .i64 at'] w fun e w' => e = .returned (.bool true) ∧ Below w.heap.size w w' := by
  rcases Nat.lt_or_ge 3000 n with h1 | h1
  · have h1' : (3000 : Int) < (n : Int) := by omega
    clear h
    go_enter Try.func4, Try.ntmps4
    go_wp2_with (go_at_call 10; refine (calive_any _).mono ?_; rintro e w1 ⟨rfl, hb1⟩)
    go_ret
    exact ⟨rfl, hb1⟩
  · have h1' : ¬ (3000 : Int) < (n : Int) := by omega
    by_cases h2 : at' < 0
    · clear h
      go_enter Try.func4, Try.ntmps4
      go_wp2_with (go_at_call 10; refine (calive_any _).mono ?_; rintro e w1 ⟨rfl, hb1⟩)
      go_ret
      exact ⟨rfl, hb1⟩
    · have h3 : (n : Int) < at' := by omega
      clear h
      go_enter Try.func4, Try.ntmps4
      go_wp2_with (go_at_call 10; refine (calive_any _).mono ?_; rintro e w1 ⟨rfl, hb1⟩)
      go_ret
      exact ⟨rfl, hb1⟩

theorem src_later {w v : World} {A : Option Addr} {l : List Nat} (h : Src w A (bts l)) (hb : Below w.heap.size w v) : Src v A (bts l) := by
  intro h0
  obtain ⟨ad, rfl, hc⟩ := h h0
  refine ⟨ad, rfl, fun j u hu => ?_⟩
  have h1 := hc j u hu
  have hp : (ad.add j).block < w.heap.size := by
    rcases Nat.lt_or_ge (ad.add j).block w.heap.size with h2 | h2
    · exact h2
    · exfalso
      simp [World.cell?, Array.getElem?_eq_none h2] at h1
  exact (hb.cell hp).trans h1
theorem src_pre {w : World} {A : Option Addr} {l : List Nat} (k : Nat) (h : Src w A (bts l)) : Src w A (bts (l.take k)) := by
  intro h0
  have hl : (bts (l.take k)).length ≤ (bts l).length := by rw [length_bts, length_bts, List.length_take]; omega
  obtain ⟨ad, hA, hc⟩ := h (by omega)
  refine ⟨ad, hA, fun j u hu => hc j u ?_⟩
  have e : bts (l.take k) = (bts l).take k := by simp [bts, List.map_take]
  rw [e, List.getElem?_take] at hu
  split at hu
  · exact hu
  · cases hu
theorem src_post {w : World} {ad : Addr} {l : List Nat} (k : Nat) (h : Src w (some ad) (bts l)) : Src w (some (ad.add k)) (bts (l.drop k)) := by
  intro h0
  rw [length_bts, List.length_drop] at h0
  obtain ⟨ad', hA, hc⟩ := h (by rw [length_bts]; omega)
  injection hA with hA
  subst hA
  refine ⟨_, rfl, fun j u hu => ?_⟩
  rw [bts_drop, List.getElem?_drop] at hu
  have e : (ad.add k).add j = ad.add (k + j) := by
    unfold Addr.add
    by_cases h1 : k = 0
    · subst h1; simp
    · by_cases h2 : j = 0
      · subst h2; simp [h1]
      · simp [h1, h2, Nat.add_assoc]
  rw [e]
  exact hc _ _ hu
theorem conv_src {w : World} {ad : Addr} {c : Nat} {l : List Nat} (h : Src w (some ad) (bts l)) (hb : ∀ b ∈ l, b < 256) :
    (convert 23 9 (.slice (some ad) l.length c)).run Try.prog w = .ok (.string (strOf l)) w := by
  cases hl : l with
  | nil => exact run_convert_bytes_zero w 23 5 Try.underlying23 (by kernel_rfl) (some ad) c 9 (by kernel_rfl)
  | cons b0 r =>
    rw [← hl]
    obtain ⟨ad', hA, hc⟩ := h (by rw [length_bts, hl]; simp)
    injection hA with hA
    subst hA
    have hx := run_convert_bytes_back (P := Try.prog) w 23 9 5 ad c (l.map UInt8.ofNat) Try.underlying23 (by kernel_rfl) (by kernel_rfl) (fun j hj => by
      have hj' : j < l.length := by simpa using hj
      have h2 := hc j _ (bts_at (List.getElem?_eq_getElem hj'))
      rw [h2, List.getElem_map]
      have h3 : (UInt8.ofNat l[j]).toNat = l[j] := UInt8.toNat_ofNat_of_lt' (hb _ (List.getElem_mem hj'))
      rw [h3])
    rw [List.length_map] at hx
    exact hx

theorem open_closed {w : World} {g : Nat} {l : List Nat} (n : Nat) (hn : l.length = n) (hm : n ≤ 140737488351232) (h : Row w g 5 (bts (closed l)).toArray) (hb : ∀ b ∈ l, b < 256) :
    Calls Try.prog 11 #[.slice (some ⟨g, 0, none⟩) (n + 2 : Nat) (n + 2 : Nat)] w fun e w' => ∃ g', e = .returned (.tuple #[.slice (some ⟨g', 0, none⟩) n n, .int .i64 0]) ∧ w.heap.size ≤ g' ∧ Row w' g' 5 (bts l).toArray ∧ Below w.heap.size w w' := by
  have hlt := more_lt (s := 65535) (by omega) hb
  refine open_right n _ _ hn hm (Nat.le_refl _) w (row_src h) hb ?_ ?_ ?_
  · omega
  · omega
  · omega
theorem more_closed {l : List Nat} (hb : ∀ b ∈ l, b < 256) : more 65535 (closed l) = 0 := by
  unfold closed
  rw [more_append]
  exact more_own (more_lt (by omega) hb)

set_option maxRecDepth 100000 in
set_option maxHeartbeats 6400000 in
theorem parts_some (ad : Addr) (l : List Nat) (n cap a : Nat) (w : World) (hn : l.length = n) (h3 : n ≤ 3000) (ha : a ≤ n) (hc : n ≤ cap) (hs : Src w (some ad) (bts l)) (hb : ∀ b ∈ l, b < 256)
    (hs2 : ∀ W, Src W (some ad) (bts l) → Src W (some (ad.add a)) (bts (l.drop a))) (hca : ¬ cap = a) :
    Calls Try.prog 4 #[.slice (some ad) n cap, .int .i64 a] w fun e w' => e = .returned (.bool true) ∧ Below w.heap.size w w' := by
  have HN := Lib.hid hn
  have HB := Lib.hid hb
  have HSR := Lib.hid hs
  have HS2 := Lib.hid hs2
  have hn1 : ¬ (3000 : Int) < (n : Int) := by omega
  have hn2 : ¬ (a : Int) < 0 := by omega
  have hn3 : ¬ (n : Int) < (a : Int) := by omega
  have hac : a ≤ cap := by omega
  clear hn hb hs hs2
  go_enter Try.func4, Try.ntmps4
  go_wp2_with fail
  refine (close_any (cap := cap) n HN.out (by omega) w HSR.out HB.out).mono ?_
  rintro e w1 ⟨g1, rfl, hg1, hr1, hb1⟩
  have HR1 := Lib.hid hr1
  have HB1 := Lib.hid hb1
  clear hr1 hb1
  go_wp2_with fail
  refine (open_closed n HN.out (by omega) HR1.out HB.out).mono ?_
  rintro e w2 ⟨g2, rfl, hg2, hr2, hb2⟩
  have HR2 := Lib.hid (And.intro (HR1.out.later hb2) hr2)
  have HB2 := Lib.hid (bl_step HB1.out hb2)
  clear hr2 hb2 HR1 HB1 hg1 hg2
  go_wp2_with fail
  have hcv1 : ∀ W, Below w2.heap.size w2 W → (convert 23 9 (.slice (some ⟨g2, 0, none⟩) n n)).run Try.prog W = .ok (.string (strOf l)) W := fun W hW => by
    have := conv_src (c := n) (row_src (HR2.out.2.later hW)) HB.out
    rw [HN.out] at this
    exact this
  have hcv2 : ∀ W, Below w2.heap.size w2 W → (convert 23 9 (.slice (some ad) n cap)).run Try.prog W = .ok (.string (strOf l)) W := fun W hW => by
    have := conv_src (c := cap) (src_later HSR.out (bl_step HB2.out hW)) HB.out
    rw [HN.out] at this
    exact this
  have hk1 : more 65535 (closed l) = 0 := more_closed HB.out
  have hk2 : more (more 65535 (l.take a)) (l.drop a) = more 65535 l := by rw [← more_append, List.take_append_drop]
  have hk3 : more 65535 (l.take a) < 65536 := more_lt (by omega) fun x hx => HB.out x (List.mem_of_mem_take hx)
  have hk4 : more 65535 l < 65536 := more_lt (by omega) HB.out
  have HC1 := Lib.hid (fun W (hW : Below w2.heap.size w2 W) => (of_any (cap := cap) a (by rw [List.length_take, HN.out]; omega) (by unfold maxLen; omega) W (src_pre a (src_later HSR.out (bl_step HB2.out hW))) fun x hx => HB.out x (List.mem_of_mem_take hx)))
  have HC2 := Lib.hid (fun W (hW : Below w2.heap.size w2 W) => (more_any (cap := cap - a) (more 65535 (l.take a)) (n - a) (by rw [List.length_drop, HN.out]) hk3 (by unfold maxLen; omega) W (HS2.out W (src_later HSR.out (bl_step HB2.out hW))) fun x hx => HB.out x (List.mem_of_mem_drop hx)))
  have HC3 := Lib.hid (fun W (hW : Below w2.heap.size w2 W) => (of_any (cap := cap) n HN.out (by unfold maxLen; omega) W (src_later HSR.out (bl_step HB2.out hW)) HB.out))
  have HC4 := Lib.hid (fun W (hW : Below w2.heap.size w2 W) => (of_any (cap := n + 2) (n + 2) (by rw [length_closed, HN.out]) (by unfold maxLen; omega) W (row_src (HR2.out.1.later hW)) (closed_lt HB.out)))
  rw [hk2] at HC2
  rw [hk1] at HC4
  generalize more 65535 l = s at *
  generalize more 65535 (l.take a) = s1 at *
  generalize strOf l = st at *
  have d1 := hcv1 w2.drew (bl_drew (Below.refl _ _))
  have d2 := hcv2 w2.drew (bl_drew (Below.refl _ _))
  have HV1 := Lib.hid hcv1
  have HV2 := Lib.hid hcv2
  have hzz : ((0 : Nat) : Int) = 0 := rfl
  clear hcv1 hcv2 hk1 hk2
  go_region_held3 (fun w' => (convert 23 9 (.slice (some ⟨g2, 0, none⟩) n n)).run Try.prog w' = .ok (.string st) w' ∧ (convert 23 9 (.slice (some ad) n cap)).run Try.prog w' = .ok (.string st) w') (go_keep) (first
    | (go_at_call 10; (with_reducible refine (calive_any _).mono ?_); rintro e v1 ⟨rfl, hv1⟩; have HW := Lib.hid (bl_step (bl_drew (Below.refl w2.heap.size w2)) hv1); have e1 := HV1.out v1 HW.out; have e2 := HV2.out v1 HW.out)
    | (go_at_call 13; (with_reducible refine (HC1.out _ HW.out).mono ?_); rintro e v2 ⟨rfl, rfl⟩)
    | (go_at_call 15; (with_reducible refine (HC2.out _ HW.out).mono ?_); rintro e v3 ⟨rfl, rfl⟩)
    | (go_at_call 13; (with_reducible refine (HC3.out _ HW.out).mono ?_); rintro e v4 ⟨rfl, rfl⟩)
    | (go_at_call 13; (with_reducible refine (HC4.out _ HW.out).mono ?_); rintro e v5 ⟨rfl, rfl⟩))
  go_wp2
  go_ret
  exact ⟨rfl, bl_step HB2.out HW.out⟩

set_option maxRecDepth 100000 in
set_option maxHeartbeats 6400000 in
theorem parts_end (ad : Addr) (l : List Nat) (n : Nat) (w : World) (hn : l.length = n) (h3 : n ≤ 3000) (hs : Src w (some ad) (bts l)) (hb : ∀ b ∈ l, b < 256) :
    Calls Try.prog 4 #[.slice (some ad) n n, .int .i64 n] w fun e w' => e = .returned (.bool true) ∧ Below w.heap.size w w' := by
  have HN := Lib.hid hn
  have HB := Lib.hid hb
  have HSR := Lib.hid hs
  have hn1 : ¬ (3000 : Int) < (n : Int) := by omega
  have hn2 : ¬ (n : Int) < 0 := by omega
  have hn3 : ¬ (n : Int) < (n : Int) := by omega
  clear hn hb hs
  go_enter Try.func4, Try.ntmps4
  go_wp2_with fail
  refine (close_any (cap := n) n HN.out (by omega) w HSR.out HB.out).mono ?_
  rintro e w1 ⟨g1, rfl, hg1, hr1, hb1⟩
  have HR1 := Lib.hid hr1
  have HB1 := Lib.hid hb1
  clear hr1 hb1
  go_wp2_with fail
  refine (open_closed n HN.out (by omega) HR1.out HB.out).mono ?_
  rintro e w2 ⟨g2, rfl, hg2, hr2, hb2⟩
  have HR2 := Lib.hid (And.intro (HR1.out.later hb2) hr2)
  have HB2 := Lib.hid (bl_step HB1.out hb2)
  clear hr2 hb2 HR1 HB1 hg1 hg2
  go_wp2_with fail
  have hcv1 : ∀ W, Below w2.heap.size w2 W → (convert 23 9 (.slice (some ⟨g2, 0, none⟩) n n)).run Try.prog W = .ok (.string (strOf l)) W := fun W hW => by
    have := conv_src (c := n) (row_src (HR2.out.2.later hW)) HB.out
    rw [HN.out] at this
    exact this
  have hcv2 : ∀ W, Below w2.heap.size w2 W → (convert 23 9 (.slice (some ad) n n)).run Try.prog W = .ok (.string (strOf l)) W := fun W hW => by
    have := conv_src (c := n) (src_later HSR.out (bl_step HB2.out hW)) HB.out
    rw [HN.out] at this
    exact this
  have hk1 : more 65535 (closed l) = 0 := more_closed HB.out
  have hk4 : more 65535 l < 65536 := more_lt (by omega) HB.out
  have HC2 := Lib.hid (fun W (_ : Below w2.heap.size w2 W) => (more_any (A := some ad) (cap := 0) (l := []) (more 65535 l) 0 rfl hk4 (by unfold maxLen; omega) W (fun h0 => absurd h0 (by simp [bts])) (by simp)))
  rw [show more (more 65535 l) [] = more 65535 l from rfl] at HC2
  have HC3 := Lib.hid (fun W (hW : Below w2.heap.size w2 W) => (of_any (cap := n) n HN.out (by unfold maxLen; omega) W (src_later HSR.out (bl_step HB2.out hW)) HB.out))
  have HC4 := Lib.hid (fun W (hW : Below w2.heap.size w2 W) => (of_any (cap := n + 2) (n + 2) (by rw [length_closed, HN.out]) (by unfold maxLen; omega) W (row_src (HR2.out.1.later hW)) (closed_lt HB.out)))
  rw [hk1] at HC4
  generalize more 65535 l = s at *
  generalize strOf l = st at *
  have d1 := hcv1 w2.drew (bl_drew (Below.refl _ _))
  have d2 := hcv2 w2.drew (bl_drew (Below.refl _ _))
  have HV1 := Lib.hid hcv1
  have HV2 := Lib.hid hcv2
  have hzz : ((0 : Nat) : Int) = 0 := rfl
  clear hcv1 hcv2 hk1
  go_region_held3 (fun w' => (convert 23 9 (.slice (some ⟨g2, 0, none⟩) n n)).run Try.prog w' = .ok (.string st) w' ∧ (convert 23 9 (.slice (some ad) n n)).run Try.prog w' = .ok (.string st) w') (go_keep) (first
    | (go_at_call 10; (with_reducible refine (calive_any _).mono ?_); rintro e v1 ⟨rfl, hv1⟩; have HW := Lib.hid (bl_step (bl_drew (Below.refl w2.heap.size w2)) hv1); have e1 := HV1.out v1 HW.out; have e2 := HV2.out v1 HW.out)
    | (go_at_call 15; (with_reducible refine (HC2.out _ HW.out).mono ?_); rintro e v3 ⟨rfl, rfl⟩)
    | (go_at_call 13; (with_reducible refine (HC3.out _ HW.out).mono ?_); rintro e v4 ⟨rfl, rfl⟩)
    | (go_at_call 13; (with_reducible refine (HC4.out _ HW.out).mono ?_); rintro e v5 ⟨rfl, rfl⟩))
  go_wp2
  go_ret
  exact ⟨rfl, bl_step HB2.out HW.out⟩

set_option maxRecDepth 100000 in
set_option maxHeartbeats 6400000 in
theorem parts_none (w : World) :
    Calls Try.prog 4 #[.slice none 0 0, .int .i64 0] w fun e w' => e = .returned (.bool true) ∧ Below w.heap.size w w' := by
  have hn : ([] : List Nat).length = 0 := rfl
  have hs : Src w none (bts []) := fun h0 => absurd h0 (by simp [bts])
  have hb : ∀ b ∈ ([] : List Nat), b < 256 := by simp
  have HN := Lib.hid hn
  have HB := Lib.hid hb
  have HSR := Lib.hid hs
  clear hn hb hs
  go_enter Try.func4, Try.ntmps4
  go_wp2_with fail
  refine (close_any (cap := 0) 0 HN.out (by omega) w HSR.out HB.out).mono ?_
  rintro e w1 ⟨g1, rfl, hg1, hr1, hb1⟩
  have HR1 := Lib.hid hr1
  have HB1 := Lib.hid hb1
  clear hr1 hb1
  go_wp2_with fail
  refine (open_closed 0 HN.out (by omega) HR1.out HB.out).mono ?_
  rintro e w2 ⟨g2, rfl, hg2, hr2, hb2⟩
  have HR2 := Lib.hid (And.intro (HR1.out.later hb2) hr2)
  have HB2 := Lib.hid (bl_step HB1.out hb2)
  clear hr2 hb2 HR1 HB1 hg1 hg2
  go_wp2_with fail
  have hcv1 : ∀ W, Below w2.heap.size w2 W → (convert 23 9 (.slice (some ⟨g2, 0, none⟩) 0 0)).run Try.prog W = .ok (.string (strOf ([] : List Nat))) W := fun W hW => by
    have := conv_src (c := 0) (row_src (HR2.out.2.later hW)) HB.out
    rw [HN.out] at this
    exact this
  have hcv2 : ∀ W, Below w2.heap.size w2 W → (convert 23 9 (.slice none 0 0)).run Try.prog W = .ok (.string (strOf ([] : List Nat))) W := fun W hW => by
    have := run_convert_bytes_zero W 23 5 Try.underlying23 (by kernel_rfl) none 0 9 (by kernel_rfl)
    exact this
  have hk1 : more 65535 (closed ([] : List Nat)) = 0 := more_closed HB.out
  have hk4 : more 65535 ([] : List Nat) < 65536 := more_lt (by omega) HB.out
  have HC2 := Lib.hid (fun W (_ : Below w2.heap.size w2 W) => (more_any (A := none) (cap := 0) (l := []) (more 65535 ([] : List Nat)) 0 rfl hk4 (by unfold maxLen; omega) W (fun h0 => absurd h0 (by simp [bts])) (by simp)))
  rw [show more (more 65535 ([] : List Nat)) [] = more 65535 ([] : List Nat) from rfl] at HC2
  have HC3 := Lib.hid (fun W (hW : Below w2.heap.size w2 W) => (of_any (cap := 0) 0 HN.out (by unfold maxLen; omega) W (src_later HSR.out (bl_step HB2.out hW)) HB.out))
  have HC4 := Lib.hid (fun W (hW : Below w2.heap.size w2 W) => (of_any (cap := 2) 2 (by rw [length_closed, HN.out]) (by unfold maxLen; omega) W (row_src (HR2.out.1.later hW)) (closed_lt HB.out)))
  rw [hk1] at HC4
  generalize more 65535 ([] : List Nat) = s at *
  generalize strOf ([] : List Nat) = st at *
  have d1 := hcv1 w2.drew (bl_drew (Below.refl _ _))
  have d2 := hcv2 w2.drew (bl_drew (Below.refl _ _))
  have HV1 := Lib.hid hcv1
  have HV2 := Lib.hid hcv2
  have hzz : ((0 : Nat) : Int) = 0 := rfl
  clear hcv1 hcv2 hk1
  go_region_held3 (fun w' => (convert 23 9 (.slice (some ⟨g2, 0, none⟩) 0 0)).run Try.prog w' = .ok (.string st) w' ∧ (convert 23 9 (.slice none 0 0)).run Try.prog w' = .ok (.string st) w') (go_keep) (first
    | (go_at_call 10; (with_reducible refine (calive_any _).mono ?_); rintro e v1 ⟨rfl, hv1⟩; have HW := Lib.hid (bl_step (bl_drew (Below.refl w2.heap.size w2)) hv1); have e1 := HV1.out v1 HW.out; have e2 := HV2.out v1 HW.out)
    | (go_at_call 15; (with_reducible refine (HC2.out _ HW.out).mono ?_); rintro e v3 ⟨rfl, rfl⟩)
    | (go_at_call 13; (with_reducible refine (HC3.out _ HW.out).mono ?_); rintro e v4 ⟨rfl, rfl⟩)
    | (go_at_call 13; (with_reducible refine (HC4.out _ HW.out).mono ?_); rintro e v5 ⟨rfl, rfl⟩))
  go_wp2
  go_ret
  exact ⟨rfl, bl_step HB2.out HW.out⟩


theorem parts_all (A : Option Addr) (l : List Nat) (cap : Nat) (a1 : Int) (w : World) (hcap : l.length ≤ cap) (hs : Src w A (bts l)) (hb : ∀ b ∈ l, b < 256) (hA : (A = none ∧ cap = 0 ∧ l = []) ∨ ∃ ad, A = some ad) :
    Calls Try.prog 4 #[.slice A l.length cap, .int .i64 a1] w fun e w' => e = .returned (.bool true) ∧ Below w.heap.size w w' := by
  by_cases hg : 3000 < l.length ∨ a1 < 0 ∨ (l.length : Int) < a1
  · exact parts_guard A l.length cap a1 w hg
  · obtain ⟨a, rfl⟩ : ∃ a : Nat, a1 = a := ⟨a1.toNat, by omega⟩
    rcases hA with ⟨rfl, rfl, rfl⟩ | ⟨ad, rfl⟩
    · obtain rfl : a = 0 := by simp at hg; omega
      exact parts_none w
    · by_cases hca : cap = a
      · have h1 : l.length = a := by omega
        subst hca
        rw [h1]
        exact parts_end ad l cap w h1 (by omega) hs hb
      · exact parts_some ad l l.length cap a w rfl (by omega) (by omega) hcap hs hb (fun W h => src_post a h) hca
end Go.Proofs.Ytcpjalkonfjgbaa
