/-
  TimersLive: whatever is started and stopped, tick by tick timers tell what the document says; a set that is nil, or that no call made, says so.
-/
import Derived.Test.YtieokmmejdngcaaTimerRef3
import Derived.Deep.Cut
import Derived.Deep.MidRow

namespace Go.Proofs.Ytieokmmejdngcaa
open Go.RowKit

def Z8 : Array Value := #[.int .i64 0, .int .i64 0, .int .i64 0, .int .i64 0, .int .i64 0, .int .i64 0, .int .i64 0, .int .i64 0]
theorem XRep.there {w : World} {p : Nat} {now : Int} {L : List Int} (h : XRep w p now L) : w.there p 1 Z8.size := fun j hj => by
  obtain ⟨x, hx, _⟩ := h.has (k := j) hj
  rw [h.at hx]
  exact ⟨rfl, h.free _⟩
theorem XRep.cleared {w : World} {p : Nat} {now : Int} {L : List Int} (h : XRep w p now L) : XRep (w.setCells p 1 Z8.toList) p now (clearL L) ∧ Only (isP p) w (w.setCells p 1 Z8.toList) := by
  constructor
  · have h8 := ((((((((h.set 0 (x := 0) (by omega) (by omega)).set 1 (x := 0) (by omega) (by omega)).set 2 (x := 0) (by omega) (by omega)).set 3 (x := 0) (by omega) (by omega)).set 4 (x := 0) (by omega) (by omega)).set 5 (x := 0) (by omega) (by omega)).set 6 (x := 0) (by omega) (by omega)).set 7 (x := 0) (by omega) (by omega))
    have e : ((((((((L.set 0 0).set 1 0).set 2 0).set 3 0).set 4 0).set 5 0).set 6 0).set 7 0) = clearL L := by
      have hb := h.2.1
      match L, h.1 with
      | [a, b, c, d, e, f, g, i], _ =>
        have k1 := hb a (by simp); have k2 := hb b (by simp); have k3 := hb c (by simp); have k4 := hb d (by simp)
        have k5 := hb e (by simp); have k6 := hb f (by simp); have k7 := hb g (by simp); have k8 := hb i (by simp)
        have z : ∀ x : Int, 0 ≤ x → (if 0 < x then 0 else x) = 0 := fun x hx => by split <;> omega
        simp only [clearL, List.map_cons, List.map_nil, z _ k1.1, z _ k2.1, z _ k3.1, z _ k4.1, z _ k5.1, z _ k6.1, z _ k7.1, z _ k8.1]
        rfl
    rw [e] at h8
    exact h8
  · have o1 := wrote_at w p 1 (.int .i64 0)
    exact (((((((((Only.refl (isP p) w).set (p := ⟨p, 1, none⟩) (.inl rfl) (.int .i64 0)).set (p := ⟨p, 2, none⟩) (.inl rfl) (.int .i64 0)).set (p := ⟨p, 3, none⟩) (.inl rfl) (.int .i64 0)).set (p := ⟨p, 4, none⟩) (.inl rfl) (.int .i64 0)).set (p := ⟨p, 5, none⟩) (.inl rfl) (.int .i64 0)).set (p := ⟨p, 6, none⟩) (.inl rfl) (.int .i64 0)).set (p := ⟨p, 7, none⟩) (.inl rfl) (.int .i64 0)).set (p := ⟨p, 8, none⟩) (.inl rfl) (.int .i64 0))

def Both (w : World) (p x : Nat) (now : Int) (L : List Int) : Prop := TRep w p L ∧ XRep w x now L
section
variable {w v : World} {p x : Nat} {now : Int} {L : List Int}
theorem Both.later (h : Both w p x now L) (hb : Below w.heap.size w v) : Both v p x now L := ⟨h.1.later hb, h.2.later hb⟩
theorem Both.ne (h : Both w p x now L) : p ≠ x := h.1.2.2.apart h.2.2.2.2.2 (by decide)
end

def RunX (B p x : Nat) (now : Int) (L : List Int) (k : Nat) (v : Value) (w : World) : Prop := RunInv B p L k v w ∧ XRep w x now L
theorem RunX.drewN {B p x k q : Nat} {now : Int} {L : List Int} {v : Value} {w w' : World} (h : RunX B p x now L k v w) (hw : w' = w.drewN q) : RunX B p x now L k v w' := by
  subst hw
  exact h
theorem XRep.below {w v : World} {p B : Nat} {now : Int} {L : List Int} (h : XRep w p now L) (hp : p < B) (hb : Below B w v) : XRep v p now L :=
  ⟨h.1, h.2.1, h.2.2.1, h.2.2.2.1, (hb.block p hp).trans h.2.2.2.2⟩
theorem own_src {w : World} {B n c : Nat} {A : Option Addr} {l : List Int} (h : w.ownsRow B 3 1 (.slice A n c) n (l.map (fun x => Value.int .i64 x))) : ISrc w A l := fun i x hx => by
  have hl : 0 < n := by
    obtain ⟨h1, _⟩ := List.getElem?_eq_some_iff.1 hx
    have := h.1
    simp at this
    omega
  obtain ⟨g, cap, hv, _, _⟩ := h.form hl
  injection hv with hv _ _
  refine ⟨g, hv, ?_⟩
  subst hv
  have := h.cells (g := g) rfl i (.int .i64 x) (by rw [List.getElem?_map, hx]; rfl)
  rw [show (⟨g, 0, none⟩ : Addr).add i = ⟨g, i, none⟩ by unfold Addr.add; split <;> simp_all] at this
  exact this
theorem ISrc.later {w v : World} {A : Option Addr} {l : List Int} (h : ISrc w A l) (hb : Below w.heap.size w v) : ISrc v A l := fun i x hx => by
  obtain ⟨g, h1, h2⟩ := h i x hx
  exact ⟨g, h1, kept_box hb h2⟩

set_option maxRecDepth 100000 in
set_option maxHeartbeats 12800000 in
theorem live_walk (A : Option Addr) (l : List (Int × (Int × Int))) (cap : Nat) (w : World) (hs : OSrc w A l) :
    Calls Try.prog 3 #[.slice A l.length cap] w fun e w' => e = .returned (.bool true) ∧ Below w.heap.size w w' := by
  have HS := Lib.hid hs
  clear hs
  go_enter Try.func3, Try.ntmps3
  go_wp2_with fail
  refine (new_t _).mono ?_
  rintro e w1 ⟨rfl, h1, hb1⟩
  have hpw1 : w.heap.size < w1.heap.size := h1.inside
  have H1 := Lib.hid (show Both (w1.alloc (.cells (XCells 0 (List.replicate 8 0)) 28)) w.heap.size w1.heap.size 0 (List.replicate 8 0) from
    ⟨h1.later (bl_alloc (Below.refl _ _) _), rfl, h1.2.1, by omega, by omega, Row.made _ _ _⟩)
  have HB1 := Lib.hid (bl_alloc hb1 (.cells (XCells 0 (List.replicate 8 0)) 28))
  clear h1 hb1
  go_wp2_with fail
  generalize w1.heap.size = xb at *
  go_loopw [5] (fun jv wr => ∃ (j : Nat) (L : List Int) (now : Nat), j ≤ l.length ∧ j ≤ 300 ∧ now ≤ j ∧ jv = .int .i64 j ∧ Hid (Both wr w.heap.size xb now L) ∧ Hid (Below w.heap.size w wr)) (fun jv _ => l.length - (intOf jv).toNat)
  case atStart => exact ⟨0, _, 0, by omega, by omega, by omega, rfl, H1, HB1⟩
  case round =>
    obtain ⟨j, L, now, hjl, hj3, hnj, rfl, HI, HB⟩ := hrel
    clear H1 HB1
    have hne := HI.out.ne
    by_cases hlt : j < l.length ∧ j < 300
    · obtain ⟨hlt, hlt3⟩ := hlt
      obtain ⟨b, off, K, I, N, rfl, hl, hbw, c0, c1, c2⟩ := src_cell HS.out hlt
      have d0 := kept_box HB.out c0
      have d1 := kept_box HB.out c1
      have d2 := kept_box HB.out c2
      have hj0 : (0 : Int) ≤ (j : Int) := by omega
      have hj1 : (j : Int) < (l.length : Int) := by omega
      have hj2 : (j : Int) < 300 := by omega
      have hpx : w.heap.size < wr.heap.size := HI.out.1.inside
      have hxx : xb < wr.heap.size := HI.out.2.inside
      have HN3 := Lib.hid (show (now : Int) < 1000000 by omega)
      have HIA := Lib.hid (HI.out.later (bl_alloc (Below.refl _ _) (.cells #[.int .i64 K, .int .i64 I, .int .i64 N] 30)))
      have HBA := Lib.hid (bl_alloc HB.out (.cells #[.int .i64 K, .int .i64 I, .int .i64 N] 30))
      have e1 : (wr.alloc (.cells #[.int .i64 K, .int .i64 I, .int .i64 N] 30)).cell? ⟨wr.heap.size, 1, none⟩ = some (.int .i64 I) := by simp
      have e2 : (wr.alloc (.cells #[.int .i64 K, .int .i64 I, .int .i64 N] 30)).cell? ⟨wr.heap.size, 2, none⟩ = some (.int .i64 N) := by simp
      have E1 := Lib.hid e1
      have E2 := Lib.hid e2
      clear c0 c1 c2 hl e1 e2 HI HB
      have hcase : K = 0 ∨ K = 1 ∨ K = 2 ∨ K = 3 ∨ (K ≠ 0 ∧ K ≠ 1 ∧ K ≠ 2 ∧ K ≠ 3) := by omega
      rcases hcase with hK | hK | hK | hK | hK
      · subst hK
        go_wp2_with fail
        have hss : (SE I N == SE I N) = true := by simp
        go_region_held3 (fun w' => w'.cell? ⟨wr.heap.size, 1, none⟩ = some (.int .i64 I) ∧ w'.cell? ⟨wr.heap.size, 2, none⟩ = some (.int .i64 N)) (go_keep) (first
          | (go_at_call 11; refine (start_t _ _ _ (show TRep (wr.alloc (.cells #[.int .i64 0, .int .i64 I, .int .i64 N] 30)).drew w.heap.size L from HIA.out.1)).mono ?_; rintro e w7 ⟨rfl, h7, ho7⟩; have H7 := Lib.hid (And.intro h7 (XRep.only (show XRep (wr.alloc (.cells #[.int .i64 0, .int .i64 I, .int .i64 N] 30)).drew xb now L from HIA.out.2) ho7 (fun e => hne e.symm))); have HB7 := Lib.hid (HBA.out.drew.trans (ho7.below HBA.out.size (fun k hk e => by unfold isP at e; omega))); have q1 := cell_only (show (wr.alloc (.cells #[.int .i64 0, .int .i64 I, .int .i64 N] 30)).drew.cell? _ = _ from E1.out) ho7 (by unfold isP; omega); have q2 := cell_only (show (wr.alloc (.cells #[.int .i64 0, .int .i64 I, .int .i64 N] 30)).drew.cell? _ = _ from E2.out) ho7 (by unfold isP; omega); clear h7 ho7)
          | (go_at_call 12; refine (xstart_t _ _ _ H7.out.2).mono ?_; rintro e w8 ⟨rfl, h8, ho8⟩; have H8 := Lib.hid (show Both w8 w.heap.size xb now (SL L I N) from And.intro (H7.out.1.only ho8 hne) h8); have HB8 := Lib.hid (HB7.out.trans (ho8.below HB7.out.size (fun k hk e => by unfold isP at e; omega))); have r1 := cell_only q1 ho8 (by unfold isP; omega); have r2 := cell_only q2 ho8 (by unfold isP; omega); clear h8 ho8))
        clear hss
        have HH := H8
        have HBB := HB8
        have Q1 := Lib.hid r1
        clear H7 HB7 HIA HBA d0 d1 d2 H8 HB8 q1 q2 r1 r2
        go_wp2_with fail
        generalize wr.heap.size = bx at *
        have HR0 := Lib.hid (show RunX w8.heap.size w.heap.size xb ((now : Nat) : Int) (SL L I N) 0 (.slice none 0 0) w8 from ⟨⟨World.ownsRow_nil _ _ _ _, HH.out.1, Nat.le_refl _⟩, HH.out.2⟩)
        have hpW : w.heap.size < w8.heap.size := HH.out.1.inside
        have hxW : xb < w8.heap.size := HH.out.2.inside
        clear HH
        go_loopw [7, 8, 9] (fun fv v kv wq => ∃ k : Nat, k ≤ 8 ∧ fv = .bool true ∧ kv = .int .i64 k ∧ Hid (RunX w8.heap.size w.heap.size xb ((now : Nat) : Int) (SL L I N) k v wq) ∧ Hid (Below w8.heap.size w8 wq)) (fun _ _ kv _ => 8 - (intOf kv).toNat)
        case atStart => exact ⟨0, by omega, rfl, rfl, HR0, Lib.hid (Below.refl _ _)⟩
        case round =>
          obtain ⟨k, hk, rfl, rfl, HR, HQ⟩ := hrel
          clear HR0
          by_cases hk8 : k < 8
          · obtain ⟨x, hx, hx0, hx1⟩ := HR.out.1.2.1.has hk8
            have HV := Lib.hid (LV_at hk8 hx)
            have HX := Lib.hid hx
            have hxx : (x == x) = true := by simp
            have hki : (k : Int) < 8 := by omega
            have hki0 : (0 : Int) ≤ (k : Int) := by omega
            clear hx
            go_wp2_with fail
            refine (left_t _ _ HR.out.1.2.1).mono ?_
            rintro e w5 ⟨rfl, rfl⟩
            rw [HV.out]
            go_wp2_with fail
            refine (xleft_t _ _ HR.out.2).mono ?_
            rintro e w6 ⟨rfl, q6, hw6⟩
            rw [HV.out]
            have HR6 := Lib.hid (HR.out.drewN hw6)
            have HQ6 := Lib.hid (show Below w8.heap.size w8 w6 by rw [hw6]; exact below_drewN HQ.out q6)
            clear hw6 HR HQ
            go_wp2_with fail
            refine (xleft_t _ _ HR6.out.2).mono ?_
            rintro e w7 ⟨rfl, q7, hw7⟩
            rw [HV.out]
            have HR7 := Lib.hid (HR6.out.drewN hw7)
            have HQ7 := Lib.hid (show Below w8.heap.size w8 w7 by rw [hw7]; exact below_drewN HQ6.out q7)
            clear hw7 HR6 HQ6 hxx
            by_cases h0 : 0 < x
            · obtain ⟨A9, c9, rfl⟩ := HR7.out.1.form
              obtain ⟨g9, cap9, W9, hr9, hinv9, hb9⟩ := HR7.out.1.step hpW HX.out h0 hk8
              have HRun := Lib.hid hr9
              have HR9 := Lib.hid (show RunX w8.heap.size w.heap.size xb ((now : Nat) : Int) (SL L I N) (k + 1) (.slice (some ⟨g9, 0, none⟩) ((runF (SL L I N) k).length + 1) cap9) W9 from ⟨hinv9, HR7.out.2.below hxW hb9⟩)
              have HQ9 := Lib.hid (HQ7.out.trans hb9)
              clear hr9 hinv9 hb9
              go_wp2_with (at_builtin; refine wpList_run rfl (.tmp 90) (.tmp 92) 35 rfl (.slice A9 (runF (SL L I N) k).length c9) (.slice (some ⟨w7.heap.size, 0, none⟩) 1 1) (by rfl) (by rfl) HRun.out ?_)
              go_roundw
              case rel => exact ⟨k + 1, by omega, rfl, by go_num, HR9, HQ9⟩
              case measure => simp [intOf]; omega
            · have HR9 := Lib.hid (show RunX w8.heap.size w.heap.size xb ((now : Nat) : Int) (SL L I N) (k + 1) u8 w7 from by
                have h := HR7.out
                unfold RunX RunInv at h ⊢
                rw [runF_no HX.out h0]
                exact h)
              have h0b : decide (0 < x) = false := by simp; omega
              go_wp2
              go_roundw
              case rel => exact ⟨k + 1, by omega, rfl, by go_num, HR9, HQ7⟩
              case measure => simp [intOf]; omega
          · obtain rfl : k = 8 := by omega
            obtain ⟨A9, c9, rfl⟩ := HR.out.1.form
            have q1 := kept_box HQ.out Q1.out
            have HT9 := Lib.hid HR.out.1.2.1
            have HX9 := Lib.hid HR.out.2
            have HS9 := Lib.hid (own_src HR.out.1.1)
            have HB9 := Lib.hid (HBB.out.trans (HQ.out.mono (Nat.le_of_lt hpW)))
            have hle := runF_le (SL L I N) 8
            clear hk hk8 HR HQ
            go_wp2_with fail
            go_region_held3 (fun w' => w'.cell? ⟨bx, 1, none⟩ = some (.int .i64 I)) (go_keep) (first
              | (go_at_call 21; refine (running_t _ (show TRep wr.drew w.heap.size (SL L I N) from HT9.out)).mono ?_; rintro e w5 ⟨⟨u5, rfl, hu5⟩, hb5⟩; obtain ⟨A5, rfl, hr5⟩ := hu5.read; have HS5 := Lib.hid hu5.src; have HL5 := Lib.hid ((show ISrc wr.drew A9 (runF (SL L I N) 8) from HS9.out).later hb5); have HX5 := Lib.hid (show Both w5 w.heap.size xb ((now : Nat) : Int) (SL L I N) from ⟨(show TRep wr.drew w.heap.size (SL L I N) from HT9.out).later hb5, (show XRep wr.drew xb ((now : Nat) : Int) (SL L I N) from HX9.out).later hb5⟩); have HB5 := Lib.hid (bl_step (bl_drew HB9.out) hb5); have z1 := kept_box hb5 (show wr.drew.cell? _ = _ from q1); clear hb5 hu5 hr5)
              | (go_at_call 15; refine (same_t A5 A9 _ _ _ _ (by omega) HS5.out HL5.out).mono ?_; rintro e w6 ⟨rfl, q6, hw6⟩; have HX6 := Lib.hid (show Both w6 w.heap.size xb ((now : Nat) : Int) (SL L I N) by rw [hw6]; exact HX5.out); have HB6 := Lib.hid (show Below w.heap.size w w6 by rw [hw6]; exact below_drewN HB5.out q6); have z2 : w6.cell? ⟨bx, 1, none⟩ = some (.int .i64 I) := (by rw [hw6]; exact z1); clear hw6)
              | (go_at_call 19; refine (left_t _ _ HX6.out.1).mono ?_; rintro e w7 ⟨rfl, rfl⟩)
              | (go_at_call 20; refine (xleft_t _ _ HX6.out.2).mono ?_; rintro e w8 ⟨rfl, q8, hw8⟩; have HX8 := Lib.hid (show Both w8 w.heap.size xb ((now : Nat) : Int) (SL L I N) by rw [hw8]; exact HX6.out); have HB8 := Lib.hid (show Below w.heap.size w w8 by rw [hw8]; exact below_drewN HB6.out q8); have z3 : w8.cell? ⟨bx, 1, none⟩ = some (.int .i64 I) := (by rw [hw8]; exact z2); clear hw8))
            go_wp2
            go_roundw
            case rel => exact ⟨j + 1, _, now, by omega, by omega, by omega, by go_num, HX8, HB8⟩
            case measure => simp [intOf]; omega
      · subst hK
        go_wp2_with fail
        have hss : (FE I == FE I) = true := by simp
        go_region_held3 (fun w' => w'.cell? ⟨wr.heap.size, 1, none⟩ = some (.int .i64 I) ∧ w'.cell? ⟨wr.heap.size, 2, none⟩ = some (.int .i64 N)) (go_keep) (first
          | (go_at_call 13; refine (stop_t _ _ (show TRep (wr.alloc (.cells #[.int .i64 1, .int .i64 I, .int .i64 N] 30)).drew w.heap.size L from HIA.out.1)).mono ?_; rintro e w7 ⟨rfl, h7, ho7⟩; have H7 := Lib.hid (And.intro h7 (XRep.only (show XRep (wr.alloc (.cells #[.int .i64 1, .int .i64 I, .int .i64 N] 30)).drew xb now L from HIA.out.2) ho7 (fun e => hne e.symm))); have HB7 := Lib.hid (HBA.out.drew.trans (ho7.below HBA.out.size (fun k hk e => by unfold isP at e; omega))); have q1 := cell_only (show (wr.alloc (.cells #[.int .i64 1, .int .i64 I, .int .i64 N] 30)).drew.cell? _ = _ from E1.out) ho7 (by unfold isP; omega); have q2 := cell_only (show (wr.alloc (.cells #[.int .i64 1, .int .i64 I, .int .i64 N] 30)).drew.cell? _ = _ from E2.out) ho7 (by unfold isP; omega); clear h7 ho7)
          | (go_at_call 14; refine (xstop_t _ _ H7.out.2).mono ?_; rintro e w8 ⟨rfl, h8, ho8⟩; have H8 := Lib.hid (show Both w8 w.heap.size xb now (PL L I) from And.intro (H7.out.1.only ho8 hne) h8); have HB8 := Lib.hid (HB7.out.trans (ho8.below HB7.out.size (fun k hk e => by unfold isP at e; omega))); have r1 := cell_only q1 ho8 (by unfold isP; omega); have r2 := cell_only q2 ho8 (by unfold isP; omega); clear h8 ho8))
        clear hss
        have HH := H8
        have HBB := HB8
        have Q1 := Lib.hid r1
        clear H7 HB7 HIA HBA d0 d1 d2 H8 HB8 q1 q2 r1 r2
        go_wp2_with fail
        generalize wr.heap.size = bx at *
        have HR0 := Lib.hid (show RunX w8.heap.size w.heap.size xb ((now : Nat) : Int) (PL L I) 0 (.slice none 0 0) w8 from ⟨⟨World.ownsRow_nil _ _ _ _, HH.out.1, Nat.le_refl _⟩, HH.out.2⟩)
        have hpW : w.heap.size < w8.heap.size := HH.out.1.inside
        have hxW : xb < w8.heap.size := HH.out.2.inside
        clear HH
        go_loopw [7, 8, 9] (fun fv v kv wq => ∃ k : Nat, k ≤ 8 ∧ fv = .bool true ∧ kv = .int .i64 k ∧ Hid (RunX w8.heap.size w.heap.size xb ((now : Nat) : Int) (PL L I) k v wq) ∧ Hid (Below w8.heap.size w8 wq)) (fun _ _ kv _ => 8 - (intOf kv).toNat)
        case atStart => exact ⟨0, by omega, rfl, rfl, HR0, Lib.hid (Below.refl _ _)⟩
        case round =>
          obtain ⟨k, hk, rfl, rfl, HR, HQ⟩ := hrel
          clear HR0
          by_cases hk8 : k < 8
          · obtain ⟨x, hx, hx0, hx1⟩ := HR.out.1.2.1.has hk8
            have HV := Lib.hid (LV_at hk8 hx)
            have HX := Lib.hid hx
            have hxx : (x == x) = true := by simp
            have hki : (k : Int) < 8 := by omega
            have hki0 : (0 : Int) ≤ (k : Int) := by omega
            clear hx
            go_wp2_with fail
            refine (left_t _ _ HR.out.1.2.1).mono ?_
            rintro e w5 ⟨rfl, rfl⟩
            rw [HV.out]
            go_wp2_with fail
            refine (xleft_t _ _ HR.out.2).mono ?_
            rintro e w6 ⟨rfl, q6, hw6⟩
            rw [HV.out]
            have HR6 := Lib.hid (HR.out.drewN hw6)
            have HQ6 := Lib.hid (show Below w8.heap.size w8 w6 by rw [hw6]; exact below_drewN HQ.out q6)
            clear hw6 HR HQ
            go_wp2_with fail
            refine (xleft_t _ _ HR6.out.2).mono ?_
            rintro e w7 ⟨rfl, q7, hw7⟩
            rw [HV.out]
            have HR7 := Lib.hid (HR6.out.drewN hw7)
            have HQ7 := Lib.hid (show Below w8.heap.size w8 w7 by rw [hw7]; exact below_drewN HQ6.out q7)
            clear hw7 HR6 HQ6 hxx
            by_cases h0 : 0 < x
            · obtain ⟨A9, c9, rfl⟩ := HR7.out.1.form
              obtain ⟨g9, cap9, W9, hr9, hinv9, hb9⟩ := HR7.out.1.step hpW HX.out h0 hk8
              have HRun := Lib.hid hr9
              have HR9 := Lib.hid (show RunX w8.heap.size w.heap.size xb ((now : Nat) : Int) (PL L I) (k + 1) (.slice (some ⟨g9, 0, none⟩) ((runF (PL L I) k).length + 1) cap9) W9 from ⟨hinv9, HR7.out.2.below hxW hb9⟩)
              have HQ9 := Lib.hid (HQ7.out.trans hb9)
              clear hr9 hinv9 hb9
              go_wp2_with (at_builtin; refine wpList_run rfl (.tmp 90) (.tmp 92) 35 rfl (.slice A9 (runF (PL L I) k).length c9) (.slice (some ⟨w7.heap.size, 0, none⟩) 1 1) (by rfl) (by rfl) HRun.out ?_)
              go_roundw
              case rel => exact ⟨k + 1, by omega, rfl, by go_num, HR9, HQ9⟩
              case measure => simp [intOf]; omega
            · have HR9 := Lib.hid (show RunX w8.heap.size w.heap.size xb ((now : Nat) : Int) (PL L I) (k + 1) u8 w7 from by
                have h := HR7.out
                unfold RunX RunInv at h ⊢
                rw [runF_no HX.out h0]
                exact h)
              have h0b : decide (0 < x) = false := by simp; omega
              go_wp2
              go_roundw
              case rel => exact ⟨k + 1, by omega, rfl, by go_num, HR9, HQ7⟩
              case measure => simp [intOf]; omega
          · obtain rfl : k = 8 := by omega
            obtain ⟨A9, c9, rfl⟩ := HR.out.1.form
            have q1 := kept_box HQ.out Q1.out
            have HT9 := Lib.hid HR.out.1.2.1
            have HX9 := Lib.hid HR.out.2
            have HS9 := Lib.hid (own_src HR.out.1.1)
            have HB9 := Lib.hid (HBB.out.trans (HQ.out.mono (Nat.le_of_lt hpW)))
            have hle := runF_le (PL L I) 8
            clear hk hk8 HR HQ
            go_wp2_with fail
            go_region_held3 (fun w' => w'.cell? ⟨bx, 1, none⟩ = some (.int .i64 I)) (go_keep) (first
              | (go_at_call 21; refine (running_t _ (show TRep wr.drew w.heap.size (PL L I) from HT9.out)).mono ?_; rintro e w5 ⟨⟨u5, rfl, hu5⟩, hb5⟩; obtain ⟨A5, rfl, hr5⟩ := hu5.read; have HS5 := Lib.hid hu5.src; have HL5 := Lib.hid ((show ISrc wr.drew A9 (runF (PL L I) 8) from HS9.out).later hb5); have HX5 := Lib.hid (show Both w5 w.heap.size xb ((now : Nat) : Int) (PL L I) from ⟨(show TRep wr.drew w.heap.size (PL L I) from HT9.out).later hb5, (show XRep wr.drew xb ((now : Nat) : Int) (PL L I) from HX9.out).later hb5⟩); have HB5 := Lib.hid (bl_step (bl_drew HB9.out) hb5); have z1 := kept_box hb5 (show wr.drew.cell? _ = _ from q1); clear hb5 hu5 hr5)
              | (go_at_call 15; refine (same_t A5 A9 _ _ _ _ (by omega) HS5.out HL5.out).mono ?_; rintro e w6 ⟨rfl, q6, hw6⟩; have HX6 := Lib.hid (show Both w6 w.heap.size xb ((now : Nat) : Int) (PL L I) by rw [hw6]; exact HX5.out); have HB6 := Lib.hid (show Below w.heap.size w w6 by rw [hw6]; exact below_drewN HB5.out q6); have z2 : w6.cell? ⟨bx, 1, none⟩ = some (.int .i64 I) := (by rw [hw6]; exact z1); clear hw6)
              | (go_at_call 19; refine (left_t _ _ HX6.out.1).mono ?_; rintro e w7 ⟨rfl, rfl⟩)
              | (go_at_call 20; refine (xleft_t _ _ HX6.out.2).mono ?_; rintro e w8 ⟨rfl, q8, hw8⟩; have HX8 := Lib.hid (show Both w8 w.heap.size xb ((now : Nat) : Int) (PL L I) by rw [hw8]; exact HX6.out); have HB8 := Lib.hid (show Below w.heap.size w w8 by rw [hw8]; exact below_drewN HB6.out q8); have z3 : w8.cell? ⟨bx, 1, none⟩ = some (.int .i64 I) := (by rw [hw8]; exact z2); clear hw8))
            go_wp2
            go_roundw
            case rel => exact ⟨j + 1, _, now, by omega, by omega, by omega, by go_num, HX8, HB8⟩
            case measure => simp [intOf]; omega
      · subst hK
        go_wp2_with fail
        refine (tick_t _ HIA.out.1).mono ?_
        rintro e w7 ⟨⟨u, rfl, hu⟩, h7, ho7⟩
        have H7 := Lib.hid (And.intro h7 (XRep.only HIA.out.2 ho7 (fun e => hne e.symm)))
        have HB7 := Lib.hid (HBA.out.trans (ho7.below HBA.out.size (fun k hk e => by unfold isP at e; omega)))
        have q1 := Lib.hid (cell_only E1.out ho7 (by unfold isP; omega))
        obtain ⟨UA, rfl, hread⟩ := hu.read
        have HU := Lib.hid hu
        clear h7 ho7 hread hu
        go_wp2_with fail
        refine (xtick_t _ H7.out.2 HN3.out).mono ?_
        rintro e w8 ⟨⟨A8, c8, rfl, hsrc8⟩, h8, ho8⟩
        have H8 := Lib.hid (show Both w8 w.heap.size xb (((now + 1) : Nat) : Int) (tickL L) by rw [show ((now + 1 : Nat) : Int) = (now : Int) + 1 by omega]; exact And.intro (H7.out.1.only ho8 hne) h8)
        have HB8 := Lib.hid (HB7.out.trans (ho8.below HB7.out.size (fun k hk e => by unfold isP at e; omega)))
        have r1 := cell_only q1.out ho8 (by unfold isP; omega)
        have HU8 := Lib.hid (HU.out.only ho8 H7.out.2.2.2.2.2 (by decide))
        have HS8 := Lib.hid hsrc8
        clear h8 ho8 hsrc8
        go_wp2_with fail
        refine (same_t UA A8 (tickE L) _ _ _ (by have := tickE_le L; omega) (HU8.out.src) HS8.out).mono ?_
        rintro e w9 ⟨rfl, q9, hw9⟩
        have HH := Lib.hid (show Both w9 w.heap.size xb (((now + 1) : Nat) : Int) (tickL L) by rw [hw9]; exact H8.out)
        have HBB := Lib.hid (show Below w.heap.size w w9 by rw [hw9]; exact below_drewN HB8.out q9)
        have Q1 := Lib.hid (show w9.cell? ⟨wr.heap.size, 1, none⟩ = some (.int .i64 I) by rw [hw9]; exact r1)
        clear H7 HB7 HIA HBA d0 d1 d2 H8 HB8 q1 r1 hw9 HU HU8 HS8
        go_wp2_with fail
        generalize wr.heap.size = bx at *
        have HR0 := Lib.hid (show RunX w9.heap.size w.heap.size xb (((now + 1) : Nat) : Int) (tickL L) 0 (.slice none 0 0) w9 from ⟨⟨World.ownsRow_nil _ _ _ _, HH.out.1, Nat.le_refl _⟩, HH.out.2⟩)
        have hpW : w.heap.size < w9.heap.size := HH.out.1.inside
        have hxW : xb < w9.heap.size := HH.out.2.inside
        clear HH
        go_loopw [7, 8, 9] (fun fv v kv wq => ∃ k : Nat, k ≤ 8 ∧ fv = .bool true ∧ kv = .int .i64 k ∧ Hid (RunX w9.heap.size w.heap.size xb (((now + 1) : Nat) : Int) (tickL L) k v wq) ∧ Hid (Below w9.heap.size w9 wq)) (fun _ _ kv _ => 8 - (intOf kv).toNat)
        case atStart => exact ⟨0, by omega, rfl, rfl, HR0, Lib.hid (Below.refl _ _)⟩
        case round =>
          obtain ⟨k, hk, rfl, rfl, HR, HQ⟩ := hrel
          clear HR0
          by_cases hk8 : k < 8
          · obtain ⟨x, hx, hx0, hx1⟩ := HR.out.1.2.1.has hk8
            have HV := Lib.hid (LV_at hk8 hx)
            have HX := Lib.hid hx
            have hxx : (x == x) = true := by simp
            have hki : (k : Int) < 8 := by omega
            have hki0 : (0 : Int) ≤ (k : Int) := by omega
            clear hx
            go_wp2_with fail
            refine (left_t _ _ HR.out.1.2.1).mono ?_
            rintro e w5 ⟨rfl, rfl⟩
            rw [HV.out]
            go_wp2_with fail
            refine (xleft_t _ _ HR.out.2).mono ?_
            rintro e w6 ⟨rfl, q6, hw6⟩
            rw [HV.out]
            have HR6 := Lib.hid (HR.out.drewN hw6)
            have HQ6 := Lib.hid (show Below w9.heap.size w9 w6 by rw [hw6]; exact below_drewN HQ.out q6)
            clear hw6 HR HQ
            go_wp2_with fail
            refine (xleft_t _ _ HR6.out.2).mono ?_
            rintro e w7 ⟨rfl, q7, hw7⟩
            rw [HV.out]
            have HR7 := Lib.hid (HR6.out.drewN hw7)
            have HQ7 := Lib.hid (show Below w9.heap.size w9 w7 by rw [hw7]; exact below_drewN HQ6.out q7)
            clear hw7 HR6 HQ6 hxx
            by_cases h0 : 0 < x
            · obtain ⟨A9, c9, rfl⟩ := HR7.out.1.form
              obtain ⟨g9, cap9, W9, hr9, hinv9, hb9⟩ := HR7.out.1.step hpW HX.out h0 hk8
              have HRun := Lib.hid hr9
              have HR9 := Lib.hid (show RunX w9.heap.size w.heap.size xb (((now + 1) : Nat) : Int) (tickL L) (k + 1) (.slice (some ⟨g9, 0, none⟩) ((runF (tickL L) k).length + 1) cap9) W9 from ⟨hinv9, HR7.out.2.below hxW hb9⟩)
              have HQ9 := Lib.hid (HQ7.out.trans hb9)
              clear hr9 hinv9 hb9
              go_wp2_with (at_builtin; refine wpList_run rfl (.tmp 90) (.tmp 92) 35 rfl (.slice A9 (runF (tickL L) k).length c9) (.slice (some ⟨w7.heap.size, 0, none⟩) 1 1) (by rfl) (by rfl) HRun.out ?_)
              go_roundw
              case rel => exact ⟨k + 1, by omega, rfl, by go_num, HR9, HQ9⟩
              case measure => simp [intOf]; omega
            · have HR9 := Lib.hid (show RunX w9.heap.size w.heap.size xb (((now + 1) : Nat) : Int) (tickL L) (k + 1) u8 w7 from by
                have h := HR7.out
                unfold RunX RunInv at h ⊢
                rw [runF_no HX.out h0]
                exact h)
              have h0b : decide (0 < x) = false := by simp; omega
              go_wp2
              go_roundw
              case rel => exact ⟨k + 1, by omega, rfl, by go_num, HR9, HQ7⟩
              case measure => simp [intOf]; omega
          · obtain rfl : k = 8 := by omega
            obtain ⟨A9, c9, rfl⟩ := HR.out.1.form
            have q1 := kept_box HQ.out Q1.out
            have HT9 := Lib.hid HR.out.1.2.1
            have HX9 := Lib.hid HR.out.2
            have HS9 := Lib.hid (own_src HR.out.1.1)
            have HB9 := Lib.hid (HBB.out.trans (HQ.out.mono (Nat.le_of_lt hpW)))
            have hle := runF_le (tickL L) 8
            clear hk hk8 HR HQ
            go_wp2_with fail
            go_region_held3 (fun w' => w'.cell? ⟨bx, 1, none⟩ = some (.int .i64 I)) (go_keep) (first
              | (go_at_call 21; refine (running_t _ (show TRep wr.drew w.heap.size (tickL L) from HT9.out)).mono ?_; rintro e w5 ⟨⟨u5, rfl, hu5⟩, hb5⟩; obtain ⟨A5, rfl, hr5⟩ := hu5.read; have HS5 := Lib.hid hu5.src; have HL5 := Lib.hid ((show ISrc wr.drew A9 (runF (tickL L) 8) from HS9.out).later hb5); have HX5 := Lib.hid (show Both w5 w.heap.size xb (((now + 1) : Nat) : Int) (tickL L) from ⟨(show TRep wr.drew w.heap.size (tickL L) from HT9.out).later hb5, (show XRep wr.drew xb (((now + 1) : Nat) : Int) (tickL L) from HX9.out).later hb5⟩); have HB5 := Lib.hid (bl_step (bl_drew HB9.out) hb5); have z1 := kept_box hb5 (show wr.drew.cell? _ = _ from q1); clear hb5 hu5 hr5)
              | (go_at_call 15; refine (same_t A5 A9 _ _ _ _ (by omega) HS5.out HL5.out).mono ?_; rintro e w6 ⟨rfl, q6, hw6⟩; have HX6 := Lib.hid (show Both w6 w.heap.size xb (((now + 1) : Nat) : Int) (tickL L) by rw [hw6]; exact HX5.out); have HB6 := Lib.hid (show Below w.heap.size w w6 by rw [hw6]; exact below_drewN HB5.out q6); have z2 : w6.cell? ⟨bx, 1, none⟩ = some (.int .i64 I) := (by rw [hw6]; exact z1); clear hw6)
              | (go_at_call 19; refine (left_t _ _ HX6.out.1).mono ?_; rintro e w7 ⟨rfl, rfl⟩)
              | (go_at_call 20; refine (xleft_t _ _ HX6.out.2).mono ?_; rintro e w8 ⟨rfl, q8, hw8⟩; have HX8 := Lib.hid (show Both w8 w.heap.size xb (((now + 1) : Nat) : Int) (tickL L) by rw [hw8]; exact HX6.out); have HB8 := Lib.hid (show Below w.heap.size w w8 by rw [hw8]; exact below_drewN HB6.out q8); have z3 : w8.cell? ⟨bx, 1, none⟩ = some (.int .i64 I) := (by rw [hw8]; exact z2); clear hw8))
            go_wp2
            go_roundw
            case rel => exact ⟨j + 1, _, (now + 1), by omega, by omega, by omega, by go_num, HX8, HB8⟩
            case measure => simp [intOf]; omega
      · subst hK
        go_wp2_with fail
        refine (clear_t _ HIA.out.1).mono ?_
        rintro e w7 ⟨rfl, h7, ho7⟩
        have H7 := Lib.hid (And.intro h7 (XRep.only HIA.out.2 ho7 (fun e => hne e.symm)))
        have HB7 := Lib.hid (HBA.out.trans (ho7.below HBA.out.size (fun k hk e => by unfold isP at e; omega)))
        have q1 := Lib.hid (cell_only E1.out ho7 (by unfold isP; omega))
        clear h7 ho7
        have HT := Lib.hid H7.out.2.there
        have HC := Lib.hid H7.out.2.cleared
        have HBB := Lib.hid (HB7.out.trans (HC.out.2.below HB7.out.size (fun k hk e => by unfold isP at e; omega)))
        have Q1 := Lib.hid (cell_only q1.out HC.out.2 (by unfold isP; omega))
        have HH := Lib.hid (show Both (w7.setCells xb 1 Z8.toList) w.heap.size xb ((now : Nat) : Int) (clearL L) from ⟨H7.out.1.only HC.out.2 hne, HC.out.1⟩)
        clear q1 H7 HB7 HIA HBA d0 d1 d2 HC
        go_wp2_with (refine wpList_store_mid rfl 26 (.tmp 71) (.tmp 69) rfl xb 1 Z8 (by rfl) (by rfl) HT.out (by kernel_rfl) (by kernel_rfl) ?_)
        generalize w7.setCells xb 1 Z8.toList = w8 at *
        generalize wr.heap.size = bx at *
        have HR0 := Lib.hid (show RunX w8.heap.size w.heap.size xb ((now : Nat) : Int) (clearL L) 0 (.slice none 0 0) w8 from ⟨⟨World.ownsRow_nil _ _ _ _, HH.out.1, Nat.le_refl _⟩, HH.out.2⟩)
        have hpW : w.heap.size < w8.heap.size := HH.out.1.inside
        have hxW : xb < w8.heap.size := HH.out.2.inside
        clear HH
        go_loopw [7, 8, 9] (fun fv v kv wq => ∃ k : Nat, k ≤ 8 ∧ fv = .bool true ∧ kv = .int .i64 k ∧ Hid (RunX w8.heap.size w.heap.size xb ((now : Nat) : Int) (clearL L) k v wq) ∧ Hid (Below w8.heap.size w8 wq)) (fun _ _ kv _ => 8 - (intOf kv).toNat)
        case atStart => exact ⟨0, by omega, rfl, rfl, HR0, Lib.hid (Below.refl _ _)⟩
        case round =>
          obtain ⟨k, hk, rfl, rfl, HR, HQ⟩ := hrel
          clear HR0
          by_cases hk8 : k < 8
          · obtain ⟨x, hx, hx0, hx1⟩ := HR.out.1.2.1.has hk8
            have HV := Lib.hid (LV_at hk8 hx)
            have HX := Lib.hid hx
            have hxx : (x == x) = true := by simp
            have hki : (k : Int) < 8 := by omega
            have hki0 : (0 : Int) ≤ (k : Int) := by omega
            clear hx
            go_wp2_with fail
            refine (left_t _ _ HR.out.1.2.1).mono ?_
            rintro e w5 ⟨rfl, rfl⟩
            rw [HV.out]
            go_wp2_with fail
            refine (xleft_t _ _ HR.out.2).mono ?_
            rintro e w6 ⟨rfl, q6, hw6⟩
            rw [HV.out]
            have HR6 := Lib.hid (HR.out.drewN hw6)
            have HQ6 := Lib.hid (show Below w8.heap.size w8 w6 by rw [hw6]; exact below_drewN HQ.out q6)
            clear hw6 HR HQ
            go_wp2_with fail
            refine (xleft_t _ _ HR6.out.2).mono ?_
            rintro e w7 ⟨rfl, q7, hw7⟩
            rw [HV.out]
            have HR7 := Lib.hid (HR6.out.drewN hw7)
            have HQ7 := Lib.hid (show Below w8.heap.size w8 w7 by rw [hw7]; exact below_drewN HQ6.out q7)
            clear hw7 HR6 HQ6 hxx
            by_cases h0 : 0 < x
            · obtain ⟨A9, c9, rfl⟩ := HR7.out.1.form
              obtain ⟨g9, cap9, W9, hr9, hinv9, hb9⟩ := HR7.out.1.step hpW HX.out h0 hk8
              have HRun := Lib.hid hr9
              have HR9 := Lib.hid (show RunX w8.heap.size w.heap.size xb ((now : Nat) : Int) (clearL L) (k + 1) (.slice (some ⟨g9, 0, none⟩) ((runF (clearL L) k).length + 1) cap9) W9 from ⟨hinv9, HR7.out.2.below hxW hb9⟩)
              have HQ9 := Lib.hid (HQ7.out.trans hb9)
              clear hr9 hinv9 hb9
              go_wp2_with (at_builtin; refine wpList_run rfl (.tmp 90) (.tmp 92) 35 rfl (.slice A9 (runF (clearL L) k).length c9) (.slice (some ⟨w7.heap.size, 0, none⟩) 1 1) (by rfl) (by rfl) HRun.out ?_)
              go_roundw
              case rel => exact ⟨k + 1, by omega, rfl, by go_num, HR9, HQ9⟩
              case measure => simp [intOf]; omega
            · have HR9 := Lib.hid (show RunX w8.heap.size w.heap.size xb ((now : Nat) : Int) (clearL L) (k + 1) u8 w7 from by
                have h := HR7.out
                unfold RunX RunInv at h ⊢
                rw [runF_no HX.out h0]
                exact h)
              have h0b : decide (0 < x) = false := by simp; omega
              go_wp2
              go_roundw
              case rel => exact ⟨k + 1, by omega, rfl, by go_num, HR9, HQ7⟩
              case measure => simp [intOf]; omega
          · obtain rfl : k = 8 := by omega
            obtain ⟨A9, c9, rfl⟩ := HR.out.1.form
            have q1 := kept_box HQ.out Q1.out
            have HT9 := Lib.hid HR.out.1.2.1
            have HX9 := Lib.hid HR.out.2
            have HS9 := Lib.hid (own_src HR.out.1.1)
            have HB9 := Lib.hid (HBB.out.trans (HQ.out.mono (Nat.le_of_lt hpW)))
            have hle := runF_le (clearL L) 8
            clear hk hk8 HR HQ
            go_wp2_with fail
            go_region_held3 (fun w' => w'.cell? ⟨bx, 1, none⟩ = some (.int .i64 I)) (go_keep) (first
              | (go_at_call 21; refine (running_t _ (show TRep wr.drew w.heap.size (clearL L) from HT9.out)).mono ?_; rintro e w5 ⟨⟨u5, rfl, hu5⟩, hb5⟩; obtain ⟨A5, rfl, hr5⟩ := hu5.read; have HS5 := Lib.hid hu5.src; have HL5 := Lib.hid ((show ISrc wr.drew A9 (runF (clearL L) 8) from HS9.out).later hb5); have HX5 := Lib.hid (show Both w5 w.heap.size xb ((now : Nat) : Int) (clearL L) from ⟨(show TRep wr.drew w.heap.size (clearL L) from HT9.out).later hb5, (show XRep wr.drew xb ((now : Nat) : Int) (clearL L) from HX9.out).later hb5⟩); have HB5 := Lib.hid (bl_step (bl_drew HB9.out) hb5); have z1 := kept_box hb5 (show wr.drew.cell? _ = _ from q1); clear hb5 hu5 hr5)
              | (go_at_call 15; refine (same_t A5 A9 _ _ _ _ (by omega) HS5.out HL5.out).mono ?_; rintro e w6 ⟨rfl, q6, hw6⟩; have HX6 := Lib.hid (show Both w6 w.heap.size xb ((now : Nat) : Int) (clearL L) by rw [hw6]; exact HX5.out); have HB6 := Lib.hid (show Below w.heap.size w w6 by rw [hw6]; exact below_drewN HB5.out q6); have z2 : w6.cell? ⟨bx, 1, none⟩ = some (.int .i64 I) := (by rw [hw6]; exact z1); clear hw6)
              | (go_at_call 19; refine (left_t _ _ HX6.out.1).mono ?_; rintro e w7 ⟨rfl, rfl⟩)
              | (go_at_call 20; refine (xleft_t _ _ HX6.out.2).mono ?_; rintro e w8 ⟨rfl, q8, hw8⟩; have HX8 := Lib.hid (show Both w8 w.heap.size xb ((now : Nat) : Int) (clearL L) by rw [hw8]; exact HX6.out); have HB8 := Lib.hid (show Below w.heap.size w w8 by rw [hw8]; exact below_drewN HB6.out q8); have z3 : w8.cell? ⟨bx, 1, none⟩ = some (.int .i64 I) := (by rw [hw8]; exact z2); clear hw8))
            go_wp2
            go_roundw
            case rel => exact ⟨j + 1, _, now, by omega, by omega, by omega, by go_num, HX8, HB8⟩
            case measure => simp [intOf]; omega
      · have k0 : (K == 0) = false := by simp; exact hK.1
        have k1 : (K == 1) = false := by simp; exact hK.2.1
        have k2 : (K == 2) = false := by simp; exact hK.2.2.1
        have k3 : (K == 3) = false := by simp; exact hK.2.2.2
        clear hK
        have HH := HIA
        have HBB := HBA
        have Q1 := E1
        clear HIA HBA E1 E2
        go_wp2_with fail
        generalize wr.alloc (.cells #[.int .i64 K, .int .i64 I, .int .i64 N] 30) = w8 at *
        generalize wr.heap.size = bx at *
        have HR0 := Lib.hid (show RunX w8.heap.size w.heap.size xb ((now : Nat) : Int) (L) 0 (.slice none 0 0) w8 from ⟨⟨World.ownsRow_nil _ _ _ _, HH.out.1, Nat.le_refl _⟩, HH.out.2⟩)
        have hpW : w.heap.size < w8.heap.size := HH.out.1.inside
        have hxW : xb < w8.heap.size := HH.out.2.inside
        clear HH
        go_loopw [7, 8, 9] (fun fv v kv wq => ∃ k : Nat, k ≤ 8 ∧ fv = .bool true ∧ kv = .int .i64 k ∧ Hid (RunX w8.heap.size w.heap.size xb ((now : Nat) : Int) (L) k v wq) ∧ Hid (Below w8.heap.size w8 wq)) (fun _ _ kv _ => 8 - (intOf kv).toNat)
        case atStart => exact ⟨0, by omega, rfl, rfl, HR0, Lib.hid (Below.refl _ _)⟩
        case round =>
          obtain ⟨k, hk, rfl, rfl, HR, HQ⟩ := hrel
          clear HR0
          by_cases hk8 : k < 8
          · obtain ⟨x, hx, hx0, hx1⟩ := HR.out.1.2.1.has hk8
            have HV := Lib.hid (LV_at hk8 hx)
            have HX := Lib.hid hx
            have hxx : (x == x) = true := by simp
            have hki : (k : Int) < 8 := by omega
            have hki0 : (0 : Int) ≤ (k : Int) := by omega
            clear hx
            go_wp2_with fail
            refine (left_t _ _ HR.out.1.2.1).mono ?_
            rintro e w5 ⟨rfl, rfl⟩
            rw [HV.out]
            go_wp2_with fail
            refine (xleft_t _ _ HR.out.2).mono ?_
            rintro e w6 ⟨rfl, q6, hw6⟩
            rw [HV.out]
            have HR6 := Lib.hid (HR.out.drewN hw6)
            have HQ6 := Lib.hid (show Below w8.heap.size w8 w6 by rw [hw6]; exact below_drewN HQ.out q6)
            clear hw6 HR HQ
            go_wp2_with fail
            refine (xleft_t _ _ HR6.out.2).mono ?_
            rintro e w7 ⟨rfl, q7, hw7⟩
            rw [HV.out]
            have HR7 := Lib.hid (HR6.out.drewN hw7)
            have HQ7 := Lib.hid (show Below w8.heap.size w8 w7 by rw [hw7]; exact below_drewN HQ6.out q7)
            clear hw7 HR6 HQ6 hxx
            by_cases h0 : 0 < x
            · obtain ⟨A9, c9, rfl⟩ := HR7.out.1.form
              obtain ⟨g9, cap9, W9, hr9, hinv9, hb9⟩ := HR7.out.1.step hpW HX.out h0 hk8
              have HRun := Lib.hid hr9
              have HR9 := Lib.hid (show RunX w8.heap.size w.heap.size xb ((now : Nat) : Int) (L) (k + 1) (.slice (some ⟨g9, 0, none⟩) ((runF (L) k).length + 1) cap9) W9 from ⟨hinv9, HR7.out.2.below hxW hb9⟩)
              have HQ9 := Lib.hid (HQ7.out.trans hb9)
              clear hr9 hinv9 hb9
              go_wp2_with (at_builtin; refine wpList_run rfl (.tmp 90) (.tmp 92) 35 rfl (.slice A9 (runF (L) k).length c9) (.slice (some ⟨w7.heap.size, 0, none⟩) 1 1) (by rfl) (by rfl) HRun.out ?_)
              go_roundw
              case rel => exact ⟨k + 1, by omega, rfl, by go_num, HR9, HQ9⟩
              case measure => simp [intOf]; omega
            · have HR9 := Lib.hid (show RunX w8.heap.size w.heap.size xb ((now : Nat) : Int) (L) (k + 1) u8 w7 from by
                have h := HR7.out
                unfold RunX RunInv at h ⊢
                rw [runF_no HX.out h0]
                exact h)
              have h0b : decide (0 < x) = false := by simp; omega
              go_wp2
              go_roundw
              case rel => exact ⟨k + 1, by omega, rfl, by go_num, HR9, HQ7⟩
              case measure => simp [intOf]; omega
          · obtain rfl : k = 8 := by omega
            obtain ⟨A9, c9, rfl⟩ := HR.out.1.form
            have q1 := kept_box HQ.out Q1.out
            have HT9 := Lib.hid HR.out.1.2.1
            have HX9 := Lib.hid HR.out.2
            have HS9 := Lib.hid (own_src HR.out.1.1)
            have HB9 := Lib.hid (HBB.out.trans (HQ.out.mono (Nat.le_of_lt hpW)))
            have hle := runF_le (L) 8
            clear hk hk8 HR HQ
            go_wp2_with fail
            go_region_held3 (fun w' => w'.cell? ⟨bx, 1, none⟩ = some (.int .i64 I)) (go_keep) (first
              | (go_at_call 21; refine (running_t _ (show TRep wr.drew w.heap.size (L) from HT9.out)).mono ?_; rintro e w5 ⟨⟨u5, rfl, hu5⟩, hb5⟩; obtain ⟨A5, rfl, hr5⟩ := hu5.read; have HS5 := Lib.hid hu5.src; have HL5 := Lib.hid ((show ISrc wr.drew A9 (runF (L) 8) from HS9.out).later hb5); have HX5 := Lib.hid (show Both w5 w.heap.size xb ((now : Nat) : Int) (L) from ⟨(show TRep wr.drew w.heap.size (L) from HT9.out).later hb5, (show XRep wr.drew xb ((now : Nat) : Int) (L) from HX9.out).later hb5⟩); have HB5 := Lib.hid (bl_step (bl_drew HB9.out) hb5); have z1 := kept_box hb5 (show wr.drew.cell? _ = _ from q1); clear hb5 hu5 hr5)
              | (go_at_call 15; refine (same_t A5 A9 _ _ _ _ (by omega) HS5.out HL5.out).mono ?_; rintro e w6 ⟨rfl, q6, hw6⟩; have HX6 := Lib.hid (show Both w6 w.heap.size xb ((now : Nat) : Int) (L) by rw [hw6]; exact HX5.out); have HB6 := Lib.hid (show Below w.heap.size w w6 by rw [hw6]; exact below_drewN HB5.out q6); have z2 : w6.cell? ⟨bx, 1, none⟩ = some (.int .i64 I) := (by rw [hw6]; exact z1); clear hw6)
              | (go_at_call 19; refine (left_t _ _ HX6.out.1).mono ?_; rintro e w7 ⟨rfl, rfl⟩)
              | (go_at_call 20; refine (xleft_t _ _ HX6.out.2).mono ?_; rintro e w8 ⟨rfl, q8, hw8⟩; have HX8 := Lib.hid (show Both w8 w.heap.size xb ((now : Nat) : Int) (L) by rw [hw8]; exact HX6.out); have HB8 := Lib.hid (show Below w.heap.size w w8 by rw [hw8]; exact below_drewN HB6.out q8); have z3 : w8.cell? ⟨bx, 1, none⟩ = some (.int .i64 I) := (by rw [hw8]; exact z2); clear hw8))
            go_wp2
            go_roundw
            case rel => exact ⟨j + 1, _, now, by omega, by omega, by omega, by go_num, HX8, HB8⟩
            case measure => simp [intOf]; omega
    · have hx3 : l.length ≤ j ∨ 300 ≤ j := by omega
      have HZ := Lib.hid (show NoSet (wr.alloc (.cells (TCells false (List.replicate 8 0)) 39)) (.pointer (some ⟨wr.heap.size, 0, none⟩)) from .inr ⟨_, rfl, _, Row.made _ _ _⟩)
      have HBZ := Lib.hid (bl_alloc HB.out (.cells (TCells false (List.replicate 8 0)) 39))
      clear hlt
      rcases Nat.lt_or_ge j l.length with hjl2 | hjl2
      · have h3 : ¬ (j : Int) < 300 := by omega
        have h4 : (j : Int) < (l.length : Int) := by omega
        clear hx3
        go_wp2_with fail
        refine (clear_nil _).mono ?_
        rintro e w8 ⟨rfl, rfl⟩
        go_wp2_with (first
          | (go_at_call 22; refine (alive5_any _).mono ?_; rintro e w9 ⟨rfl, hb9⟩; have HN9 := Lib.hid (show NoSet w9 (.pointer none) from .inl rfl); have HZ9 := Lib.hid (HZ.out.later hb9); have HB9 := Lib.hid (bl_step HBZ.out hb9); clear hb9)
          | (go_at_call 11; refine (start_none _ _ _ (by first | exact HN9.out | exact HZ9.out)).mono ?_; rintro e w10 ⟨rfl, rfl⟩)
          | (go_at_call 13; refine (stop_none _ _ (by first | exact HN9.out | exact HZ9.out)).mono ?_; rintro e w10 ⟨rfl, rfl⟩)
          | (go_at_call 19; refine (left_none _ _ (by first | exact HN9.out | exact HZ9.out)).mono ?_; rintro e w10 ⟨rfl, rfl⟩)
          | (go_at_call 16; refine (tick_none _ (by first | exact HN9.out | exact HZ9.out)).mono ?_; rintro e w10 ⟨rfl, rfl⟩)
          | (go_at_call 21; refine (running_none _ (by first | exact HN9.out | exact HZ9.out)).mono ?_; rintro e w10 ⟨rfl, rfl⟩))
        go_ret
        exact ⟨rfl, HB9.out⟩
      · have h4 : ¬ (j : Int) < (l.length : Int) := by omega
        clear hx3
        go_wp2_with fail
        refine (clear_nil _).mono ?_
        rintro e w8 ⟨rfl, rfl⟩
        go_wp2_with (first
          | (go_at_call 22; refine (alive5_any _).mono ?_; rintro e w9 ⟨rfl, hb9⟩; have HN9 := Lib.hid (show NoSet w9 (.pointer none) from .inl rfl); have HZ9 := Lib.hid (HZ.out.later hb9); have HB9 := Lib.hid (bl_step HBZ.out hb9); clear hb9)
          | (go_at_call 11; refine (start_none _ _ _ (by first | exact HN9.out | exact HZ9.out)).mono ?_; rintro e w10 ⟨rfl, rfl⟩)
          | (go_at_call 13; refine (stop_none _ _ (by first | exact HN9.out | exact HZ9.out)).mono ?_; rintro e w10 ⟨rfl, rfl⟩)
          | (go_at_call 19; refine (left_none _ _ (by first | exact HN9.out | exact HZ9.out)).mono ?_; rintro e w10 ⟨rfl, rfl⟩)
          | (go_at_call 16; refine (tick_none _ (by first | exact HN9.out | exact HZ9.out)).mono ?_; rintro e w10 ⟨rfl, rfl⟩)
          | (go_at_call 21; refine (running_none _ (by first | exact HN9.out | exact HZ9.out)).mono ?_; rintro e w10 ⟨rfl, rfl⟩))
        go_ret
        exact ⟨rfl, HB9.out⟩
end Go.Proofs.Ytieokmmejdngcaa
