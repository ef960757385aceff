/-
  rxwin: a number is whole, by the document's window: what goes. rxwin: a window that is nil, or that no call made; two lists are the same.
-/
import Derived.Test.YtgdpjaojlhdhdaaJRxwinLives05
import Derived.Deep.DeepCutAuto
import Derived.Test.YtgdpjaojlhdhdaaJRxwinLives04
namespace Go.Proofs.Ytgdpjaojlhdhdaa
open Go.RowKit Go.Maps

def cellNat (y o : Nat) (wr : World) : Nat := match wr.cell? ⟨y, o, none⟩ with | some (.int _ m) => m.toNat | _ => 0
section
variable {w v : World} {y B : Nat} {b size n : Int} {R M H : Nat} {D : List Bool}
/-- the row and its list apart -/
structure RZ (w : World) (y B : Nat) (b size : Int) (R M H : Nat) (D : List Bool) (A : Option Addr) (c : Nat) : Prop where
  row : Row w y 97 (YC b size R M H (.slice A D.length c))
  own : w.ownsRow B 4 1 (.slice A D.length c) D.length (blv D)
theorem RZ.moveM {A : Option Addr} {c : Nat} (h : RZ w y B b size R M H D A c) (M' : Nat) : RZ (w.setCell ⟨y, 3, none⟩ (.int .i64 (M' : Int))) y B b size R M' H D A c :=
  ⟨h.row.written 3 _, own_only h.own ((Only.refl (fun k => k = y) w).set (.inl rfl) _) (fun k hk e => by subst e; exact own_apart h.own h.row (by decide) hk)⟩
theorem RZ.moveR {A : Option Addr} {c : Nat} (h : RZ w y B b size R M H D A c) (R' : Nat) : RZ (w.setCell ⟨y, 2, none⟩ (.int .i64 (R' : Int))) y B b size R' M H D A c :=
  ⟨h.row.written 2 _, own_only h.own ((Only.refl (fun k => k = y) w).set (.inl rfl) _) (fun k hk e => by subst e; exact own_apart h.own h.row (by decide) hk)⟩
theorem RZ.below {A : Option Addr} {c : Nat} (h : RZ w y B b size R M H D A c) (hb : Below w.heap.size w v) : RZ v y B b size R M H D A c :=
  ⟨h.row.later hb, own_after h.own hb⟩
theorem RZ.only {A : Option Addr} {c : Nat} {S : Nat → Prop} (h : RZ w y B b size R M H D A c) (ho : Only S w v) (hy : ¬ S y) (hS : ∀ k, (Value.slice A D.length c).ownBlock = some k → ¬ S k) : RZ v y B b size R M H D A c :=
  ⟨h.row.only ho hy, own_only h.own ho hS⟩
theorem gro_zero : gro D 0 = D := by unfold gro; rw [Nat.zero_sub]; simp
theorem gro_same {k K : Nat} (h1 : k ≤ K) (h2 : K ≤ max D.length k) : gro D k = gro D K := by
  unfold gro
  rw [show k - D.length = K - D.length by omega]
theorem own_types {m1 m2 E1 E2 n1 n2 : Nat} {x1 x2 : Value} {xs1 xs2 : List Value} (h1 : w.ownsRow m1 E1 1 x1 n1 xs1) (h2 : w.ownsRow m2 E2 1 x2 n2 xs2) (hne : E1 ≠ E2) : ∀ k, x1.ownBlock = some k → ¬ (x2.ownBlock = some k) := by
  intro k hk1 hk2
  rcases h2.2 with ⟨e, _⟩ | ⟨g, cap, cur, e, _, hh, _⟩
  · rw [e] at hk2; simp [Value.ownBlock] at hk2
  · rw [e] at hk2
    have e1 : g = k := by simpa [Value.ownBlock] using hk2
    subst e1
    exact own_apart h1 hh hne hk1
theorem gro_next {k : Nat} : gro D k ++ [false] = gro D (max D.length k + 1) := by
  unfold gro
  rw [List.append_assoc, ← List.replicate_succ', show max D.length k + 1 - D.length = k - D.length + 1 by omega]
set_option maxRecDepth 100000 in
set_option maxHeartbeats 12800000 in
theorem ywhole_ok (h : RY w y B b size R M H D) (hn : okn b n = true) (hi : (ix (sz b) ((R : Int) % sz b) n : Int) < size) (ha : D.getD (R + ix (sz b) ((R : Int) % sz b) n) false = false) (hR1 : opn (mark D (R + ix (sz b) ((R : Int) % sz b) n)) R ≤ 1000) (hBw : B ≤ w.heap.size) :
    Calls Try.prog 61 #[.pointer (some ⟨y, 0, none⟩), .int .i64 n] w fun e w' => ∃ A c,
      e = .returned (.tuple #[.slice A (opn (mark D (R + ix (sz b) ((R : Int) % sz b) n)) R - R) c, .int .i64 0]) ∧ SlAt w.heap.size 3 w' A (ints (past (sz b) ((R : Int) % sz b) (opn (mark D (R + ix (sz b) ((R : Int) % sz b) n)) R - R))) ∧
      RY w' y B b size (opn (mark D (R + ix (sz b) ((R : Int) % sz b) n)) R) (max (opn (mark D (R + ix (sz b) ((R : Int) % sz b) n)) M) (opn (mark D (R + ix (sz b) ((R : Int) % sz b) n)) R)) (max H (R + ix (sz b) ((R : Int) % sz b) n + 1)) (mark D (R + ix (sz b) ((R : Int) % sz b) n)) ∧ Only (fun k => k = y) w w' := by
  have HF := Lib.hid (yask_any h n)
  rw [flt_good hn hi] at HF
  have HI := Lib.hid (fun W (hb : Below w.heap.size w W) => by have h1 := yis_any (h.later hb) n; rw [ha, Bool.and_false] at h1; exact h1)
  have HCA := Lib.hid (fun W (hb : Below w.heap.size w W) => ycame_ok (h.later hb) hn hi)
  have HFR := Lib.hid (fun (M' H' : Int) (u : Value) W (hr : Row W y 97 (YC b size R M' H' u)) => by
    have h1 := yfar_row hr h.rt n
    rw [farx_ix hn] at h1
    exact h1)
  have HNU := Lib.hid (fun (R' M' H' : Int) (u : Value) W (hr : Row W y 97 (YC b size R' M' H' u)) k => ynumber_row hr h.rt k)
  have hRM := h.h1
  have hMH := h.h2
  have hsz : size ≤ 40000 := by have := h.hs2; have := h.pos; omega
  have hRb : R ≤ 1000 := h.h5
  have hHb : (H : Int) ≤ 50000 := by have := h.h3; omega
  have hDH : D.length ≤ H := h.h4
  have hHS : (H : Int) ≤ R + size := h.h3
  have HEND := Lib.hid (show ∀ (W : World) (R1 M2 H1 : Nat) (D2 : List Bool) (A : Option Addr) (c : Nat), RZ W y B b size R1 M2 H1 D2 A c → R1 ≤ M2 → M2 ≤ H1 → (H1 : Int) ≤ R1 + size → D2.length ≤ H1 → R1 ≤ 1000 → RY W y B b size R1 M2 H1 D2 from
    fun W R1 M2 H1 D2 A c hz a1 a2 a3 a4 a5 => ⟨⟨A, c, hz.row, hz.own⟩, h.rt, h.hs, h.hs2, a1, a2, a3, a4, a5⟩)
  have HMO := Lib.hid (fun k => mod_add R (sz b) k)
  generalize ix (sz b) ((R : Int) % sz b) n = i at *
  have hi0 : (0 : Int) ≤ i := by omega
  have hR0 : (0 : Int) ≤ R := by omega
  have hib : (i : Int) ≤ 40000 := by omega
  have HML := Lib.hid (mark_length (l := D) (i := R + i))
  clear h hn ha
  go_enter Try.func61, Try.ntmps61
  go_upto_region 8 with (first
    | (go_at_call 202; (with_reducible refine HF.out.mono ?_); rintro e w1 ⟨rfl, hd1⟩; (have HB1 := Lib.hid hd1.below; clear hd1))
    | (go_at_call 69; (with_reducible refine (HI.out _ HB1.out).mono ?_); rintro e w2 ⟨rfl, hd2⟩; (have HB2 := Lib.hid (bl_step HB1.out hd2.below); clear hd2))
    | (go_at_call 60; (with_reducible refine (HCA.out _ HB2.out).mono ?_); rintro e w3 ⟨rfl, hy3, ho3⟩; (
        have HO3 := Lib.hid ((Only.of_below HB2.out : Only (fun k => k = y) w w2).andThen ho3 (fun _ _ hk => hk))
        have HY3 := Lib.hid hy3
        clear hy3 ho3)))
  generalize hH1 : max H (R + i + 1) = H1 at *
  have hH1b : H1 ≤ R + size.toNat ∧ M ≤ H1 ∧ R + i + 1 ≤ H1 ∧ D.length ≤ H1 := by omega
  have HH1 := Lib.hid hH1b
  have HHE := Lib.hid hH1
  obtain ⟨A, c, hr3, hw3⟩ := HY3.out.row
  obtain ⟨c0, c1, c2, c3, c4, c5⟩ := ycells hr3
  have HR3 := Lib.hid hr3
  obtain ⟨A4, c4', w4, hrun4, hown4, hb4⟩ := own_copy (l := D) hw3 (by kernel_rfl : (Try.prog.info? 4).map (fun i => (i.zero, i.size, i.bytes)) = some (some (.bool false), 1, 1)) (by omega) (by omega)
  have HRUN4 := Lib.hid hrun4
  have HW4 := Lib.hid hown4
  have HB4 := Lib.hid hb4
  have HYI := Lib.hid hr3.inside
  clear hrun4 hown4 hb4 hr3 hw3 hH1b
  have HLD := Lib.hid (show D.length ≤ 60000 by omega)
  have HIR := Lib.hid (show R + i ≤ 50000 by omega)
  go_wp2_with (first | (at_builtin; refine wpList_is rfl (.tmp 21) (.tmp 25) 95 rfl _ _ (by rfl) (by rfl) HRUN4.out ?_) | go_in)
  clear c0 c1 c2 c3 c4 c5
  go_loopw [7] (fun s7 wr => ∃ k : Nat, Hid (k ≤ R + i + 1) ∧ Hid (wr.ownsRow w3.heap.size 4 1 s7 (gro D k).length (blv (gro D k))) ∧ Hid (Below w3.heap.size w3 wr)) (fun s7 _ => R + i + 1 - slLen s7)
  case atStart => exact ⟨0, Lib.hid (by omega), Lib.hid (by rw [gro_zero]; exact HW4.out), HB4⟩
  case round =>
    obtain ⟨k, HK, HOW, HBr⟩ := hrel
    obtain ⟨A7, c7, rfl, hc7, hc7m⟩ := own_shape HOW.out
    have HGL := Lib.hid (gro_length (l := D) (k := k))
    obtain ⟨c0, c1, c2, c3, c4, c5⟩ := ycells (HR3.out.later HBr.out)
    have HFQ := Lib.hid (fun m => HFR.out _ _ _ _ (HR3.out.later (bl_step HBr.out (below_drewN (Below.refl wr.heap.size wr) m))))
    by_cases hc : (gro D k).length ≤ R + i
    · have HC := Lib.hid hc
      generalize hL : (gro D k).length = L at *
      have HLL := Lib.hid hL
      have hcd : decide ((L : Int) ≤ (R : Int) + (i : Int)) = true := decide_eq_true (by omega)
      clear hL hc
      go_wp2
      go_quiet ((go_at_call 68; exact Calls.quiet_of (HFQ.out _)))
      have HBz := Lib.hid (below_drewN (Below.refl wr.heap.size wr) nq)
      generalize wr.drewN nq = wz at *
      clear c0 c1 c2 c3 c4 c5
      have hown2 := own_after HOW.out HBz.out
      have hsz2 : w3.heap.size ≤ wz.heap.size := (bl_step HBr.out HBz.out).size
      obtain ⟨A', c', w5, hrun, hown, hon⟩ := own_next (T := 95) (E := 4) (u := .bool false) (by kernel_rfl) (show (Try.prog.info? 4).map (fun i => (i.zero, i.size, i.bytes)) = some (some (.bool false), 1, 1) by kernel_rfl) rfl (by omega) rfl hown2 hsz2 (by have := HC.out; have := HIR.out; omega)
      have HRUN := Lib.hid hrun
      have HOWN := Lib.hid hown
      have HON := Lib.hid (hon.below hsz2 (fun j hj hk => by have := (own_block hown2 j hk).1; omega))
      clear hrun hown hon hown2
      go_wp2_with (first | (at_builtin; refine wpList_is rfl (.tmp 38) (.tmp 39) 95 rfl _ _ (by rfl) (by rfl) HRUN.out ?_) | go_in)
      go_roundw
      case rel => exact ⟨max D.length k + 1, Lib.hid (by have := HC.out; have := HGL.out; have := HLL.out; omega), Lib.hid (by rw [← gro_next, List.length_append, HLL.out, blv_app]; exact HOWN.out), Lib.hid ((bl_step HBr.out HBz.out).trans HON.out)⟩
      case measure => simp only [slLen]; have := HC.out; omega
    · have HEQ := Lib.hid (gro_same (D := D) HK.out (by rw [gro_length] at hc; omega))
      have HOW2 := Lib.hid HOW.out
      rw [HEQ.out] at HOW2
      have HMK := Lib.hid (show (gro D (R + i + 1)).set (R + i) true = mark D (R + i) from rfl)
      have HLE2 := Lib.hid (show (gro D k).length = (gro D (R + i + 1)).length by rw [HEQ.out])
      generalize hL : (gro D k).length = L at *
      have hcd : decide ((L : Int) ≤ (R : Int) + (i : Int)) = false := decide_eq_false (by omega)
      have HCL := Lib.hid (show R + i < L by omega)
      have HML2 := Lib.hid (show (mark D (R + i)).length = L by rw [← HMK.out, List.length_set, ← HLE2.out])
      have HOW3 := Lib.hid (show wr.ownsRow w3.heap.size 4 1 (.slice A7 L c7) L (blv (gro D (R + i + 1))) by have := HOW2.out; rw [← HLE2.out] at this; exact this)
      clear hL hc HOW HOW2 HEQ
      go_wp2
      go_quiet ((go_at_call 68; exact Calls.quiet_of (HFQ.out _)))
      have HBz := Lib.hid (bl_step HBr.out (below_drewN (Below.refl wr.heap.size wr) nq))
      have HOW4 := Lib.hid (own_after HOW3.out (below_drewN (Below.refl wr.heap.size wr) nq))
      generalize wr.drewN nq = wz at *
      clear c0 c1 c2 c3 c4 c5
      obtain ⟨g7, cs70, rfl, hg7, hrow70, hcs7⟩ := own_at HOW4.out (by intro hn; have h1 := blv_len (gro D (R + i + 1)); rw [hn] at h1; have h2 := HCL.out; have h3 := HLE2.out; simp at h1; omega)
      obtain ⟨d7, hd7⟩ : ∃ d7, (blv (gro D (R + i + 1)))[R + i]? = some d7 := ⟨_, List.getElem?_eq_getElem (by rw [blv_len, ← HLE2.out]; exact HCL.out)⟩
      have HRW7 := Lib.hid hrow70
      have HCS7 := Lib.hid (hcs7 _ _ hd7)
      have HG7 := Lib.hid hg7
      clear hg7 hrow70 hcs7 hd7
      go_upto_region 11 with fail
      have HBn := Lib.hid (bl_drew HBz.out)
      have HOW5 := Lib.hid (own_after HOW4.out (bl_drew (Below.refl wz.heap.size wz)))
      obtain ⟨c0, c1, c2, c3, c4, c5⟩ := ycells (HR3.out.later HBn.out)
      have hiL : ((R : Int) + (i : Int)) < (L : Int) := by have := HCL.out; omega
      have hi00 : (0 : Int) ≤ (R : Int) + (i : Int) := by omega
      have hRI : (R : Int) ≤ 1000 := by omega
      have hWR : IntKind.i64.wrap ((R : Int) + (i : Int)) = (R : Int) + (i : Int) := IntWalk.i64_in _ (by omega)
      have hi01 : ¬ ((R : Int) + (i : Int) < 0) := by omega
      have hiT : ((R : Int) + (i : Int)).toNat = R + i := by omega
      have hNL : R + i < L := HCL.out
      have hLI : (L : Int) ≤ 9223372036854775807 := by have := hc7m; omega
      go_region_held3 (fun w' => w'.cell? ⟨y, 2, none⟩ = some (.int .i64 R)) (first | with_reducible exact c2 | exact (ycells (HR3.out.later HB5.out)).2.2.1 | exact HKP.out | go_keep)
        (first | (go_at_call 68; (with_reducible refine (HFR.out _ _ _ _ (HR3.out.later HBn.out)).mono ?_); rintro e w5 ⟨rfl, hd5⟩; (
          have HB5 := Lib.hid (bl_step HBn.out hd5.below)
          have HOW6 := Lib.hid (own_after HOW5.out hd5.below)
          have hrow7 := (HRW7.out.later (bl_drew (Below.refl _ _))).later hd5.below
          have z7 := hrow7.read HCS7.out
          have f7 := hrow7.free (R + i)
          have HKP := Lib.hid (((HR3.out.later HB5.out).elsewhere (p := ⟨g7, R + i, none⟩) (by have := HYI.out; have := HG7.out; show y ≠ g7; omega) (.bool true)).read (i := 2) (x := .int .i64 R) rfl)
          clear hd5 c0 c1 c2 c3 c4 c5 hrow7
          obtain ⟨c0, c1, c2, c3, c4, c5⟩ := ycells (HR3.out.later HB5.out))))
      have HR6 := Lib.hid ((HR3.out.later HB5.out).elsewhere (p := ⟨g7, R + i, none⟩) (by have := HYI.out; have := HG7.out; show y ≠ g7; omega) (.bool true))
      have HW6 := Lib.hid (by have h1 := own_set (i := R + i) HOW6.out (.bool true); rw [blv_set, HMK.out] at h1; exact h1)
      have HO6 := Lib.hid (HO3.out.andThen (T := fun k => w3.heap.size ≤ k) ((Only.of_below HB5.out).set (p := ⟨g7, R + i, none⟩) (.inl HG7.out) (.bool true)) (fun k h1 h2 => by have := HO3.out.size; omega))
      generalize w5.setCell ⟨g7, R + i, none⟩ (.bool true) = w6 at *
      clear c0 c1 c2 c3 c4 c5 z7 f7 hcd hiL hi00 hRI hWR hi01 hiT hNL hLI
      obtain ⟨c0, c1, c2, c3, c4, c5⟩ := ycells HR6.out
      have f5 := HR6.out.free 5
      have HR7 := Lib.hid (HR6.out.written 5 (.slice (some ⟨g7, 0, none⟩) L c7))
      have HW7 := Lib.hid (own_only HW6.out ((Only.refl (fun k => k = y) w6).set (p := ⟨y, 5, none⟩) (.inl rfl) (.slice (some ⟨g7, 0, none⟩) L c7)) (fun k hk e => by subst e; exact own_apart HW6.out HR6.out (by decide) hk))
      have HO7 := Lib.hid (HO6.out.set (p := ⟨y, 5, none⟩) (.inl rfl) (.slice (some ⟨g7, 0, none⟩) L c7))
      have HB3w := Lib.hid HO3.out.size
      have HMN := Lib.hid (And.intro (opn_max (l := mark D (R + i)) (c := M)) (opn_max (l := mark D (R + i)) (c := R)))
      have HOG := Lib.hid (And.intro (opn_ge (l := mark D (R + i)) (c := M)) (opn_ge (l := mark D (R + i)) (c := R)))
      have HR1L := Lib.hid hR1
      have HR1S := Lib.hid (show R ≤ opn (mark D (R + i)) R from opn_ge)
      generalize hD2 : mark D (R + i) = D2 at *
      have HD2 := Lib.hid hD2
      clear hD2
      go_wp2
      generalize w6.setCell ⟨y, 5, none⟩ (.slice (some ⟨g7, 0, none⟩) L c7) = w7 at *
      have HZ7 := Lib.hid (show RZ w7 y w3.heap.size b size R M H1 D2 (some ⟨g7, 0, none⟩) c7 from ⟨by rw [HML2.out]; exact HR7.out, by rw [HML2.out]; exact HW7.out⟩)
      clear c0 c1 c2 c3 c4 c5 f5 HR6 HW6
      go_loopw [55] (fun _ wr => ∃ k : Nat, Hid (M ≤ k ∧ k ≤ H1) ∧ Hid (RZ wr y w3.heap.size b size R k H1 D2 (some ⟨g7, 0, none⟩) c7) ∧ Hid (opn D2 k = opn D2 M) ∧ Hid (Only (fun k => k = y) w wr)) (fun _ wr => H1 - cellNat y 3 wr)
      case atStart => exact ⟨M, Lib.hid ⟨Nat.le_refl _, HH1.out.2.1⟩, HZ7, Lib.hid rfl, HO7⟩
      case round =>
        obtain ⟨k, HK2, HZr, HOr, HOn⟩ := hrel
        have hd := ydone_row HZr.out.row HZr.out.own k
        obtain ⟨c0, c1, c2, c3, c4, c5⟩ := ycells HZr.out.row
        have hkb : (k : Int) ≤ 100000 := by have := HK2.out.2; have := HH1.out.1; omega
        have hk0 : (0 : Int) ≤ k := by omega
        cases hv : D2.getD k false
        · rw [hv] at hd
          have HD := Lib.hid hd
          have HM1 := Lib.hid (show opn D2 M = k by rw [← HOr.out, opn_stop hv])
          clear hd hv
          go_wp2_with (go_at_call 203; (with_reducible refine HD.out.mono ?_); rintro e w8 ⟨rfl, rfl⟩)
          clear c0 c1 c2 c3 c4 c5
          go_loopw [8] (fun s8 wx => ∃ j : Nat, Hid (R + j ≤ opn D2 R) ∧ Hid (opn D2 (R + j) = opn D2 R) ∧ Hid (RZ wx y w3.heap.size b size (R + j) k H1 D2 (some ⟨g7, 0, none⟩) c7) ∧ Hid (wx.ownsRow w3.heap.size 3 1 s8 (past (sz b) ((R : Int) % sz b) j).length (ints (past (sz b) ((R : Int) % sz b) j))) ∧ Hid (Only (fun k => k = y) w wx)) (fun s8 _ => opn D2 R - R - slLen s8)
          case atStart => exact ⟨0, HR1S, Lib.hid rfl, HZr, Lib.hid (World.ownsRow_nil _ _ _ _), HOn⟩
          case round =>
            obtain ⟨j, HJ, HJO, HZx, HOW8, HOx⟩ := hrel
            obtain ⟨A8, c8, rfl, hc8, hc8m⟩ := own_shape HOW8.out
            have hd := ydone_row HZx.out.row HZx.out.own (R + j)
            obtain ⟨c0, c1, c2, c3, c4, c5⟩ := ycells HZx.out.row
            have HPL := Lib.hid (past_length : (past (sz b) ((R : Int) % sz b) j).length = j)
            have hjb : ((R + j : Nat) : Int) ≤ 1000 := by have := HJ.out; have := HR1L.out; omega
            have hj0 : (0 : Int) ≤ ((R + j : Nat) : Int) := by omega
            have HRJ := Lib.hid (show R + (j + 1) = R + j + 1 by omega)
            generalize hRJ : R + j = rj at *
            have HRJ2 := Lib.hid hRJ
            cases hv : D2.getD rj false
            · rw [hv] at hd
              have HD := Lib.hid hd
              have HR1E := Lib.hid (show opn D2 R = rj by rw [← HJO.out, opn_stop hv])
              clear hd hv hRJ
              go_wp2_with (go_at_call 203; (with_reducible refine HD.out.mono ?_); rintro e w9 ⟨rfl, rfl⟩)
              have hkb2 : (k : Int) ≤ 100000 := hkb
              have HP8 := Lib.hid (own_at HOW8.out)
              have f3 := HZx.out.row.free 3
              have HAR := Lib.hid (show rj - R = j by have := HRJ2.out; omega)
              have HFIN := Lib.hid (show D2.length ≤ H1 ∧ (H1 : Int) ≤ rj + size ∧ rj ≤ 1000 ∧ k ≤ H1 ∧ B ≤ w3.heap.size from by
                refine ⟨by have h1 := HML2.out; have h2 := HH1.out; have h4 := HGL.out; have h5 := HK.out; omega, by have h1 := HH1.out; have h2 := HRJ2.out; omega, by omega, HK2.out.2, by have := HB3w.out; omega⟩)
              have HRLE := Lib.hid (show rj ≤ H1 by have h0 := HMN.out.2; have h1 := HML2.out; have h2 := HH1.out; have h4 := HGL.out; have h5 := HK.out; have h6 := HR1E.out; omega)
              have hSL : SlAt w.heap.size 3 wr A8 (ints (past (sz b) ((R : Int) % sz b) j)) := by
                intro hne
                obtain ⟨g8, cs8, q1, q2, q3, q4⟩ := HP8.out hne
                exact ⟨g8, cs8, q1, by have := HB3w.out; omega, q3, q4⟩
              have HSL := Lib.hid hSL
              clear hSL
              have HYB := Lib.hid HYI.out
              by_cases hkr : k < rj
              · have hkd : decide ((k : Int) < (rj : Int)) = true := decide_eq_true (by omega)
                have HMX := Lib.hid (show max k rj = rj by omega)
                go_quiet (fail)
                have HZq := Lib.hid (HZx.out.below (below_drewN (Below.refl wr.heap.size wr) nq))
                have HOq := Lib.hid (HOx.out.drewN nq)
                have HSq := Lib.hid (HSL.out.later (below_drewN (Below.refl wr.heap.size wr) nq))
                have HWz := Lib.hid (Row.inside HZq.out.row)
                generalize wr.drewN nq = wz at *
                clear c0 c1 c2 c3 c4 c5 f3
                obtain ⟨c0, c1, c2, c3, c4, c5⟩ := ycells HZq.out.row
                have f3 := HZq.out.row.free 3
                have HZm := Lib.hid (HZq.out.moveM rj)
                go_wp2
                go_ret2
                have hpl := HPL.out
                rw [HD2.out, HR1E.out, HM1.out, HMX.out, HHE.out, HAR.out]
                refine ⟨A8, c8, by rw [hpl]; rfl, ?_, HEND.out _ rj rj H1 D2 _ _ ⟨HZm.out.row, own_down HZm.out.own HFIN.out.2.2.2.2⟩ (Nat.le_refl _) HRLE.out HFIN.out.2.1 HFIN.out.1 HFIN.out.2.2.1, HOq.out.set (p := ⟨y, 3, none⟩) (.inl rfl) _⟩
                exact HSq.out.only (S := fun k => k = y) ((Only.refl (fun k => k = y) wz).set (p := ⟨y, 3, none⟩) (.inl rfl) (.int .i64 (rj : Int))) (fun g cs hr _ e => by subst e; exact absurd rfl (Row.apart hr HZq.out.row (by decide)))
              · have hkd : decide ((k : Int) < (rj : Int)) = false := decide_eq_false (by omega)
                have HMX := Lib.hid (show max k rj = k by omega)
                have HKR := Lib.hid (show rj ≤ k by omega)
                go_quiet (fail)
                have HZq := Lib.hid (HZx.out.below (below_drewN (Below.refl wr.heap.size wr) nq))
                have HOq := Lib.hid (HOx.out.drewN nq)
                have HSq := Lib.hid (HSL.out.later (below_drewN (Below.refl wr.heap.size wr) nq))
                go_wp2
                go_ret2
                have hpl := HPL.out
                rw [HD2.out, HR1E.out, HM1.out, HMX.out, HHE.out, HAR.out]
                exact ⟨A8, c8, by rw [hpl]; rfl, HSq.out, HEND.out _ rj k H1 D2 _ _ ⟨HZq.out.row, own_down HZq.out.own HFIN.out.2.2.2.2⟩ HKR.out HFIN.out.2.2.2.1 HFIN.out.2.1 HFIN.out.1 HFIN.out.2.2.1, HOq.out⟩
            · rw [hv] at hd
              have HD := Lib.hid hd
              have hlt : rj < opn D2 R := by
                rw [← HJO.out, opn_step hv]
                have := opn_ge (l := D2) (c := rj + 1)
                omega
              have HLT := Lib.hid hlt
              have HNX := Lib.hid (show opn D2 (rj + 1) = opn D2 R by rw [← HJO.out, opn_step hv])
              have HPS := Lib.hid (show past (sz b) ((R : Int) % sz b) (j + 1) = past (sz b) ((R : Int) % sz b) j ++ [(rj : Int) % sz b] by rw [past_succ, HMO.out, hRJ])
              have HNU2 := Lib.hid (HNU.out _ _ _ _ _ HZx.out.row rj)
              have hsz8 : w3.heap.size ≤ wr.heap.size := by have h4 := own_block HZx.out.own g7 rfl; omega
              obtain ⟨A', c', w10, hrun, hown, hon⟩ := own_next (T := 85) (E := 3) (u := .int .i64 ((rj : Int) % sz b)) (by kernel_rfl) (show (Try.prog.info? 3).map (fun i => (i.zero, i.size, i.bytes)) = some (some (.int .i64 0), 1, 8) by kernel_rfl) rfl (by omega) rfl HOW8.out hsz8 (by have := HPL.out; omega)
              have HRUN := Lib.hid hrun
              have HZ10 := Lib.hid (HZx.out.only hon (fun hk => by have h1 := (own_block HOW8.out _ hk).1; have h2 := HYI.out; omega) (own_types HZx.out.own HOW8.out (by decide)))
              have HZ11 := Lib.hid (HZ10.out.moveR (rj + 1))
              have HOW11 := Lib.hid (own_only hown ((Only.refl (fun k => k = y) w10).set (p := ⟨y, 2, none⟩) (.inl rfl) (.int .i64 ((rj + 1 : Nat) : Int))) (fun k hk e => by subst e; have h1 := (own_block hown _ hk).1; have h2 := HYI.out; omega))
              have HO11 := Lib.hid ((HOx.out.andThen (T := fun k => w3.heap.size ≤ k) (hon.weaker (fun k _ hk => (own_block HOW8.out k hk).1)) (fun k h1 h2 => by have := HB3w.out; omega)).set (p := ⟨y, 2, none⟩) (.inl rfl) (.int .i64 ((rj + 1 : Nat) : Int)))
              have f2 := HZ10.out.row.free 2
              obtain ⟨e0, e1, e2, e3, e4, e5⟩ := ycells HZ10.out.row
              clear hd hv hlt hrun hown hon hRJ
              go_wp2_with (first
                | (go_at_call 203; (with_reducible refine HD.out.mono ?_); rintro e w9 ⟨rfl, rfl⟩)
                | (go_at_call 204; (with_reducible refine HNU2.out.mono ?_); rintro e w9 ⟨rfl, rfl⟩)
                | (at_builtin; refine wpList_is rfl (.tmp 75) (.tmp 82) 85 rfl _ _ (by rfl) (by rfl) HRUN.out ?_)
                | go_in)
              go_roundw
              case rel => exact ⟨j + 1, Lib.hid (by rw [HRJ.out]; exact HLT.out), Lib.hid (by rw [HRJ.out]; exact HNX.out), Lib.hid (by rw [HRJ.out]; exact HZ11.out), Lib.hid (by rw [HPS.out, List.length_append, ints_app]; exact HOW11.out), HO11⟩
              case measure => simp only [slLen]; have h1 := HPL.out; have h2 := HLT.out; have h3 := HRJ2.out; omega
        · rw [hv] at hd
          have HD := Lib.hid hd
          have hkl := getD_lt hv
          have HKN := Lib.hid (show k + 1 ≤ H1 by have h1 := HML2.out; have h2 := HMN.out; have h3 := HH1.out; have h4 := HGL.out; have h5 := HK.out; omega)
          have HZN := Lib.hid (HZr.out.moveM (k + 1))
          have HN := Lib.hid (show opn D2 (k + 1) = opn D2 M by rw [← HOr.out, opn_step hv])
          have f3 := HZr.out.row.free 3
          have HCM := Lib.hid (show cellNat y 3 wr = k by unfold cellNat; rw [c3]; simp)
          clear hd hv hkl
          go_wp2_with (go_at_call 203; (with_reducible refine HD.out.mono ?_); rintro e w8 ⟨rfl, rfl⟩)
          go_roundw
          case rel => exact ⟨k + 1, Lib.hid ⟨by have := HK2.out.1; omega, HKN.out⟩, HZN, HN, Lib.hid (HOn.out.set (p := ⟨y, 3, none⟩) (.inl rfl) _)⟩
          case measure =>
            rw [HCM.out]
            have h1 := (ycells HZN.out.row).2.2.2.1
            have h2 : cellNat y 3 (wr.setCell ⟨y, 3, none⟩ (.int .i64 ((k : Int) + 1))) = k + 1 := by
              have h1' : (wr.setCell ⟨y, 3, none⟩ (.int .i64 ((k : Int) + 1))).cell? ⟨y, 3, none⟩ = some (.int .i64 ((k : Int) + 1)) := h1
              unfold cellNat
              rw [h1']
              show ((k : Int) + 1).toNat = k + 1
              omega
            rw [h2]
            have := HKN.out
            omega
end
end Go.Proofs.Ytgdpjaojlhdhdaa
namespace Go.Proofs.Ytgdpjaojlhdhdaa
open Go.RowKit Go.Maps

def ZX : Array Value := #[.int .i64 0, .int .i64 0, .int .i64 0, .int .i64 0, .int .i64 0, .map none]
section
variable {w : World} {x : Nat}
set_option maxRecDepth 100000 in
theorem xn_reset (w : World) : Calls Try.prog 64 #[.pointer none] w fun e w' => e = .returned (.tuple #[]) ∧ Below w.heap.size w w' := by
  go_enter Try.func64, Try.ntmps64
  go_wp2_with (go_at_call 198; (with_reducible refine (xmade_nil _).mono ?_); rintro e w1 ⟨rfl, hb1⟩; (have HB1 := Lib.hid hb1; clear hb1))
  go_end0
  exact ⟨rfl, HB1.out⟩
set_option maxRecDepth 100000 in
theorem xn_fault (n : Int) (w : World) : Calls Try.prog 193 #[.pointer none, .int .i64 n] w fun e w' => e = .returned (.int .i64 6) ∧ Below w.heap.size w w' := by
  go_enter Try.func193, Try.ntmps193
  go_wp2_with (go_at_call 198; (with_reducible refine (xmade_nil _).mono ?_); rintro e w1 ⟨rfl, hb1⟩; (have HB1 := Lib.hid hb1; clear hb1))
  go_ret
  exact ⟨rfl, HB1.out⟩
set_option maxRecDepth 100000 in
theorem xz_fault (h : Row w x 103 ZX) (n : Int) : Calls Try.prog 193 #[.pointer (some ⟨x, 0, none⟩), .int .i64 n] w fun e w' => e = .returned (.int .i64 6) ∧ Below w.heap.size w w' := by
  have HM := Lib.hid (xmade_zero h)
  clear h
  go_enter Try.func193, Try.ntmps193
  go_wp2_with (go_at_call 198; (with_reducible refine HM.out.mono ?_); rintro e w1 ⟨rfl, hb1⟩; (have HB1 := Lib.hid hb1; clear hb1))
  go_ret
  exact ⟨rfl, HB1.out⟩
set_option maxRecDepth 100000 in
theorem xn_whole (n : Int) (w : World) : Calls Try.prog 52 #[.pointer none, .int .i64 n] w fun e w' => e = .returned (.tuple #[.slice none 0 0, .int .i64 6]) ∧ Below w.heap.size w w' := by
  go_enter Try.func52, Try.ntmps52
  go_wp2_with (go_at_call 193; (with_reducible refine (xn_fault _ _).mono ?_); rintro e w1 ⟨rfl, hb1⟩; (have HB1 := Lib.hid hb1; clear hb1))
  go_ret2
  exact ⟨rfl, HB1.out⟩
set_option maxRecDepth 100000 in
theorem xz_came (h : Row w x 103 ZX) (n : Int) : Calls Try.prog 51 #[.pointer (some ⟨x, 0, none⟩), .int .i64 n] w fun e w' => e = .returned (.int .i64 6) ∧ Below w.heap.size w w' := by
  have HM := Lib.hid (xz_fault h n)
  clear h
  go_enter Try.func51, Try.ntmps51
  go_wp2_with (go_at_call 193; (with_reducible refine HM.out.mono ?_); rintro e w1 ⟨rfl, hb1⟩; (have HB1 := Lib.hid hb1; clear hb1))
  go_ret
  exact ⟨rfl, HB1.out⟩
set_option maxRecDepth 100000 in
theorem xn_late (n : Int) (w : World) : Calls Try.prog 53 #[.pointer none, .int .i64 n] w fun e w' => e = .returned (.int .i64 6) ∧ Below w.heap.size w w' := by
  go_enter Try.func53, Try.ntmps53
  go_wp2_with (go_at_call 198; (with_reducible refine (xmade_nil _).mono ?_); rintro e w1 ⟨rfl, hb1⟩; (have HB1 := Lib.hid hb1; clear hb1))
  go_ret
  exact ⟨rfl, HB1.out⟩
set_option maxRecDepth 100000 in
theorem xn_in (n : Int) (w : World) : Calls Try.prog 58 #[.pointer none, .int .i64 n] w fun e w' => e = .returned (.bool false) ∧ Below w.heap.size w w' := by
  go_enter Try.func58, Try.ntmps58
  go_wp2_with (go_at_call 198; (with_reducible refine (xmade_nil _).mono ?_); rintro e w1 ⟨rfl, hb1⟩; (have HB1 := Lib.hid hb1; clear hb1))
  go_ret
  exact ⟨rfl, HB1.out⟩
set_option maxRecDepth 100000 in
theorem xz_is (h : Row w x 103 ZX) (n : Int) : Calls Try.prog 56 #[.pointer (some ⟨x, 0, none⟩), .int .i64 n] w fun e w' => e = .returned (.bool false) ∧ Below w.heap.size w w' := by
  have HM := Lib.hid (xmade_zero h)
  clear h
  go_enter Try.func56, Try.ntmps56
  go_wp2_with (go_at_call 198; (with_reducible refine HM.out.mono ?_); rintro e w1 ⟨rfl, hb1⟩; (have HB1 := Lib.hid hb1; clear hb1))
  go_ret
  exact ⟨rfl, HB1.out⟩
set_option maxRecDepth 100000 in
theorem xn_far (n : Int) (w : World) : Calls Try.prog 55 #[.pointer none, .int .i64 n] w fun e w' => e = .returned (.int .i64 0) ∧ Below w.heap.size w w' := by
  go_enter Try.func55, Try.ntmps55
  go_wp2_with (go_at_call 198; (with_reducible refine (xmade_nil _).mono ?_); rintro e w1 ⟨rfl, hb1⟩; (have HB1 := Lib.hid hb1; clear hb1))
  go_ret
  exact ⟨rfl, HB1.out⟩
set_option maxRecDepth 100000 in
theorem xz_missing (h : Row w x 103 ZX) : Calls Try.prog 57 #[.pointer (some ⟨x, 0, none⟩)] w fun e w' => e = .returned (.slice none 0 0) ∧ Below w.heap.size w w' := by
  have HM := Lib.hid (xmade_zero h)
  clear h
  go_enter Try.func57, Try.ntmps57
  go_wp2_with (go_at_call 198; (with_reducible refine HM.out.mono ?_); rintro e w1 ⟨rfl, hb1⟩; (have HB1 := Lib.hid hb1; clear hb1))
  go_ret
  exact ⟨rfl, HB1.out⟩
set_option maxRecDepth 100000 in
set_option maxHeartbeats 800000 in
theorem xn_state (w : World) : Calls Try.prog 54 #[.pointer none] w fun e w' => e = .returned (.agg #[.int .i64 0, .int .i64 0, .int .i64 0]) ∧ Below w.heap.size w w' := by
  go_enter Try.func54, Try.ntmps54
  go_wp2_with (first
    | (go_at_call 198; (with_reducible refine (xmade_nil _).mono ?_); rintro e w1 ⟨rfl, hb1⟩; (have HB1 := Lib.hid (bl_step (bl_alloc (Below.refl w.heap.size w) (.cells #[.int .i64 0, .int .i64 0, .int .i64 0] 88)) hb1); have hl := (Row.made w 88 #[.int .i64 0, .int .i64 0, .int .i64 0]).later hb1; have HL := Lib.hid hl; obtain ⟨d0, d1, d2⟩ := arr_cells hl; have f0 := hl.free 0; have f1 := hl.free 1; have f2 := hl.free 2; clear hb1 hl)))
  refine bodyPost_ret (results_cell_row rfl _ _ w.heap.size 88 #[.int .i64 0, .int .i64 0, .int .i64 0] (0, 0) _ rfl (((HL.out.written 0 (.int .i64 0)).written 1 (.int .i64 0)).written 2 (.int .i64 0)) Try.underlying88 rfl (by kernel_rfl)) rfl ?_
  exact ⟨rfl, ((((Only.of_below HB1.out).set (S := fun k => k = w.heap.size) (p := ⟨w.heap.size, 0, none⟩) (.inl rfl) _).set (p := ⟨w.heap.size, 1, none⟩) (.inl rfl) _).set (p := ⟨w.heap.size, 2, none⟩) (.inl rfl) _ |>.below (Nat.le_refl _) (fun k hk e => by rcases e with e | e <;> omega))⟩
set_option maxRecDepth 100000 in
set_option maxHeartbeats 1600000 in
theorem xsame_any {A1 A2 : Option Addr} {B1 B2 n : Nat} (c1 c2 : Nat) (xs : List Int) (w : World) (hn : xs.length = n) (hb : n ≤ 100000) (h1 : SlAt B1 3 w A1 (ints xs)) (h2 : SlAt B2 3 w A2 (ints xs)) :
    Calls Try.prog 62 #[.slice A1 n c1, .slice A2 n c2] w fun e w' => e = .returned (.bool true) ∧ Below w.heap.size w w' := by
  have H1 := Lib.hid h1
  have H2 := Lib.hid h2
  have HN := Lib.hid hn
  clear h1 h2 hn
  go_enter Try.func62, Try.ntmps62
  go_wp2
  go_loopw [5] (fun s5 wr => ∃ i : Nat, i ≤ n ∧ s5 = .int .i64 i ∧ Hid (Below w.heap.size w wr)) (fun s5 _ => n - (intOf s5).toNat)
  case atStart => exact ⟨0, by omega, rfl, Lib.hid (Below.refl _ _)⟩
  case round =>
    obtain ⟨i, hi, rfl, HB⟩ := hrel
    by_cases hlt : i < n
    · have h1 : (i : Int) < n := by omega
      have h0 : (0 : Int) ≤ i := by omega
      obtain ⟨v, hv⟩ : ∃ v, xs[i]? = some v := ⟨_, List.getElem?_eq_getElem (by rw [HN.out]; exact hlt)⟩
      have hvv : (ints xs)[i]? = some (.int .i64 v) := by unfold ints; rw [List.getElem?_map, hv]; rfl
      obtain ⟨g1, rfl, z1⟩ := (H1.out.later HB.out).cell hvv
      obtain ⟨g2, rfl, z2⟩ := (H2.out.later HB.out).cell hvv
      have HLT := Lib.hid hlt
      clear hv hvv hlt
      go_wp2
      go_quiet (fail)
      go_wp2
      go_roundw
      case rel => exact ⟨i + 1, by have := HLT.out; omega, by go_num, Lib.hid (below_drewN HB.out _)⟩
      case measure => have := HLT.out; simp [intOf]; omega
    · have h1 : ¬ (i : Int) < n := by omega
      clear hlt
      go_wp2
      go_ret
      exact ⟨rfl, HB.out⟩
end
end Go.Proofs.Ytgdpjaojlhdhdaa
