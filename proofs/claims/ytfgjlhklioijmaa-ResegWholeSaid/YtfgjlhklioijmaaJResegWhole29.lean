/-
  Which packets of amd may be: the document's Size, one of its ways. Which packets of amd may be: the document's Size, one of its ways. Which packets of amd may be: the document's Size, one of its ways. Which packets of amd may be, and how many bytes they are: the document's answer, whatever the packet. reseg, the document's: is a place at a field's beginning or end?. An append whose run is known, at a drawn region. reseg, the document's: pieces that grow byte by byte. glue: what is held, what is lost, what is told: plain lists.
-/
import Derived.Test.YtfgjlhklioijmaaJResegWhole22
import Derived.Test.YtfgjlhklioijmaaJResegWhole28
import Derived.Test.YtfgjlhklioijmaaJResegWhole01
import Derived.Deep.RegionLaw
namespace Go.Proofs.Ytfgjlhklioijmaa
open Go.RowKit

set_option maxRecDepth 100000 in
set_option maxHeartbeats 6400000 in
theorem rs_nlast {A : Option Addr} (poll : Bool) (fi sn off wd hf hp lw ow top z : Int) (ok : Bool) (n cap : Nat) (w : World) (hz0 : (hf == 0) = false) (h1 : decide (fi < 0) = false) (h2 : decide (3 < fi) = false) (hok : ok = true) (h3 : decide (off < 0) = false) (h4 : decide (top ≤ off) = false)
    (hW : ∀ W, Calls Try.prog 130 #[.int .i64 wd] W fun e w' => e = .returned (.tuple #[.int .i64 lw, .int .i64 ow]) ∧ W = w') (hH : ∀ W, Calls Try.prog 30 #[.bool false, .int .i64 wd] W fun e w' => e = .returned (.int .i64 hf) ∧ W = w') (hP : ∀ W, Calls Try.prog 30 #[.bool false, .int .i64 wd] W fun e w' => e = .returned (.int .i64 hp) ∧ W = w')
    (hI : ∀ W, Calls Try.prog 131 #[.int .i64 wd, .int .i64 sn] W fun e w' => e = .returned (.bool ok) ∧ W = w') (hS : ∀ W, Calls Try.prog 132 #[.int .i64 ow] W fun e w' => e = .returned (.int .i64 top) ∧ W = w')
    (hFI : ∀ W, Below w.heap.size w W → Calls Try.prog 133 #[.slice A n cap, .int .i64 hp, .int .i64 lw] W fun e w' => e = .returned (.int .i64 z) ∧ W = w') :
    Calls Try.prog 22 #[.agg #[.bool poll, .int .i64 fi, .int .i64 sn, .bool false, .bool true, .int .i64 off, .slice A n cap], .int .i64 wd] w fun e w' => e = .returned (.int .i64 0) ∧ Below w.heap.size w w' := by
  have HW := Lib.hid hW
  have HSH := Lib.hid hH
  have HSP := Lib.hid hP
  have HI := Lib.hid hI
  have HSZ := Lib.hid hS
  have HFI := Lib.hid hFI
  have ROW0 := Lib.hid (Row.made w 28 #[.bool poll, .int .i64 fi, .int .i64 sn, .bool false, .bool true, .int .i64 off, .slice A n cap])
  have HB0 := Lib.hid (bl_alloc (Below.refl w.heap.size w) (.cells #[.bool poll, .int .i64 fi, .int .i64 sn, .bool false, .bool true, .int .i64 off, .slice A n cap] 28))
  try subst hok
  clear hW hH hP hI hS hFI
  go_enter Try.func22, Try.ntmps22
  go_wp2_with (go_at_call 130; refine (HW.out _).mono ?_; rintro e w1 ⟨rfl, rfl⟩)
  go_quiet ((first | (go_at_call 30; exact Calls.quiet_of_same ((HSH.out _).mono fun e w' h => ⟨h.1, h.2.symm⟩)) | (go_at_call 131; exact Calls.quiet_of_same ((HI.out _).mono fun e w' h => ⟨h.1, h.2.symm⟩)) | (go_at_call 132; exact Calls.quiet_of_same ((HSZ.out _).mono fun e w' h => ⟨h.1, h.2.symm⟩))))
  go_wp2
  go_ret
  exact ⟨rfl, below_drewN HB0.out _⟩
end Go.Proofs.Ytfgjlhklioijmaa
namespace Go.Proofs.Ytfgjlhklioijmaa
open Go.RowKit

set_option maxRecDepth 100000 in
set_option maxHeartbeats 6400000 in
theorem rs_good0 {A : Option Addr} (poll : Bool) (fi sn wd hf hp lw ow top z : Int) (ok : Bool) (n cap : Nat) (w : World) (hz0 : (hf == 0) = false) (h1 : decide (fi < 0) = false) (h2 : decide (3 < fi) = false) (hok : ok = true) (h4 : decide (top ≤ 0) = false)
    (hW : ∀ W, Calls Try.prog 130 #[.int .i64 wd] W fun e w' => e = .returned (.tuple #[.int .i64 lw, .int .i64 ow]) ∧ W = w') (hH : ∀ W, Calls Try.prog 30 #[.bool false, .int .i64 wd] W fun e w' => e = .returned (.int .i64 hf) ∧ W = w') (hP : ∀ W, Calls Try.prog 30 #[.bool false, .int .i64 wd] W fun e w' => e = .returned (.int .i64 hp) ∧ W = w')
    (hI : ∀ W, Calls Try.prog 131 #[.int .i64 wd, .int .i64 sn] W fun e w' => e = .returned (.bool ok) ∧ W = w') (hS : ∀ W, Calls Try.prog 132 #[.int .i64 ow] W fun e w' => e = .returned (.int .i64 top) ∧ W = w')
    (hFI : ∀ W, Below w.heap.size w W → Calls Try.prog 133 #[.slice A n cap, .int .i64 hp, .int .i64 lw] W fun e w' => e = .returned (.int .i64 z) ∧ W = w') :
    Calls Try.prog 22 #[.agg #[.bool poll, .int .i64 fi, .int .i64 sn, .bool false, .bool false, .int .i64 0, .slice A n cap], .int .i64 wd] w fun e w' => e = .returned (.int .i64 z) ∧ Below w.heap.size w w' := by
  have HW := Lib.hid hW
  have HSH := Lib.hid hH
  have HSP := Lib.hid hP
  have HI := Lib.hid hI
  have HSZ := Lib.hid hS
  have HFI := Lib.hid hFI
  have ROW0 := Lib.hid (Row.made w 28 #[.bool poll, .int .i64 fi, .int .i64 sn, .bool false, .bool false, .int .i64 0, .slice A n cap])
  have HB0 := Lib.hid (bl_alloc (Below.refl w.heap.size w) (.cells #[.bool poll, .int .i64 fi, .int .i64 sn, .bool false, .bool false, .int .i64 0, .slice A n cap] 28))
  try subst hok
  clear hW hH hP hI hS hFI
  go_enter Try.func22, Try.ntmps22
  go_wp2_with (go_at_call 130; refine (HW.out _).mono ?_; rintro e w1 ⟨rfl, rfl⟩)
  go_quiet ((first | (go_at_call 30; exact Calls.quiet_of_same ((HSH.out _).mono fun e w' h => ⟨h.1, h.2.symm⟩)) | (go_at_call 131; exact Calls.quiet_of_same ((HI.out _).mono fun e w' h => ⟨h.1, h.2.symm⟩)) | (go_at_call 132; exact Calls.quiet_of_same ((HSZ.out _).mono fun e w' h => ⟨h.1, h.2.symm⟩))))
  go_wp2_with fail
  have ROW1 := Lib.hid (ROW0.out.later (below_drewN (Below.refl (w.alloc (.cells #[.bool poll, .int .i64 fi, .int .i64 sn, .bool false, .bool false, .int .i64 0, .slice A n cap] 28)).heap.size (w.alloc (.cells #[.bool poll, .int .i64 fi, .int .i64 sn, .bool false, .bool false, .int .i64 0, .slice A n cap] 28))) nq))
  have HB1 := Lib.hid (below_drewN HB0.out nq)
  generalize (w.alloc (.cells #[.bool poll, .int .i64 fi, .int .i64 sn, .bool false, .bool false, .int .i64 0, .slice A n cap] 28)).drewN nq = W1 at *
  obtain ⟨⟨c0, c1, c2, c3, c4, c5, c6⟩, _⟩ := cells_ref10 (show Row W1.drew _ _ _ from ROW1.out.drawn)
  go_region_held3 (fun w' => w'.cell? ⟨w.heap.size, 1, none⟩ = some (.int .i64 fi) ∧ w'.cell? ⟨w.heap.size, 2, none⟩ = some (.int .i64 sn) ∧ w'.cell? ⟨w.heap.size, 3, none⟩ = some (.bool false) ∧ w'.cell? ⟨w.heap.size, 4, none⟩ = some (.bool false) ∧ w'.cell? ⟨w.heap.size, 5, none⟩ = some (.int .i64 0) ∧ w'.cell? ⟨w.heap.size, 6, none⟩ = some (.slice A n cap)) (first | assumption | go_keep) (first
    | (go_at_call 30; (with_reducible refine (HSP.out _).mono ?_); rintro e wx ⟨rfl, rfl⟩)
    | (go_at_call 133; (with_reducible refine (HFI.out _ (HB1.out.drew)).mono ?_); rintro e wy ⟨rfl, rfl⟩))
  go_wp2
  go_ret
  exact ⟨rfl, HB1.out.drew⟩
end Go.Proofs.Ytfgjlhklioijmaa
namespace Go.Proofs.Ytfgjlhklioijmaa
open Go.RowKit

set_option maxRecDepth 100000 in
set_option maxHeartbeats 6400000 in
theorem rs_good1 {A : Option Addr} (poll last : Bool) (fi sn off wd hf hp lw ow top z : Int) (ok : Bool) (n cap : Nat) (w : World) (hz0 : (hf == 0) = false) (h1 : decide (fi < 0) = false) (h2 : decide (3 < fi) = false) (hok : ok = true) (h3 : decide (off < 0) = false) (h4 : decide (top ≤ off) = false)
    (hW : ∀ W, Calls Try.prog 130 #[.int .i64 wd] W fun e w' => e = .returned (.tuple #[.int .i64 lw, .int .i64 ow]) ∧ W = w') (hH : ∀ W, Calls Try.prog 30 #[.bool false, .int .i64 wd] W fun e w' => e = .returned (.int .i64 hf) ∧ W = w') (hP : ∀ W, Calls Try.prog 30 #[.bool true, .int .i64 wd] W fun e w' => e = .returned (.int .i64 hp) ∧ W = w')
    (hI : ∀ W, Calls Try.prog 131 #[.int .i64 wd, .int .i64 sn] W fun e w' => e = .returned (.bool ok) ∧ W = w') (hS : ∀ W, Calls Try.prog 132 #[.int .i64 ow] W fun e w' => e = .returned (.int .i64 top) ∧ W = w')
    (hFI : ∀ W, Below w.heap.size w W → Calls Try.prog 133 #[.slice A n cap, .int .i64 hp, .int .i64 lw] W fun e w' => e = .returned (.int .i64 z) ∧ W = w') :
    Calls Try.prog 22 #[.agg #[.bool poll, .int .i64 fi, .int .i64 sn, .bool true, .bool last, .int .i64 off, .slice A n cap], .int .i64 wd] w fun e w' => e = .returned (.int .i64 z) ∧ Below w.heap.size w w' := by
  have HW := Lib.hid hW
  have HSH := Lib.hid hH
  have HSP := Lib.hid hP
  have HI := Lib.hid hI
  have HSZ := Lib.hid hS
  have HFI := Lib.hid hFI
  have ROW0 := Lib.hid (Row.made w 28 #[.bool poll, .int .i64 fi, .int .i64 sn, .bool true, .bool last, .int .i64 off, .slice A n cap])
  have HB0 := Lib.hid (bl_alloc (Below.refl w.heap.size w) (.cells #[.bool poll, .int .i64 fi, .int .i64 sn, .bool true, .bool last, .int .i64 off, .slice A n cap] 28))
  try subst hok
  clear hW hH hP hI hS hFI
  go_enter Try.func22, Try.ntmps22
  go_wp2_with (go_at_call 130; refine (HW.out _).mono ?_; rintro e w1 ⟨rfl, rfl⟩)
  go_quiet ((first | (go_at_call 30; exact Calls.quiet_of_same ((HSH.out _).mono fun e w' h => ⟨h.1, h.2.symm⟩)) | (go_at_call 131; exact Calls.quiet_of_same ((HI.out _).mono fun e w' h => ⟨h.1, h.2.symm⟩)) | (go_at_call 132; exact Calls.quiet_of_same ((HSZ.out _).mono fun e w' h => ⟨h.1, h.2.symm⟩))))
  go_wp2_with fail
  have ROW1 := Lib.hid (ROW0.out.later (below_drewN (Below.refl (w.alloc (.cells #[.bool poll, .int .i64 fi, .int .i64 sn, .bool true, .bool last, .int .i64 off, .slice A n cap] 28)).heap.size (w.alloc (.cells #[.bool poll, .int .i64 fi, .int .i64 sn, .bool true, .bool last, .int .i64 off, .slice A n cap] 28))) nq))
  have HB1 := Lib.hid (below_drewN HB0.out nq)
  generalize (w.alloc (.cells #[.bool poll, .int .i64 fi, .int .i64 sn, .bool true, .bool last, .int .i64 off, .slice A n cap] 28)).drewN nq = W1 at *
  obtain ⟨⟨c0, c1, c2, c3, c4, c5, c6⟩, _⟩ := cells_ref10 (show Row W1.drew _ _ _ from ROW1.out.drawn)
  go_region_held3 (fun w' => w'.cell? ⟨w.heap.size, 1, none⟩ = some (.int .i64 fi) ∧ w'.cell? ⟨w.heap.size, 2, none⟩ = some (.int .i64 sn) ∧ w'.cell? ⟨w.heap.size, 3, none⟩ = some (.bool true) ∧ w'.cell? ⟨w.heap.size, 4, none⟩ = some (.bool last) ∧ w'.cell? ⟨w.heap.size, 5, none⟩ = some (.int .i64 off) ∧ w'.cell? ⟨w.heap.size, 6, none⟩ = some (.slice A n cap)) (first | assumption | go_keep) (first
    | (go_at_call 30; (with_reducible refine (HSP.out _).mono ?_); rintro e wx ⟨rfl, rfl⟩)
    | (go_at_call 133; (with_reducible refine (HFI.out _ (HB1.out.drew)).mono ?_); rintro e wy ⟨rfl, rfl⟩))
  go_wp2
  go_ret
  exact ⟨rfl, HB1.out.drew⟩
end Go.Proofs.Ytfgjlhklioijmaa
namespace Go.Proofs.Ytfgjlhklioijmaa
open Go.RowKit

theorem rasize_any {A : Option Addr} {L : List RowB} (poll part last : Bool) (fi sn off wd : Int) (n cap : Nat) (w : World) (hL : L.length = n) (hn : n ≤ 40) (hsum : (lens L).sum ≤ 9000) (hs : RSrc w A L) :
    Calls Try.prog 22 #[.agg #[.bool poll, .int .i64 fi, .int .i64 sn, .bool part, .bool last, .int .i64 off, .slice A n cap], .int .i64 wd] w fun e w' => e = .returned (.int .i64 (amdF part last fi sn off (lens L) wd)) ∧ Below w.heap.size w w' := by
  have hI := fun W => ris_any wd sn W
  have hH := fun W => rahead_any false wd W
  have hP := fun W => rahead_any part wd W
  have hW := fun W => rwidths_any wd W
  have hhd := headA_nonneg part wd
  have hFI := fun W (hb : Below w.heap.size w W) => rfields_any (A := A) n cap (headA part wd) (lwA wd) W hL hn hsum hhd.1 hhd.2 (hs.later hb)
  have hS := fun W => rsize_any (owA wd) W
  have z0 : ∀ {F : Int}, F = 0 → ∀ e w', (e = Ending.returned (.int .i64 0) ∧ Below w.heap.size w w') → e = .returned (.int .i64 F) ∧ Below w.heap.size w w' := by
    rintro F rfl e w' h
    exact h
  by_cases hw : wd = 10 ∨ wd = 16
  · have htp : sz (owA wd) = topA wd ∧ 0 < topA wd := by
      rcases hw with rfl | rfl
      · exact ⟨by decide, by decide⟩
      · exact ⟨by decide, by decide⟩
    obtain ⟨hsz, htop⟩ := htp
    have hz0 : (headA false wd == 0) = false := by have := (headA_code (part := false) hw).1; simp; omega
    by_cases h1 : fi < 0
    · exact (rs_fi0 poll part last fi sn off wd _ _ _ _ _ _ _ n cap w hz0 h1 hW hH hP hI hS hFI).mono (z0 (by unfold amdF; rw [if_neg (by omega)]))
    · have h1' : decide (fi < 0) = false := decide_eq_false h1
      by_cases h2 : 3 < fi
      · exact (rs_fi3 poll part last fi sn off wd _ _ _ _ _ _ _ n cap w hz0 h1' (decide_eq_true h2) hW hH hP hI hS hFI).mono (z0 (by unfold amdF; rw [if_neg (by omega)]))
      · have h2' : decide (3 < fi) = false := decide_eq_false h2
        cases hok : okn wd sn
        · exact (rs_sn poll part last fi sn off wd _ _ _ _ _ _ _ n cap w hz0 h1' h2' hok hW hH hP hI hS hFI).mono (z0 (by unfold amdF; rw [if_neg (by rw [hok]; simp)]))
        · by_cases h3 : off < 0
          · refine (rs_off0 poll part last fi sn off wd _ _ _ _ _ _ _ n cap w hz0 h1' h2' hok (decide_eq_true h3) hW hH hP hI hS hFI).mono (z0 ?_)
            have e : placedA part last off wd = false := by unfold placedA; cases part <;> simp <;> omega
            unfold amdF
            rw [if_neg (by rw [e]; simp)]
          · have h3' : decide (off < 0) = false := decide_eq_false h3
            by_cases h4 : topA wd ≤ off
            · refine (rs_offt poll part last fi sn off wd _ _ _ _ _ _ _ n cap w hz0 h1' h2' hok h3' (decide_eq_true (by rw [hsz]; exact h4)) hW hH hP hI hS hFI).mono (z0 ?_)
              have e : placedA part last off wd = false := by unfold placedA; cases part <;> simp <;> omega
              unfold amdF
              rw [if_neg (by rw [e]; simp)]
            · have h4' : decide (sz (owA wd) ≤ off) = false := decide_eq_false (by rw [hsz]; exact h4)
              cases part
              · cases last
                · by_cases h5 : 0 < off
                  · refine (rs_noff poll fi sn off wd _ _ _ _ _ _ _ n cap w hz0 h1' h2' hok h3' h4' (decide_eq_true h5) hW hH hP hI hS hFI).mono (z0 ?_)
                    have e : placedA false false off wd = false := by unfold placedA; simp; omega
                    unfold amdF
                    rw [if_neg (by rw [e]; simp)]
                  · obtain rfl : off = 0 := by omega
                    refine (rs_good0 poll fi sn wd _ _ _ _ _ _ _ n cap w hz0 h1' h2' hok h4' hW hH hP hI hS hFI).mono fun e w' h => ?_
                    have e2 : amdF false false fi sn 0 (lens L) wd = fieldsF (lens L) (headA false wd) (lwA wd) := by
                      unfold amdF
                      rw [if_pos ⟨hw, by omega, by omega, hok, rfl⟩]
                    rw [e2]
                    exact h
                · refine (rs_nlast poll fi sn off wd _ _ _ _ _ _ _ n cap w hz0 h1' h2' hok h3' h4' hW hH hP hI hS hFI).mono (z0 ?_)
                  have e : placedA false true off wd = false := by unfold placedA; simp
                  unfold amdF
                  rw [if_neg (by rw [e]; simp)]
              · refine (rs_good1 poll last fi sn off wd _ _ _ _ _ _ _ n cap w hz0 h1' h2' hok h3' h4' hW hH hP hI hS hFI).mono fun e w' h => ?_
                have e2 : amdF true last fi sn off (lens L) wd = fieldsF (lens L) (headA true wd) (lwA wd) := by
                  unfold amdF
                  rw [if_pos ⟨hw, by omega, by omega, hok, by unfold placedA; simp; omega⟩]
                rw [e2]
                exact h
  · have hx : (headA false wd == 0) = true := by
      have : headA false wd = 0 := by unfold headA; rw [if_neg (fun h => hw (.inl h)), if_neg (fun h => hw (.inr h))]
      rw [this]; rfl
    exact (rs_kind poll part last fi sn off wd _ _ _ _ _ _ _ n cap w hx hW hH hP hI hS hFI).mono (z0 (by unfold amdF; rw [if_neg (fun h => hw h.1)]))
end Go.Proofs.Ytfgjlhklioijmaa
namespace Go.Proofs.Ytfgjlhklioijmaa
open Go.RowKit

theorem Try.inforf : (Try.prog.info? 28).map (·.size) = some 7 := by kernel_rfl
end Go.Proofs.Ytfgjlhklioijmaa
namespace Go.Proofs.Ytfgjlhklioijmaa
open Go.RowKit

theorem step_run {P : Program} {ops : Array Oper} {o : Oper} {a : Act} {w : World} {K : Act → World → Prop} {Q : Exit → Act → World → Prop} {E : Prop} (hgd : o.guard = none) (s x : Operand) (t : TypeId)
    (ho : o.op = .call { callee := .builtin .append, args := #[s, x], argTypes := #[t, t] }) (v u : Value) (hs : a.eval s = v) (hx : a.eval x = u) {v' : Value} {w' : World}
    (hr : (Builtin.append_ #[t, t] o.type #[v, u]).run P w = .ok v' w') (h : K (a.put o.dst v') w') :
    if Region.wanted o (yielded ops a.tmps) = true then Oper.wp P o a w K Q else E := by
  have hw : Region.wanted o (yielded ops a.tmps) = true := by simp [Region.wanted, hgd]
  rw [if_pos hw]
  unfold Oper.wp execOp
  simp only [ho, resolve, invoke, builtin, Sem.run_bind, Sem.run_pure, Result.andThen_ok, List.map_toArray, List.map_cons, List.map_nil, hs, hx, hr]
  exact h
end Go.Proofs.Ytfgjlhklioijmaa
namespace Go.Proofs.Ytfgjlhklioijmaa
open Go.RowKit

theorem addr_at (g j : Nat) : (⟨g, 0, none⟩ : Addr).add j = ⟨g, j, none⟩ := by
  unfold Addr.add
  split
  · rename_i h; rw [h]
  · simp
theorem own_set {B e n c g j : Nat} {w : World} {xs : List Value} (h : w.ownsRow B e 1 (.slice (some ⟨g, 0, none⟩) n c) n xs) (x : Value) : (w.setCell ⟨g, j, none⟩ x).ownsRow B e 1 (.slice (some ⟨g, 0, none⟩) n c) n (xs.set j x) := by
  obtain ⟨h1, h2⟩ := h
  rcases h2 with ⟨e1, _⟩ | ⟨g', cap, cur, e1, hB, hh, hn, hc, hsz, htk⟩
  · cases e1
  · injection e1 with e2 e3 e4
    injection e2 with e2
    injection e2 with e2
    subst e2 e4
    refine ⟨by simpa using h1, .inr ⟨g, c, cur.setIfInBounds j x, rfl, hB, (show Row w g e cur from hh).written j x, hn, hc, by simpa using hsz, ?_⟩⟩
    rw [Array.toList_setIfInBounds, List.take_set]
    rw [htk]
theorem slic_fresh {ls d : List Nat} {a N x : Nat} (h : N = 0 ∨ edgeF ls (a + N) = true) (hx : d[a + N]? = some x) : slic (d.drop a) (pcs ls a (N + 1)) = slic (d.drop a) (pcs ls a N) ++ [[x]] := by
  rw [pcs_new h, slic_append, pcs_sum, List.drop_drop]
  obtain ⟨hi, rfl⟩ := List.getElem?_eq_some_iff.1 hx
  have e : List.take 1 (d.drop (a + N)) = [d[a + N]] := by rw [List.drop_eq_getElem_cons hi]; rfl
  simp only [slic]
  rw [e]
theorem slic_more {ls d : List Nat} {a N x : Nat} {T : List (List Nat)} {f : List Nat} (h0 : 0 < N) (h : edgeF ls (a + N) = false) (hx : d[a + N]? = some x) (ht : slic (d.drop a) (pcs ls a N) = T ++ [f]) : slic (d.drop a) (pcs ls a (N + 1)) = T ++ [f ++ [x]] := by
  obtain ⟨P, m, h1, h2, h3, _, h5⟩ := pcs_last ls a h0
  have hs := pcs_sum ls a N
  rw [h1] at hs ht
  simp at hs
  rw [pcs_more h0 h h1, slic_append]
  rw [slic_append] at ht
  simp only [slic] at ht ⊢
  obtain ⟨e1, e2⟩ := List.append_inj' ht rfl
  rw [e1]
  have e3 : f = ((d.drop a).drop P.sum).take m := by
    injection e2 with e2
    exact e2.symm
  rw [e3]
  congr 2
  obtain ⟨hi, rfl⟩ := List.getElem?_eq_some_iff.1 hx
  rw [List.drop_drop, List.take_succ_eq_append_getElem (by rw [List.length_drop]; omega), List.getElem_drop]
  congr 2
  have : a + P.sum + m = a + N := by omega
  simp [this]
/-- at the loop's head -/
structure RcI (B : Nat) (w0 : World) (pk zk : Array Value) (sn : Int) (ls d : List Nat) (a b : Nat) (room lw : Int) (pb po : Nat) (ad : Addr) (dc : Nat) (N : Nat) (v : Value) (M : List RowB) (w : World) : Prop where
  n1 : a + N ≤ b
  n2 : N = 0 ∨ costP ls a lw N ≤ room
  own : OwnR B w v M
  txt : texts M = slic (d.drop a) (pcs ls a N)
  data : OwnY B w (.slice (some ad) ls.sum dc) d
  len : d.length = ls.sum
  rp : Row w pb 28 pk
  rr : Row w (pb + 1) 28 zk
  rz : Row w (pb + 2) 28 zk
  ro : Row w po 28 #[.bool false, .int .i64 0, .int .i64 sn, .bool true, .bool false, .int .i64 a, v]
  apart : pb ≠ po ∧ pb + 1 ≠ po ∧ pb + 2 ≠ po ∧ B ≤ po
  below : Below B w0 w
/-- between: the last piece is to grow -/
structure RcT (B : Nat) (w0 : World) (pk zk : Array Value) (sn : Int) (ls d : List Nat) (a : Nat) (pb po : Nat) (ad : Addr) (dc : Nat) (g k c : Nat) (M : List RowB) (r : RowB) (w : World) : Prop where
  own : w.ownsRow B 30 1 (.slice (some ⟨g, 0, none⟩) (k + 1) c) (k + 1) (M.map RowB.v ++ [r.v])
  count : M.length = k
  mine : ∀ r ∈ M, r.mine B w
  last : Src w r.A (bts r.bs)
  data : OwnY B w (.slice (some ad) ls.sum dc) d
  len : d.length = ls.sum
  rp : Row w pb 28 pk
  rr : Row w (pb + 1) 28 zk
  rz : Row w (pb + 2) 28 zk
  ro : Row w po 28 #[.bool false, .int .i64 0, .int .i64 sn, .bool true, .bool false, .int .i64 a, .slice (some ⟨g, 0, none⟩) (k + 1) c]
  apart : pb ≠ po ∧ pb + 1 ≠ po ∧ pb + 2 ≠ po ∧ B ≤ po
  below : Below B w0 w
section
variable {B : Nat} {w0 w : World} {pk zk : Array Value} {sn : Int} {ls d : List Nat} {a b : Nat} {room lw : Int} {pb po : Nat} {ad : Addr} {dc N : Nat} {v : Value} {M : List RowB}
theorem RcI.count (h : RcI B w0 pk zk sn ls d a b room lw pb po ad dc N v M w) : M.length = (pcs ls a N).length := by
  have := congrArg List.length h.txt
  rw [length_texts] at this
  rw [this]
  clear this
  generalize d.drop a = D
  generalize pcs ls a N = P
  induction P generalizing D with
  | nil => rfl
  | cons m q ih => simp [slic, ih]
theorem RcI.later {w' : World} (h : RcI B w0 pk zk sn ls d a b room lw pb po ad dc N v M w) (hb : Below w.heap.size w w') (hB : B ≤ w.heap.size) : RcI B w0 pk zk sn ls d a b room lw pb po ad dc N v M w' :=
  ⟨h.n1, h.n2, h.own.later hb, h.txt, h.data.later hb, h.len, h.rp.later hb, h.rr.later hb, h.rz.later hb, h.ro.later hb, h.apart, h.below.trans (hb.mono hB)⟩
/-- a new piece begins -/
theorem RcI.fresh (h : RcI B w0 pk zk sn ls d a b room lw pb po ad dc N v M w) (hB : B ≤ w.heap.size) (hk : M.length ≤ 1000) :
    ∃ g c w2, (Builtin.append_ #[22, 22] 22 #[v, .slice (some ⟨w.heap.size, 0, none⟩) 1 1]).run Try.prog (w.alloc (.cells #[.slice none 0 0] 30)) = .ok (.slice (some ⟨g, 0, none⟩) (M.length + 1) c) w2 ∧
      Row w2 po 28 #[.bool false, .int .i64 0, .int .i64 sn, .bool true, .bool false, .int .i64 a, v] ∧
      RcT B w0 pk zk sn ls d a pb po ad dc g M.length c M ⟨none, 0, []⟩ (w2.setCell ⟨po, 6, none⟩ (.slice (some ⟨g, 0, none⟩) (M.length + 1) c)) := by
  obtain ⟨g, c, w2, h1, h2, h3⟩ := app_row h.own.own hB ⟨none, 0, []⟩ (by omega)
  have hro := h.ro.only h3 (own_apart h.own.own h.ro (by decide))
  have hS := (Only.refl (fun k => k = po) w2).set (p := ⟨po, 6, none⟩) (.inl rfl) (.slice (some ⟨g, 0, none⟩) (M.length + 1) c)
  have hne5 : ∀ k cs, Row w k 5 cs → B ≤ k → ¬ v.ownBlock = some k := fun k cs hk _ => own_apart h.own.own hk (by decide)
  refine ⟨g, c, w2, h1, hro, ⟨?_, rfl, fun r hr => ?_, ?_, ?_, h.len, ?_, ?_, ?_, ?_, h.apart, ?_⟩⟩
  · exact own_only h2 hS (fun k hk e => own_apart h2 hro (by decide) (by rw [hk, e]))
  · exact ((h.own.mine r hr).only h3 hne5).only hS (fun k cs hk _ e => hk.apart hro (by decide) e)
  · intro h0; simp [bts] at h0
  · refine (h.data.only h3 (fun k hk hk2 => ?_)).only hS (fun k hk e => own_apart (h.data.only h3 (fun k hk hk2 => ?_)) hro (by decide) (by rw [hk, e]))
    all_goals
      obtain ⟨cs, hr⟩ := own_block2 h.data hk
      exact own_apart h.own.own hr (by decide) hk2
  · exact (h.rp.only h3 (own_apart h.own.own h.rp (by decide))).only hS h.apart.1
  · exact (h.rr.only h3 (own_apart h.own.own h.rr (by decide))).only hS h.apart.2.1
  · exact (h.rz.only h3 (own_apart h.own.own h.rz (by decide))).only hS h.apart.2.2.1
  · exact hro.written 6 _
  · exact (h.below.trans (own_only_below h.own.own h3 hB)).setCell h.apart.2.2.2 _
/-- the last piece goes on -/
theorem RcI.old (h : RcI B w0 pk zk sn ls d a b room lw pb po ad dc N v M w) (hN : M ≠ []) :
    ∃ g c M0 r, v = .slice (some ⟨g, 0, none⟩) (M0.length + 1) c ∧ M = M0 ++ [r] ∧ RcT B w0 pk zk sn ls d a pb po ad dc g M0.length c M0 r w := by
  obtain ⟨M0, r, rfl⟩ : ∃ M0 r, M = M0 ++ [r] := ⟨M.dropLast, M.getLast hN, (List.dropLast_concat_getLast hN).symm⟩
  have ho := h.own.own
  rw [List.length_append, List.map_append] at ho
  rcases ho.2 with ⟨_, e⟩ | ⟨g, cap, cur, e, _⟩
  · simp at e
  · have e' : v = .slice (some ⟨g, 0, none⟩) (M0.length + 1) cap := e
    subst e'
    exact ⟨g, cap, M0, r, rfl, rfl, ⟨ho, rfl, fun x hx => h.own.mine x (by simp [hx]), (h.own.mine r (by simp)).ok.1, h.data, h.len, h.rp, h.rr, h.rz, h.ro, h.apart, h.below⟩⟩
/-- the last piece has one byte more -/
theorem RcT.grow {B : Nat} {w0 w : World} {pk zk : Array Value} {sn : Int} {ls d : List Nat} {a : Nat} {pb po : Nat} {ad : Addr} {dc g k c : Nat} {M : List RowB} {r : RowB} (h : RcT B w0 pk zk sn ls d a pb po ad dc g k c M r w) (x : Nat) (hx : x < 256) (hB : B ≤ w.heap.size) (hr : r.bs.length ≤ 100000) (hrb : ∀ b ∈ r.bs, b < 256) :
    ∃ A1 c1 w1, (Builtin.append_ #[30, 30] 30 #[.slice none 0 0, .slice r.A r.bs.length r.cap]).run Try.prog w = .ok (.slice A1 r.bs.length c1) w1 ∧
      w1.cell? ⟨po, 6, none⟩ = some (.slice (some ⟨g, 0, none⟩) (k + 1) c) ∧ OwnY B w1 (.slice (some ad) ls.sum dc) d ∧ Below B w w1 ∧
      ∃ A2 c2 w2, (Builtin.append_ #[30, 30] 30 #[.slice A1 r.bs.length c1, .slice (some ⟨w1.drew.heap.size, 0, none⟩) 1 1]).run Try.prog (w1.drew.alloc (.cells #[.int .u8 x] 5)) = .ok (.slice A2 (r.bs.length + 1) c2) w2 ∧
        w2.cell? ⟨po, 6, none⟩ = some (.slice (some ⟨g, 0, none⟩) (k + 1) c) ∧ (∃ y, w2.cell? ⟨g, k, none⟩ = some y) ∧ w2.frozen? ⟨g, k, none⟩ = false ∧ OwnY B w2 (.slice (some ad) ls.sum dc) d ∧ (w2.setCell ⟨g, k, none⟩ (.slice A2 (r.bs.length + 1) c2)).cell? ⟨po, 6, none⟩ = some (.slice (some ⟨g, 0, none⟩) (k + 1) c) ∧ OwnY B (w2.setCell ⟨g, k, none⟩ (.slice A2 (r.bs.length + 1) c2)) (.slice (some ad) ls.sum dc) d ∧
        ∀ (b N : Nat) (room lw : Int), a + N ≤ b → (N = 0 ∨ costP ls a lw N ≤ room) → slic (d.drop a) (pcs ls a N) = texts M ++ [r.bs ++ [x]] →
          RcI B w0 pk zk sn ls d a b room lw pb po ad dc N (.slice (some ⟨g, 0, none⟩) (k + 1) c) (M ++ [⟨A2, c2, r.bs ++ [x]⟩]) (w2.setCell ⟨g, k, none⟩ (.slice A2 (r.bs.length + 1) c2)) := by
  obtain ⟨A1, c1, w1, h1, h2, h3, h4, hat⟩ := app_bytes (B := B) (W := w) (v := .slice none 0 0) (l := []) (y := r.bs) (A := r.A) r.bs.length r.cap (World.ownsRow_nil _ _ _ _) hB h.last rfl (by simp; omega)
  simp only [List.length_nil, Nat.zero_add, List.nil_append] at h1 h2 hat
  have hb1 : Below w.heap.size w w1 := h4.below (Nat.le_refl _) (fun k _ hk => by simp [Value.ownBlock] at hk)
  have hs1 : w.heap.size ≤ w1.heap.size := hb1.size
  have hbU : Below w1.heap.size w1 (w1.drew.alloc (.cells #[.int .u8 x] 5)) := bl_alloc (bl_drew (Below.refl _ _)) _
  have hsU := hbU.size
  have hsrc : Src (w1.drew.alloc (.cells #[.int .u8 x] 5)) (some ⟨w1.drew.heap.size, 0, none⟩) (bts [x]) := row_src (xs := bts [x]) (Row.made w1.drew 5 #[.int .u8 x])
  obtain ⟨A2, c2, w2, g1, g2, g3, g4, _⟩ := app_bytes (B := B) (W := w1.drew.alloc (.cells #[.int .u8 x] 5)) (v := .slice A1 r.bs.length c1) (l := r.bs) (y := [x]) (A := some ⟨w1.drew.heap.size, 0, none⟩) 1 1 (h2.later hbU) (by omega) hsrc rfl (by omega)
  have hfresh : ∀ k, (Value.slice A1 r.bs.length c1).ownBlock = some k → w.heap.size ≤ k := fun k hk => by
    rcases hat with e | e
    · rw [e] at hk; simp [Value.ownBlock] at hk
    · rw [e] at hk; injection hk with hk; omega
  have keepRow : ∀ q t cs, Row w q t cs → Row w2 q t cs := fun q t cs hq => ((hq.later hb1).later hbU).only g4 (fun hk => by have := hfresh q hk; have := hq.inside; omega)
  have hon : Only (fun k => w.heap.size ≤ k) w w2 := (((Only.of_below hb1 : Only (fun k => w.heap.size ≤ k) w w1).andThen (Only.of_below hbU : Only (fun k => w.heap.size ≤ k) w1 _) (fun _ _ h => h)).andThen g4 (fun k _ hk => hfresh k hk))
  have hb2 : Below w.heap.size w w2 := hon.below (Nat.le_refl _) (fun k hk hs => by omega)
  have o2 := own_later2 h.own hb2
  have ho2 : w2.ownsRow B 30 1 (.slice (some ⟨g, 0, none⟩) (k + 1) c) (k + 1) (M.map RowB.v ++ [r.v]) := o2
  obtain ⟨cs, hcs⟩ := own_block2 ho2 (k := g) rfl
  have hlen : (M.map RowB.v).length = k := by simp [h.count]
  have hS := (Only.refl (fun j => j = g) w2).set (p := ⟨g, k, none⟩) (.inl rfl) (.slice A2 (r.bs.length + 1) c2)
  have hset := own_set (j := k) ho2 (.slice A2 (r.bs.length + 1) c2)
  have hne : ∀ q t cs', Row w2 q t cs' → t ≠ 30 → ¬ q = g := fun q t cs' hq ht e => hq.apart hcs ht e
  have hdat : OwnY B (w2.setCell ⟨g, k, none⟩ (.slice A2 (r.bs.length + 1) c2)) (.slice (some ad) ls.sum dc) d := (h.data.later hb2).only hS (fun j hj e => by
    obtain ⟨cs', hr'⟩ := own_block2 (h.data.later hb2) hj
    exact hne j 5 cs' hr' (by decide) e)
  refine ⟨A1, c1, w1, h1, (h.ro.later hb1).read rfl, h.data.later hb1, h3, A2, c2, w2, g1, (keepRow _ _ _ h.ro).read rfl, ⟨_, by have h9 := ho2.cells (g := g) rfl k r.v (by rw [List.getElem?_append_right (by omega), hlen]; simp); rw [addr_at] at h9; exact h9⟩, hcs.free k, h.data.later hb2, ((keepRow _ _ _ h.ro).only hS (hne _ _ _ (keepRow _ _ _ h.ro) (by decide))).read rfl, hdat, fun b N room lw e1 e2 e3 => ?_⟩
  have hl2 : (r.bs ++ [x]).length = r.bs.length + 1 := by simp
  refine ⟨e1, e2, ⟨?_, fun y hy => ?_⟩, ?_, ?_, h.len, ?_, ?_, ?_, ?_, h.apart, ?_⟩
  · have e9 : (M ++ [(⟨A2, c2, r.bs ++ [x]⟩ : RowB)]).map RowB.v = (M.map RowB.v ++ [r.v]).set k (.slice A2 (r.bs.length + 1) c2) := by
      rw [List.set_append_right _ _ (by omega), hlen, Nat.sub_self, List.map_append]
      simp [RowB.v]
    rw [e9, List.length_append, h.count]
    exact hset
  · rw [List.mem_append, List.mem_singleton] at hy
    rcases hy with hy | rfl
    · exact ((h.mine y hy).only hon (fun j cs' hj _ hs => by have := hj.inside; omega)).only hS (fun j cs' hj _ e => hne j 5 cs' hj (by decide) e)
    · rcases g2.2 with ⟨q1, q2⟩ | ⟨g5, cap, cur, q1, hBg, hh, hnc, hcm, hsz, htk⟩
      · simp at q2
      · injection q1 with q1 q2 q3
        subst q1 q3
        refine RowB.mine.only (w := w2) ⟨⟨g5, cur, rfl, hBg, hh, fun j b hj => ?_⟩, ?_, ?_, fun b hb => ?_⟩ hS (fun j cs' hj _ e => hne j 5 cs' hj (by decide) e)
        · have h9 := bts_at hj
          rw [← htk, List.getElem?_take] at h9
          split at h9
          · simpa using h9
          · cases h9
        · show (r.bs ++ [x]).length ≤ c2
          exact hnc
        · show c2 ≤ _
          unfold maxLen at hcm
          exact hcm
        · have hb' : b ∈ r.bs ++ [x] := hb
          rw [List.mem_append, List.mem_singleton] at hb'
          rcases hb' with hb' | rfl
          · exact hrb b hb'
          · exact hx
  · rw [e3]
    unfold texts
    simp
  · exact (h.data.later hb2).only hS (fun j hj e => by
      obtain ⟨cs', hr'⟩ := own_block2 (h.data.later hb2) hj
      exact hne j 5 cs' hr' (by decide) e)
  · exact (keepRow _ _ _ h.rp).only hS (hne _ _ _ (keepRow _ _ _ h.rp) (by decide))
  · exact (keepRow _ _ _ h.rr).only hS (hne _ _ _ (keepRow _ _ _ h.rr) (by decide))
  · exact (keepRow _ _ _ h.rz).only hS (hne _ _ _ (keepRow _ _ _ h.rz) (by decide))
  · exact (keepRow _ _ _ h.ro).only hS (hne _ _ _ (keepRow _ _ _ h.ro) (by decide))
  · refine (h.below.trans (hb2.mono hB)).setCell ?_ _
    exact (ho2.lt g rfl).1
end
end Go.Proofs.Ytfgjlhklioijmaa
namespace Go.Proofs.Ytfgjlhklioijmaa
open Go.RowKit

/-- what a glue holds, and how many it lost -/
structure GS where
  held : List Nat
  lost : Nat
def GS.lose (s : GS) : GS := if s.held = [] then s else ⟨[], s.lost + 1⟩
def GS.come (s : GS) (f : List Nat) (b e : Bool) : GS :=
  if b then (if f.length ≤ 1000 then ⟨f, s.lose.lost⟩ else ⟨[], s.lose.lost + 1⟩)
  else if s.held = [] then (if e then ⟨[], s.lost + 1⟩ else s)
  else if s.held.length + f.length ≤ 1000 then ⟨s.held ++ f, s.lost⟩ else ⟨[], s.lost + 1⟩
def GS.told (s : GS) (e : Bool) : GS × List (List Nat) := if e then (if s.held = [] then (s, []) else (⟨[], s.lost⟩, [s.held])) else (s, [])
def beg (fi : Nat) (k : Nat) : Bool := decide (0 < k) || (fi / 2 % 2 == 0)
def fin (fi : Nat) (n k : Nat) : Bool := decide (k + 1 < n) || (fi % 2 == 0)
/-- fields come, from field k of n on -/
def goG (fi n : Nat) : Nat → List (List Nat) → GS → GS × List (List Nat)
  | _, [], s => (s, [])
  | k, f :: r, s =>
    let y := (s.come f (beg fi k) (fin fi n k)).told (fin fi n k)
    let z := goG fi n (k + 1) r y.1
    (z.1, y.2 ++ z.2)
def putG (fi : Nat) (fs : List (List Nat)) (gap : Bool) (s : GS) : GS × List (List Nat) := goG fi fs.length 0 fs (if gap then s.lose else s)
theorem GS.come_short (s : GS) (f : List Nat) (b e : Bool) (h : s.held.length ≤ 1000) : (s.come f b e).held.length ≤ 1000 := by
  unfold GS.come
  repeat' split
  all_goals simp_all
theorem GS.lose_short (s : GS) (h : s.held.length ≤ 1000) : s.lose.held.length ≤ 1000 := by
  unfold GS.lose
  split <;> simp_all
theorem GS.lose_lost (s : GS) : s.lost ≤ s.lose.lost ∧ s.lose.lost ≤ s.lost + 1 := by
  unfold GS.lose
  split <;> simp
theorem GS.come_lost (s : GS) (f : List Nat) (b e : Bool) : s.lost ≤ (s.come f b e).lost ∧ (s.come f b e).lost ≤ s.lost + 2 := by
  have := s.lose_lost
  unfold GS.come
  repeat' split
  all_goals simp_all
  all_goals omega
end Go.Proofs.Ytfgjlhklioijmaa
