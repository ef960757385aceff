/-
  Which packets of amd may be: the document's Size, one of its ways. Which packets of amd may be: the document's Size, one of its ways. Which packets of amd may be: the document's Size, one of its ways. Which packets of amd may be: the document's Size, one of its ways. Which packets of amd may be: the document's Size, one of its ways. Which packets of amd may be: the document's Size, one of its ways. Which packets of amd may be: the document's Size, one of its ways. Which packets of amd may be: the document's Size, one of its ways. Which packets of amd may be, and how many bytes they are: the document's answer, whatever the packet. A packet's bytes: the document's answer. A packet's tail: the document's answer.
-/
import Derived.Test.YtgdpjaojlhdhdaaJAmdWrites15
import Derived.Test.YtgdpjaojlhdhdaaJAmdWrites22
import Derived.Test.YtgdpjaojlhdhdaaJAmdWrites08
import Derived.Test.YtgdpjaojlhdhdaaJAmdWrites06
namespace Go.Proofs.Ytgdpjaojlhdhdaa
open Go.RowKit

set_option maxRecDepth 100000 in
set_option maxHeartbeats 6400000 in
theorem rs_fi3 {A : Option Addr} (poll part last : Bool) (fi sn off wd hf hp lw ow top z : Int) (ok : Bool) (n cap : Nat) (w : World) (hz0 : (hf == 0) = false) (h1 : decide (fi < 0) = false) (h2 : decide (3 < fi) = true)
    (hW : ∀ W, Calls Try.prog 177 #[.int .i64 wd] W fun e w' => e = .returned (.tuple #[.int .i64 lw, .int .i64 ow]) ∧ W = w') (hH : ∀ W, Calls Try.prog 45 #[.bool false, .int .i64 wd] W fun e w' => e = .returned (.int .i64 hf) ∧ W = w') (hP : ∀ W, Calls Try.prog 45 #[.bool part, .int .i64 wd] W fun e w' => e = .returned (.int .i64 hp) ∧ W = w')
    (hI : ∀ W, Calls Try.prog 180 #[.int .i64 wd, .int .i64 sn] W fun e w' => e = .returned (.bool ok) ∧ W = w') (hS : ∀ W, Calls Try.prog 59 #[.int .i64 ow] W fun e w' => e = .returned (.int .i64 top) ∧ W = w')
    (hFI : ∀ W, Below w.heap.size w W → Calls Try.prog 181 #[.slice A n cap, .int .i64 hp, .int .i64 lw] W fun e w' => e = .returned (.int .i64 z) ∧ W = w') :
    Calls Try.prog 39 #[.agg #[.bool poll, .int .i64 fi, .int .i64 sn, .bool part, .bool last, .int .i64 off, .slice A n cap], .int .i64 wd] w fun e w' => e = .returned (.int .i64 0) ∧ Below w.heap.size w w' := by
  have HW := Lib.hid hW
  have HSH := Lib.hid hH
  have HSP := Lib.hid hP
  have HI := Lib.hid hI
  have HSZ := Lib.hid hS
  have HFI := Lib.hid hFI
  have ROW0 := Lib.hid (Row.made w 60 #[.bool poll, .int .i64 fi, .int .i64 sn, .bool part, .bool last, .int .i64 off, .slice A n cap])
  have HB0 := Lib.hid (bl_alloc (Below.refl w.heap.size w) (.cells #[.bool poll, .int .i64 fi, .int .i64 sn, .bool part, .bool last, .int .i64 off, .slice A n cap] 60))
  try subst hok
  clear hW hH hP hI hS hFI
  go_enter Try.func39, Try.ntmps39
  go_wp2_with (go_at_call 177; refine (HW.out _).mono ?_; rintro e w1 ⟨rfl, rfl⟩)
  go_quiet ((first | (go_at_call 45; exact Calls.quiet_of_same ((HSH.out _).mono fun e w' h => ⟨h.1, h.2.symm⟩)) | (go_at_call 180; exact Calls.quiet_of_same ((HI.out _).mono fun e w' h => ⟨h.1, h.2.symm⟩)) | (go_at_call 59; exact Calls.quiet_of_same ((HSZ.out _).mono fun e w' h => ⟨h.1, h.2.symm⟩))))
  go_wp2
  go_ret
  exact ⟨rfl, below_drewN HB0.out _⟩
end Go.Proofs.Ytgdpjaojlhdhdaa
namespace Go.Proofs.Ytgdpjaojlhdhdaa
open Go.RowKit

set_option maxRecDepth 100000 in
set_option maxHeartbeats 6400000 in
theorem rs_sn {A : Option Addr} (poll part last : Bool) (fi sn off wd hf hp lw ow top z : Int) (ok : Bool) (n cap : Nat) (w : World) (hz0 : (hf == 0) = false) (h1 : decide (fi < 0) = false) (h2 : decide (3 < fi) = false) (hok : ok = false)
    (hW : ∀ W, Calls Try.prog 177 #[.int .i64 wd] W fun e w' => e = .returned (.tuple #[.int .i64 lw, .int .i64 ow]) ∧ W = w') (hH : ∀ W, Calls Try.prog 45 #[.bool false, .int .i64 wd] W fun e w' => e = .returned (.int .i64 hf) ∧ W = w') (hP : ∀ W, Calls Try.prog 45 #[.bool part, .int .i64 wd] W fun e w' => e = .returned (.int .i64 hp) ∧ W = w')
    (hI : ∀ W, Calls Try.prog 180 #[.int .i64 wd, .int .i64 sn] W fun e w' => e = .returned (.bool ok) ∧ W = w') (hS : ∀ W, Calls Try.prog 59 #[.int .i64 ow] W fun e w' => e = .returned (.int .i64 top) ∧ W = w')
    (hFI : ∀ W, Below w.heap.size w W → Calls Try.prog 181 #[.slice A n cap, .int .i64 hp, .int .i64 lw] W fun e w' => e = .returned (.int .i64 z) ∧ W = w') :
    Calls Try.prog 39 #[.agg #[.bool poll, .int .i64 fi, .int .i64 sn, .bool part, .bool last, .int .i64 off, .slice A n cap], .int .i64 wd] w fun e w' => e = .returned (.int .i64 0) ∧ Below w.heap.size w w' := by
  have HW := Lib.hid hW
  have HSH := Lib.hid hH
  have HSP := Lib.hid hP
  have HI := Lib.hid hI
  have HSZ := Lib.hid hS
  have HFI := Lib.hid hFI
  have ROW0 := Lib.hid (Row.made w 60 #[.bool poll, .int .i64 fi, .int .i64 sn, .bool part, .bool last, .int .i64 off, .slice A n cap])
  have HB0 := Lib.hid (bl_alloc (Below.refl w.heap.size w) (.cells #[.bool poll, .int .i64 fi, .int .i64 sn, .bool part, .bool last, .int .i64 off, .slice A n cap] 60))
  try subst hok
  clear hW hH hP hI hS hFI
  go_enter Try.func39, Try.ntmps39
  go_wp2_with (go_at_call 177; refine (HW.out _).mono ?_; rintro e w1 ⟨rfl, rfl⟩)
  go_quiet ((first | (go_at_call 45; exact Calls.quiet_of_same ((HSH.out _).mono fun e w' h => ⟨h.1, h.2.symm⟩)) | (go_at_call 180; exact Calls.quiet_of_same ((HI.out _).mono fun e w' h => ⟨h.1, h.2.symm⟩)) | (go_at_call 59; exact Calls.quiet_of_same ((HSZ.out _).mono fun e w' h => ⟨h.1, h.2.symm⟩))))
  go_wp2
  go_ret
  exact ⟨rfl, below_drewN HB0.out _⟩
end Go.Proofs.Ytgdpjaojlhdhdaa
namespace Go.Proofs.Ytgdpjaojlhdhdaa
open Go.RowKit

set_option maxRecDepth 100000 in
set_option maxHeartbeats 6400000 in
theorem rs_off0 {A : Option Addr} (poll part last : Bool) (fi sn off wd hf hp lw ow top z : Int) (ok : Bool) (n cap : Nat) (w : World) (hz0 : (hf == 0) = false) (h1 : decide (fi < 0) = false) (h2 : decide (3 < fi) = false) (hok : ok = true) (h3 : decide (off < 0) = true)
    (hW : ∀ W, Calls Try.prog 177 #[.int .i64 wd] W fun e w' => e = .returned (.tuple #[.int .i64 lw, .int .i64 ow]) ∧ W = w') (hH : ∀ W, Calls Try.prog 45 #[.bool false, .int .i64 wd] W fun e w' => e = .returned (.int .i64 hf) ∧ W = w') (hP : ∀ W, Calls Try.prog 45 #[.bool part, .int .i64 wd] W fun e w' => e = .returned (.int .i64 hp) ∧ W = w')
    (hI : ∀ W, Calls Try.prog 180 #[.int .i64 wd, .int .i64 sn] W fun e w' => e = .returned (.bool ok) ∧ W = w') (hS : ∀ W, Calls Try.prog 59 #[.int .i64 ow] W fun e w' => e = .returned (.int .i64 top) ∧ W = w')
    (hFI : ∀ W, Below w.heap.size w W → Calls Try.prog 181 #[.slice A n cap, .int .i64 hp, .int .i64 lw] W fun e w' => e = .returned (.int .i64 z) ∧ W = w') :
    Calls Try.prog 39 #[.agg #[.bool poll, .int .i64 fi, .int .i64 sn, .bool part, .bool last, .int .i64 off, .slice A n cap], .int .i64 wd] w fun e w' => e = .returned (.int .i64 0) ∧ Below w.heap.size w w' := by
  have HW := Lib.hid hW
  have HSH := Lib.hid hH
  have HSP := Lib.hid hP
  have HI := Lib.hid hI
  have HSZ := Lib.hid hS
  have HFI := Lib.hid hFI
  have ROW0 := Lib.hid (Row.made w 60 #[.bool poll, .int .i64 fi, .int .i64 sn, .bool part, .bool last, .int .i64 off, .slice A n cap])
  have HB0 := Lib.hid (bl_alloc (Below.refl w.heap.size w) (.cells #[.bool poll, .int .i64 fi, .int .i64 sn, .bool part, .bool last, .int .i64 off, .slice A n cap] 60))
  try subst hok
  clear hW hH hP hI hS hFI
  go_enter Try.func39, Try.ntmps39
  go_wp2_with (go_at_call 177; refine (HW.out _).mono ?_; rintro e w1 ⟨rfl, rfl⟩)
  go_quiet ((first | (go_at_call 45; exact Calls.quiet_of_same ((HSH.out _).mono fun e w' h => ⟨h.1, h.2.symm⟩)) | (go_at_call 180; exact Calls.quiet_of_same ((HI.out _).mono fun e w' h => ⟨h.1, h.2.symm⟩)) | (go_at_call 59; exact Calls.quiet_of_same ((HSZ.out _).mono fun e w' h => ⟨h.1, h.2.symm⟩))))
  go_wp2
  go_ret
  exact ⟨rfl, below_drewN HB0.out _⟩
end Go.Proofs.Ytgdpjaojlhdhdaa
namespace Go.Proofs.Ytgdpjaojlhdhdaa
open Go.RowKit

set_option maxRecDepth 100000 in
set_option maxHeartbeats 6400000 in
theorem rs_offt {A : Option Addr} (poll part last : Bool) (fi sn off wd hf hp lw ow top z : Int) (ok : Bool) (n cap : Nat) (w : World) (hz0 : (hf == 0) = false) (h1 : decide (fi < 0) = false) (h2 : decide (3 < fi) = false) (hok : ok = true) (h3 : decide (off < 0) = false) (h4 : decide (top ≤ off) = true)
    (hW : ∀ W, Calls Try.prog 177 #[.int .i64 wd] W fun e w' => e = .returned (.tuple #[.int .i64 lw, .int .i64 ow]) ∧ W = w') (hH : ∀ W, Calls Try.prog 45 #[.bool false, .int .i64 wd] W fun e w' => e = .returned (.int .i64 hf) ∧ W = w') (hP : ∀ W, Calls Try.prog 45 #[.bool part, .int .i64 wd] W fun e w' => e = .returned (.int .i64 hp) ∧ W = w')
    (hI : ∀ W, Calls Try.prog 180 #[.int .i64 wd, .int .i64 sn] W fun e w' => e = .returned (.bool ok) ∧ W = w') (hS : ∀ W, Calls Try.prog 59 #[.int .i64 ow] W fun e w' => e = .returned (.int .i64 top) ∧ W = w')
    (hFI : ∀ W, Below w.heap.size w W → Calls Try.prog 181 #[.slice A n cap, .int .i64 hp, .int .i64 lw] W fun e w' => e = .returned (.int .i64 z) ∧ W = w') :
    Calls Try.prog 39 #[.agg #[.bool poll, .int .i64 fi, .int .i64 sn, .bool part, .bool last, .int .i64 off, .slice A n cap], .int .i64 wd] w fun e w' => e = .returned (.int .i64 0) ∧ Below w.heap.size w w' := by
  have HW := Lib.hid hW
  have HSH := Lib.hid hH
  have HSP := Lib.hid hP
  have HI := Lib.hid hI
  have HSZ := Lib.hid hS
  have HFI := Lib.hid hFI
  have ROW0 := Lib.hid (Row.made w 60 #[.bool poll, .int .i64 fi, .int .i64 sn, .bool part, .bool last, .int .i64 off, .slice A n cap])
  have HB0 := Lib.hid (bl_alloc (Below.refl w.heap.size w) (.cells #[.bool poll, .int .i64 fi, .int .i64 sn, .bool part, .bool last, .int .i64 off, .slice A n cap] 60))
  try subst hok
  clear hW hH hP hI hS hFI
  go_enter Try.func39, Try.ntmps39
  go_wp2_with (go_at_call 177; refine (HW.out _).mono ?_; rintro e w1 ⟨rfl, rfl⟩)
  go_quiet ((first | (go_at_call 45; exact Calls.quiet_of_same ((HSH.out _).mono fun e w' h => ⟨h.1, h.2.symm⟩)) | (go_at_call 180; exact Calls.quiet_of_same ((HI.out _).mono fun e w' h => ⟨h.1, h.2.symm⟩)) | (go_at_call 59; exact Calls.quiet_of_same ((HSZ.out _).mono fun e w' h => ⟨h.1, h.2.symm⟩))))
  go_wp2
  go_ret
  exact ⟨rfl, below_drewN HB0.out _⟩
end Go.Proofs.Ytgdpjaojlhdhdaa
namespace Go.Proofs.Ytgdpjaojlhdhdaa
open Go.RowKit

set_option maxRecDepth 100000 in
set_option maxHeartbeats 6400000 in
theorem rs_noff {A : Option Addr} (poll : Bool) (fi sn off wd hf hp lw ow top z : Int) (ok : Bool) (n cap : Nat) (w : World) (hz0 : (hf == 0) = false) (h1 : decide (fi < 0) = false) (h2 : decide (3 < fi) = false) (hok : ok = true) (h3 : decide (off < 0) = false) (h4 : decide (top ≤ off) = false) (h5 : decide (0 < off) = true)
    (hW : ∀ W, Calls Try.prog 177 #[.int .i64 wd] W fun e w' => e = .returned (.tuple #[.int .i64 lw, .int .i64 ow]) ∧ W = w') (hH : ∀ W, Calls Try.prog 45 #[.bool false, .int .i64 wd] W fun e w' => e = .returned (.int .i64 hf) ∧ W = w') (hP : ∀ W, Calls Try.prog 45 #[.bool false, .int .i64 wd] W fun e w' => e = .returned (.int .i64 hp) ∧ W = w')
    (hI : ∀ W, Calls Try.prog 180 #[.int .i64 wd, .int .i64 sn] W fun e w' => e = .returned (.bool ok) ∧ W = w') (hS : ∀ W, Calls Try.prog 59 #[.int .i64 ow] W fun e w' => e = .returned (.int .i64 top) ∧ W = w')
    (hFI : ∀ W, Below w.heap.size w W → Calls Try.prog 181 #[.slice A n cap, .int .i64 hp, .int .i64 lw] W fun e w' => e = .returned (.int .i64 z) ∧ W = w') :
    Calls Try.prog 39 #[.agg #[.bool poll, .int .i64 fi, .int .i64 sn, .bool false, .bool false, .int .i64 off, .slice A n cap], .int .i64 wd] w fun e w' => e = .returned (.int .i64 0) ∧ Below w.heap.size w w' := by
  have HW := Lib.hid hW
  have HSH := Lib.hid hH
  have HSP := Lib.hid hP
  have HI := Lib.hid hI
  have HSZ := Lib.hid hS
  have HFI := Lib.hid hFI
  have ROW0 := Lib.hid (Row.made w 60 #[.bool poll, .int .i64 fi, .int .i64 sn, .bool false, .bool false, .int .i64 off, .slice A n cap])
  have HB0 := Lib.hid (bl_alloc (Below.refl w.heap.size w) (.cells #[.bool poll, .int .i64 fi, .int .i64 sn, .bool false, .bool false, .int .i64 off, .slice A n cap] 60))
  try subst hok
  clear hW hH hP hI hS hFI
  go_enter Try.func39, Try.ntmps39
  go_wp2_with (go_at_call 177; refine (HW.out _).mono ?_; rintro e w1 ⟨rfl, rfl⟩)
  go_quiet ((first | (go_at_call 45; exact Calls.quiet_of_same ((HSH.out _).mono fun e w' h => ⟨h.1, h.2.symm⟩)) | (go_at_call 180; exact Calls.quiet_of_same ((HI.out _).mono fun e w' h => ⟨h.1, h.2.symm⟩)) | (go_at_call 59; exact Calls.quiet_of_same ((HSZ.out _).mono fun e w' h => ⟨h.1, h.2.symm⟩))))
  go_wp2
  go_ret
  exact ⟨rfl, below_drewN HB0.out _⟩
end Go.Proofs.Ytgdpjaojlhdhdaa
namespace Go.Proofs.Ytgdpjaojlhdhdaa
open Go.RowKit

set_option maxRecDepth 100000 in
set_option maxHeartbeats 6400000 in
theorem rs_nlast {A : Option Addr} (poll : Bool) (fi sn off wd hf hp lw ow top z : Int) (ok : Bool) (n cap : Nat) (w : World) (hz0 : (hf == 0) = false) (h1 : decide (fi < 0) = false) (h2 : decide (3 < fi) = false) (hok : ok = true) (h3 : decide (off < 0) = false) (h4 : decide (top ≤ off) = false)
    (hW : ∀ W, Calls Try.prog 177 #[.int .i64 wd] W fun e w' => e = .returned (.tuple #[.int .i64 lw, .int .i64 ow]) ∧ W = w') (hH : ∀ W, Calls Try.prog 45 #[.bool false, .int .i64 wd] W fun e w' => e = .returned (.int .i64 hf) ∧ W = w') (hP : ∀ W, Calls Try.prog 45 #[.bool false, .int .i64 wd] W fun e w' => e = .returned (.int .i64 hp) ∧ W = w')
    (hI : ∀ W, Calls Try.prog 180 #[.int .i64 wd, .int .i64 sn] W fun e w' => e = .returned (.bool ok) ∧ W = w') (hS : ∀ W, Calls Try.prog 59 #[.int .i64 ow] W fun e w' => e = .returned (.int .i64 top) ∧ W = w')
    (hFI : ∀ W, Below w.heap.size w W → Calls Try.prog 181 #[.slice A n cap, .int .i64 hp, .int .i64 lw] W fun e w' => e = .returned (.int .i64 z) ∧ W = w') :
    Calls Try.prog 39 #[.agg #[.bool poll, .int .i64 fi, .int .i64 sn, .bool false, .bool true, .int .i64 off, .slice A n cap], .int .i64 wd] w fun e w' => e = .returned (.int .i64 0) ∧ Below w.heap.size w w' := by
  have HW := Lib.hid hW
  have HSH := Lib.hid hH
  have HSP := Lib.hid hP
  have HI := Lib.hid hI
  have HSZ := Lib.hid hS
  have HFI := Lib.hid hFI
  have ROW0 := Lib.hid (Row.made w 60 #[.bool poll, .int .i64 fi, .int .i64 sn, .bool false, .bool true, .int .i64 off, .slice A n cap])
  have HB0 := Lib.hid (bl_alloc (Below.refl w.heap.size w) (.cells #[.bool poll, .int .i64 fi, .int .i64 sn, .bool false, .bool true, .int .i64 off, .slice A n cap] 60))
  try subst hok
  clear hW hH hP hI hS hFI
  go_enter Try.func39, Try.ntmps39
  go_wp2_with (go_at_call 177; refine (HW.out _).mono ?_; rintro e w1 ⟨rfl, rfl⟩)
  go_quiet ((first | (go_at_call 45; exact Calls.quiet_of_same ((HSH.out _).mono fun e w' h => ⟨h.1, h.2.symm⟩)) | (go_at_call 180; exact Calls.quiet_of_same ((HI.out _).mono fun e w' h => ⟨h.1, h.2.symm⟩)) | (go_at_call 59; exact Calls.quiet_of_same ((HSZ.out _).mono fun e w' h => ⟨h.1, h.2.symm⟩))))
  go_wp2
  go_ret
  exact ⟨rfl, below_drewN HB0.out _⟩
end Go.Proofs.Ytgdpjaojlhdhdaa
namespace Go.Proofs.Ytgdpjaojlhdhdaa
open Go.RowKit

set_option maxRecDepth 100000 in
set_option maxHeartbeats 6400000 in
theorem rs_good0 {A : Option Addr} (poll : Bool) (fi sn wd hf hp lw ow top z : Int) (ok : Bool) (n cap : Nat) (w : World) (hz0 : (hf == 0) = false) (h1 : decide (fi < 0) = false) (h2 : decide (3 < fi) = false) (hok : ok = true) (h4 : decide (top ≤ 0) = false)
    (hW : ∀ W, Calls Try.prog 177 #[.int .i64 wd] W fun e w' => e = .returned (.tuple #[.int .i64 lw, .int .i64 ow]) ∧ W = w') (hH : ∀ W, Calls Try.prog 45 #[.bool false, .int .i64 wd] W fun e w' => e = .returned (.int .i64 hf) ∧ W = w') (hP : ∀ W, Calls Try.prog 45 #[.bool false, .int .i64 wd] W fun e w' => e = .returned (.int .i64 hp) ∧ W = w')
    (hI : ∀ W, Calls Try.prog 180 #[.int .i64 wd, .int .i64 sn] W fun e w' => e = .returned (.bool ok) ∧ W = w') (hS : ∀ W, Calls Try.prog 59 #[.int .i64 ow] W fun e w' => e = .returned (.int .i64 top) ∧ W = w')
    (hFI : ∀ W, Below w.heap.size w W → Calls Try.prog 181 #[.slice A n cap, .int .i64 hp, .int .i64 lw] W fun e w' => e = .returned (.int .i64 z) ∧ W = w') :
    Calls Try.prog 39 #[.agg #[.bool poll, .int .i64 fi, .int .i64 sn, .bool false, .bool false, .int .i64 0, .slice A n cap], .int .i64 wd] w fun e w' => e = .returned (.int .i64 z) ∧ Below w.heap.size w w' := by
  have HW := Lib.hid hW
  have HSH := Lib.hid hH
  have HSP := Lib.hid hP
  have HI := Lib.hid hI
  have HSZ := Lib.hid hS
  have HFI := Lib.hid hFI
  have ROW0 := Lib.hid (Row.made w 60 #[.bool poll, .int .i64 fi, .int .i64 sn, .bool false, .bool false, .int .i64 0, .slice A n cap])
  have HB0 := Lib.hid (bl_alloc (Below.refl w.heap.size w) (.cells #[.bool poll, .int .i64 fi, .int .i64 sn, .bool false, .bool false, .int .i64 0, .slice A n cap] 60))
  try subst hok
  clear hW hH hP hI hS hFI
  go_enter Try.func39, Try.ntmps39
  go_wp2_with (go_at_call 177; refine (HW.out _).mono ?_; rintro e w1 ⟨rfl, rfl⟩)
  go_quiet ((first | (go_at_call 45; exact Calls.quiet_of_same ((HSH.out _).mono fun e w' h => ⟨h.1, h.2.symm⟩)) | (go_at_call 180; exact Calls.quiet_of_same ((HI.out _).mono fun e w' h => ⟨h.1, h.2.symm⟩)) | (go_at_call 59; exact Calls.quiet_of_same ((HSZ.out _).mono fun e w' h => ⟨h.1, h.2.symm⟩))))
  go_wp2_with fail
  have ROW1 := Lib.hid (ROW0.out.later (below_drewN (Below.refl (w.alloc (.cells #[.bool poll, .int .i64 fi, .int .i64 sn, .bool false, .bool false, .int .i64 0, .slice A n cap] 60)).heap.size (w.alloc (.cells #[.bool poll, .int .i64 fi, .int .i64 sn, .bool false, .bool false, .int .i64 0, .slice A n cap] 60))) nq))
  have HB1 := Lib.hid (below_drewN HB0.out nq)
  generalize (w.alloc (.cells #[.bool poll, .int .i64 fi, .int .i64 sn, .bool false, .bool false, .int .i64 0, .slice A n cap] 60)).drewN nq = W1 at *
  obtain ⟨⟨c0, c1, c2, c3, c4, c5, c6⟩, _⟩ := cells_ref10 (show Row W1.drew _ _ _ from ROW1.out.drawn)
  go_region_held3 (fun w' => w'.cell? ⟨w.heap.size, 1, none⟩ = some (.int .i64 fi) ∧ w'.cell? ⟨w.heap.size, 2, none⟩ = some (.int .i64 sn) ∧ w'.cell? ⟨w.heap.size, 3, none⟩ = some (.bool false) ∧ w'.cell? ⟨w.heap.size, 4, none⟩ = some (.bool false) ∧ w'.cell? ⟨w.heap.size, 5, none⟩ = some (.int .i64 0) ∧ w'.cell? ⟨w.heap.size, 6, none⟩ = some (.slice A n cap)) (first | assumption | go_keep) (first
    | (go_at_call 45; (with_reducible refine (HSP.out _).mono ?_); rintro e wx ⟨rfl, rfl⟩)
    | (go_at_call 181; (with_reducible refine (HFI.out _ (HB1.out.drew)).mono ?_); rintro e wy ⟨rfl, rfl⟩))
  go_wp2
  go_ret
  exact ⟨rfl, HB1.out.drew⟩
end Go.Proofs.Ytgdpjaojlhdhdaa
namespace Go.Proofs.Ytgdpjaojlhdhdaa
open Go.RowKit

set_option maxRecDepth 100000 in
set_option maxHeartbeats 6400000 in
theorem rs_good1 {A : Option Addr} (poll last : Bool) (fi sn off wd hf hp lw ow top z : Int) (ok : Bool) (n cap : Nat) (w : World) (hz0 : (hf == 0) = false) (h1 : decide (fi < 0) = false) (h2 : decide (3 < fi) = false) (hok : ok = true) (h3 : decide (off < 0) = false) (h4 : decide (top ≤ off) = false)
    (hW : ∀ W, Calls Try.prog 177 #[.int .i64 wd] W fun e w' => e = .returned (.tuple #[.int .i64 lw, .int .i64 ow]) ∧ W = w') (hH : ∀ W, Calls Try.prog 45 #[.bool false, .int .i64 wd] W fun e w' => e = .returned (.int .i64 hf) ∧ W = w') (hP : ∀ W, Calls Try.prog 45 #[.bool true, .int .i64 wd] W fun e w' => e = .returned (.int .i64 hp) ∧ W = w')
    (hI : ∀ W, Calls Try.prog 180 #[.int .i64 wd, .int .i64 sn] W fun e w' => e = .returned (.bool ok) ∧ W = w') (hS : ∀ W, Calls Try.prog 59 #[.int .i64 ow] W fun e w' => e = .returned (.int .i64 top) ∧ W = w')
    (hFI : ∀ W, Below w.heap.size w W → Calls Try.prog 181 #[.slice A n cap, .int .i64 hp, .int .i64 lw] W fun e w' => e = .returned (.int .i64 z) ∧ W = w') :
    Calls Try.prog 39 #[.agg #[.bool poll, .int .i64 fi, .int .i64 sn, .bool true, .bool last, .int .i64 off, .slice A n cap], .int .i64 wd] w fun e w' => e = .returned (.int .i64 z) ∧ Below w.heap.size w w' := by
  have HW := Lib.hid hW
  have HSH := Lib.hid hH
  have HSP := Lib.hid hP
  have HI := Lib.hid hI
  have HSZ := Lib.hid hS
  have HFI := Lib.hid hFI
  have ROW0 := Lib.hid (Row.made w 60 #[.bool poll, .int .i64 fi, .int .i64 sn, .bool true, .bool last, .int .i64 off, .slice A n cap])
  have HB0 := Lib.hid (bl_alloc (Below.refl w.heap.size w) (.cells #[.bool poll, .int .i64 fi, .int .i64 sn, .bool true, .bool last, .int .i64 off, .slice A n cap] 60))
  try subst hok
  clear hW hH hP hI hS hFI
  go_enter Try.func39, Try.ntmps39
  go_wp2_with (go_at_call 177; refine (HW.out _).mono ?_; rintro e w1 ⟨rfl, rfl⟩)
  go_quiet ((first | (go_at_call 45; exact Calls.quiet_of_same ((HSH.out _).mono fun e w' h => ⟨h.1, h.2.symm⟩)) | (go_at_call 180; exact Calls.quiet_of_same ((HI.out _).mono fun e w' h => ⟨h.1, h.2.symm⟩)) | (go_at_call 59; exact Calls.quiet_of_same ((HSZ.out _).mono fun e w' h => ⟨h.1, h.2.symm⟩))))
  go_wp2_with fail
  have ROW1 := Lib.hid (ROW0.out.later (below_drewN (Below.refl (w.alloc (.cells #[.bool poll, .int .i64 fi, .int .i64 sn, .bool true, .bool last, .int .i64 off, .slice A n cap] 60)).heap.size (w.alloc (.cells #[.bool poll, .int .i64 fi, .int .i64 sn, .bool true, .bool last, .int .i64 off, .slice A n cap] 60))) nq))
  have HB1 := Lib.hid (below_drewN HB0.out nq)
  generalize (w.alloc (.cells #[.bool poll, .int .i64 fi, .int .i64 sn, .bool true, .bool last, .int .i64 off, .slice A n cap] 60)).drewN nq = W1 at *
  obtain ⟨⟨c0, c1, c2, c3, c4, c5, c6⟩, _⟩ := cells_ref10 (show Row W1.drew _ _ _ from ROW1.out.drawn)
  go_region_held3 (fun w' => w'.cell? ⟨w.heap.size, 1, none⟩ = some (.int .i64 fi) ∧ w'.cell? ⟨w.heap.size, 2, none⟩ = some (.int .i64 sn) ∧ w'.cell? ⟨w.heap.size, 3, none⟩ = some (.bool true) ∧ w'.cell? ⟨w.heap.size, 4, none⟩ = some (.bool last) ∧ w'.cell? ⟨w.heap.size, 5, none⟩ = some (.int .i64 off) ∧ w'.cell? ⟨w.heap.size, 6, none⟩ = some (.slice A n cap)) (first | assumption | go_keep) (first
    | (go_at_call 45; (with_reducible refine (HSP.out _).mono ?_); rintro e wx ⟨rfl, rfl⟩)
    | (go_at_call 181; (with_reducible refine (HFI.out _ (HB1.out.drew)).mono ?_); rintro e wy ⟨rfl, rfl⟩))
  go_wp2
  go_ret
  exact ⟨rfl, HB1.out.drew⟩
end Go.Proofs.Ytgdpjaojlhdhdaa
namespace Go.Proofs.Ytgdpjaojlhdhdaa
open Go.RowKit

theorem rasize_any {A : Option Addr} {L : List RowB} (poll part last : Bool) (fi sn off wd : Int) (n cap : Nat) (w : World) (hL : L.length = n) (hn : n ≤ 40) (hsum : (lens L).sum ≤ 9000) (hs : RSrc w A L) :
    Calls Try.prog 39 #[.agg #[.bool poll, .int .i64 fi, .int .i64 sn, .bool part, .bool last, .int .i64 off, .slice A n cap], .int .i64 wd] w fun e w' => e = .returned (.int .i64 (amdF part last fi sn off (lens L) wd)) ∧ Below w.heap.size w w' := by
  have hI := fun W => ris_any wd sn W
  have hH := fun W => rahead_any false wd W
  have hP := fun W => rahead_any part wd W
  have hW := fun W => rwidths_any wd W
  have hhd := headA_nonneg part wd
  have hFI := fun W (hb : Below w.heap.size w W) => rfields_any (A := A) n cap (headA part wd) (lwA wd) W hL hn hsum hhd.1 hhd.2 (hs.later hb)
  have hS := fun W => rsize_any (owA wd) W
  have z0 : ∀ {F : Int}, F = 0 → ∀ e w', (e = Ending.returned (.int .i64 0) ∧ Below w.heap.size w w') → e = .returned (.int .i64 F) ∧ Below w.heap.size w w' := by
    rintro F rfl e w' h
    exact h
  by_cases hw : wd = 10 ∨ wd = 16
  · have htp : sz (owA wd) = topA wd ∧ 0 < topA wd := by
      rcases hw with rfl | rfl
      · exact ⟨by decide, by decide⟩
      · exact ⟨by decide, by decide⟩
    obtain ⟨hsz, htop⟩ := htp
    have hz0 : (headA false wd == 0) = false := by have := (headA_code (part := false) hw).1; simp; omega
    by_cases h1 : fi < 0
    · exact (rs_fi0 poll part last fi sn off wd _ _ _ _ _ _ _ n cap w hz0 h1 hW hH hP hI hS hFI).mono (z0 (by unfold amdF; rw [if_neg (by omega)]))
    · have h1' : decide (fi < 0) = false := decide_eq_false h1
      by_cases h2 : 3 < fi
      · exact (rs_fi3 poll part last fi sn off wd _ _ _ _ _ _ _ n cap w hz0 h1' (decide_eq_true h2) hW hH hP hI hS hFI).mono (z0 (by unfold amdF; rw [if_neg (by omega)]))
      · have h2' : decide (3 < fi) = false := decide_eq_false h2
        cases hok : okn wd sn
        · exact (rs_sn poll part last fi sn off wd _ _ _ _ _ _ _ n cap w hz0 h1' h2' hok hW hH hP hI hS hFI).mono (z0 (by unfold amdF; rw [if_neg (by rw [hok]; simp)]))
        · by_cases h3 : off < 0
          · refine (rs_off0 poll part last fi sn off wd _ _ _ _ _ _ _ n cap w hz0 h1' h2' hok (decide_eq_true h3) hW hH hP hI hS hFI).mono (z0 ?_)
            have e : placedA part last off wd = false := by unfold placedA; cases part <;> simp <;> omega
            unfold amdF
            rw [if_neg (by rw [e]; simp)]
          · have h3' : decide (off < 0) = false := decide_eq_false h3
            by_cases h4 : topA wd ≤ off
            · refine (rs_offt poll part last fi sn off wd _ _ _ _ _ _ _ n cap w hz0 h1' h2' hok h3' (decide_eq_true (by rw [hsz]; exact h4)) hW hH hP hI hS hFI).mono (z0 ?_)
              have e : placedA part last off wd = false := by unfold placedA; cases part <;> simp <;> omega
              unfold amdF
              rw [if_neg (by rw [e]; simp)]
            · have h4' : decide (sz (owA wd) ≤ off) = false := decide_eq_false (by rw [hsz]; exact h4)
              cases part
              · cases last
                · by_cases h5 : 0 < off
                  · refine (rs_noff poll fi sn off wd _ _ _ _ _ _ _ n cap w hz0 h1' h2' hok h3' h4' (decide_eq_true h5) hW hH hP hI hS hFI).mono (z0 ?_)
                    have e : placedA false false off wd = false := by unfold placedA; simp; omega
                    unfold amdF
                    rw [if_neg (by rw [e]; simp)]
                  · obtain rfl : off = 0 := by omega
                    refine (rs_good0 poll fi sn wd _ _ _ _ _ _ _ n cap w hz0 h1' h2' hok h4' hW hH hP hI hS hFI).mono fun e w' h => ?_
                    have e2 : amdF false false fi sn 0 (lens L) wd = fieldsF (lens L) (headA false wd) (lwA wd) := by
                      unfold amdF
                      rw [if_pos ⟨hw, by omega, by omega, hok, rfl⟩]
                    rw [e2]
                    exact h
                · refine (rs_nlast poll fi sn off wd _ _ _ _ _ _ _ n cap w hz0 h1' h2' hok h3' h4' hW hH hP hI hS hFI).mono (z0 ?_)
                  have e : placedA false true off wd = false := by unfold placedA; simp
                  unfold amdF
                  rw [if_neg (by rw [e]; simp)]
              · refine (rs_good1 poll last fi sn off wd _ _ _ _ _ _ _ n cap w hz0 h1' h2' hok h3' h4' hW hH hP hI hS hFI).mono fun e w' h => ?_
                have e2 : amdF true last fi sn off (lens L) wd = fieldsF (lens L) (headA true wd) (lwA wd) := by
                  unfold amdF
                  rw [if_pos ⟨hw, by omega, by omega, hok, by unfold placedA; simp; omega⟩]
                rw [e2]
                exact h
  · have hx : (headA false wd == 0) = true := by
      have : headA false wd = 0 := by unfold headA; rw [if_neg (fun h => hw (.inl h)), if_neg (fun h => hw (.inr h))]
      rw [this]; rfl
    exact (rs_kind poll part last fi sn off wd _ _ _ _ _ _ _ n cap w hx hW hH hP hI hS hFI).mono (z0 (by unfold amdF; rw [if_neg (fun h => hw h.1)]))
end Go.Proofs.Ytgdpjaojlhdhdaa
namespace Go.Proofs.Ytgdpjaojlhdhdaa
open Go.RowKit
theorem okn_case {P : Prop} (wd sn : Int) (h0 : okn wd sn = false → P) (h1 : okn wd sn = true → P) : P := by
  cases h : okn wd sn
  · exact h0 h
  · exact h1 h
/-- the lengths of all but the last, in a list of the call's own -/
theorem insN_take_succ {ls : List Nat} {k m : Nat} (h : ls[k]? = some m) : insN (ls.take (k + 1)) = insN (ls.take k) ++ [.int .i64 m] := by
  obtain ⟨hk, rfl⟩ := List.getElem?_eq_some_iff.1 h
  rw [List.take_succ_eq_append_getElem hk]
  simp only [insN, List.map_append, List.map_cons, List.map_nil]
theorem rlens_write {A : Option Addr} {l : List Nat} (wd n cap : Nat) (wi : Int) (w : World) (h : wd = 11 ∨ wd = 15) (e : wi = wd) (hn : l.length = n) (h0 : 1 ≤ n) (h23 : n ≤ 23) (hl : ∀ x ∈ l, 1 ≤ x ∧ x < 2048) (hs : Src w A (insN l)) :
    Calls Try.prog 297 #[.slice A n cap, .int .i64 wi] w fun e w' => ∃ (A' : Option Addr) (c' k : Nat), e = .returned (.tuple #[.slice A' k c', .int .i64 0]) ∧ k = (pack (wbl wd l)).length ∧ OwnY w.heap.size w' (.slice A' k c') (pack (wbl wd l)) ∧ Below w.heap.size w w' := by
  subst e
  have hf : ∀ q : Nat, (q = 11 ∨ q = 15) → faultF (l.map (fun n : Nat => (n : Int))) q = 0 := fun q hq => by
    unfold faultF
    rw [List.length_map, hn, if_neg (by omega), if_neg (by omega), if_pos]
    rw [List.all_eq_true]
    intro x hx
    rw [List.mem_map] at hx
    obtain ⟨y, hy, rfl⟩ := hx
    have := hl y hy
    unfold mayL
    rw [decide_eq_true (by omega), decide_eq_true (by rcases hq with rfl | rfl <;> simp <;> omega)]
    rfl
  have hm : (l.map (fun n : Nat => (n : Int))).map Int.toNat = l := by
    rw [List.map_map]
    have : l.map (Int.toNat ∘ fun n : Nat => (n : Int)) = l.map id := List.map_congr_left fun x _ => by show ((x : Int)).toNat = x; omega
    rw [this, List.map_id]
  have hsi : Src w A (ins (l.map (fun n : Nat => (n : Int)))) := hs
  have fin : ∀ q : Nat, q = wd → ∀ e w', (((faultF (l.map (fun n : Nat => (n : Int))) q = 0 ∧ ∃ x, e = Ending.returned (.tuple #[x, .int .i64 0]) ∧ w'.ownsRow w.heap.size 5 1 x (packLen (n * (q + 1))) (bts (pack (wbl q ((l.map (fun n : Nat => (n : Int))).map Int.toNat))))) ∨ (faultF (l.map (fun n : Nat => (n : Int))) q ≠ 0 ∧ e = .returned (.tuple #[.slice none 0 0, .int .i64 (faultF (l.map (fun n : Nat => (n : Int))) q)]))) ∧ Below w.heap.size w w') → ∃ (A' : Option Addr) (c' k : Nat), e = .returned (.tuple #[.slice A' k c', .int .i64 0]) ∧ k = (pack (wbl wd l)).length ∧ OwnY w.heap.size w' (.slice A' k c') (pack (wbl wd l)) ∧ Below w.heap.size w w' := by
    rintro q rfl e w' ⟨h1 | h1, hb⟩
    · obtain ⟨_, x, rfl, ho⟩ := h1
      rw [hm] at ho
      have hpl : (pack (wbl q l)).length = packLen (n * (q + 1)) := by rw [length_pack, length_wbl, hn]
      have hoy : OwnY w.heap.size w' x (pack (wbl q l)) := by unfold OwnY; rw [hpl]; exact ho
      obtain ⟨A', c', rfl, _⟩ := hoy.form
      exact ⟨A', c', _, rfl, rfl, hoy, hb⟩
    · exact absurd (hf q h) h1.1
  rcases h with rfl | rfl
  · exact (refwrite_11 n cap w (by rw [List.length_map]; exact hn) (by unfold maxLen; omega) hsi).mono fun e w' h => fin 11 rfl e w' h
  · exact (refwrite_15 n cap w (by rw [List.length_map]; exact hn) (by unfold maxLen; omega) hsi).mono fun e w' h => fin 15 rfl e w' h

theorem app_bytes2 {B : Nat} {W : World} {A0 A : Option Addr} {c0 m c n : Nat} {l y : List Nat} (hv : OwnY B W (.slice A0 n c0) l) (hn : l.length = n) (hB : B ≤ W.heap.size) (hs : Src W A (bts y)) (hm : y.length = m) (hlm : n + m ≤ 1000000000) :
    ∃ A' c' W', (Builtin.append_ #[30, 30] 30 #[.slice A0 n c0, .slice A m c]).run Try.prog W = .ok (.slice A' (n + m) c') W' ∧ OwnY B W' (.slice A' (n + m) c') (l ++ y) ∧ (l ++ y).length = n + m ∧ Below B W W' := by
  obtain ⟨A', c', W', h1, h2, h3, _, _⟩ := app_bytes m c hv hB hs hm (by omega)
  rw [hn] at h1 h2
  exact ⟨A', c', W', h1, h2, by rw [List.length_append, hn, hm], h3⟩

end Go.Proofs.Ytgdpjaojlhdhdaa
namespace Go.Proofs.Ytgdpjaojlhdhdaa
open Go.RowKit


set_option maxRecDepth 100000 in
set_option maxHeartbeats 6400000 in
theorem rtail_any {A A0 : Option Addr} {L : List RowB} {l : List Nat} (B n cap n0 c0 wd : Nat) (wi : Int) (w : World) (hwd : wd = 11 ∨ wd = 15) (e : wi = wd) (hL : L.length = n) (h1 : 1 ≤ n) (h24 : n ≤ 24) (hok : okTo (lens L) (lens L).length = true) (hsum : (lens L).sum ≤ 9000)
    (hs : ∀ W, Below B w W → RSrc W A L) (hv : OwnY B w (.slice A0 n0 c0) l) (hn0 : l.length = n0) (hn1 : n0 ≤ 10) (hB : B ≤ w.heap.size) :
    Calls Try.prog 190 #[.slice A0 n0 c0, .slice A n cap, .int .i64 wi] w fun e w' => ∃ v', e = .returned v' ∧ OwnY B w' v' (l ++ tailF (lens L) wd ++ flat L) ∧ Below B w w' := by
  have hll : (lens L).length = n := by rw [length_lens, hL]
  have HS := Lib.hid hs
  have HL := Lib.hid hL
  have HLL := Lib.hid hll
  have HV := Lib.hid hv
  have HN0 := Lib.hid hn0
  have hpos := tail_lens hok
  rw [hll] at hpos
  have HW := Lib.hid (fun W Aq cq (h : 1 ≤ n - 1) (hs : Src W Aq (insN ((lens L).take (n - 1)))) => rlens_write wd (n - 1) cq wi W hwd e (by rw [List.length_take, hll]; omega) h (by omega) hpos hs)
  have HT1 := Lib.hid (fun (h : 1 < n) => (show tailF (lens L) wd = pack (wbl wd ((lens L).take (n - 1))) by unfold tailF; rw [hll, if_pos h]))
  have HT0 := Lib.hid (fun (h : ¬ 1 < n) => (show tailF (lens L) wd = [] by unfold tailF; rw [hll, if_neg h]))
  have HT46 := Lib.hid (show (tailF (lens L) wd).length ≤ 46 by
    have h9 := length_tail wd hwd (ls := lens L) (by omega) (by omega)
    have h8 := sizeF_nonneg (((lens L).length : Int) - 1) wd
    omega)
  have HSUM := Lib.hid hsum
  clear hs hL hll hv hn0 hpos hwd e hok hsum
  go_enter Try.func190, Try.ntmps190
  go_wp2
  go_loopw [7, 8] (fun qv iv wr => ∃ (k : Nat) (Aq : Option Addr) (cq : Nat), k + 1 ≤ n ∧ iv = .int .i64 k ∧ qv = .slice Aq k cq ∧ Hid (wr.ownsRow w.heap.size 3 1 (.slice Aq k cq) k (insN ((lens L).take k))) ∧ Hid (Below w.heap.size w wr)) (fun _ iv _ => n - (intOf iv).toNat)
  case atStart => exact ⟨0, none, 0, by omega, rfl, rfl, Lib.hid (World.ownsRow_nil _ _ _ _), Lib.hid (Below.refl _ _)⟩
  case round =>
    obtain ⟨k, Aq, cq, hk, rfl, rfl, HQ, HB⟩ := hrel
    by_cases hlt : k + 1 < n
    · have hlt' : (k : Int) + 1 < n := by omega
      obtain ⟨ad, rfl, hc⟩ := HS.out wr (HB.out.mono hB) (by rw [HL.out]; omega)
      obtain ⟨r, hr⟩ : ∃ r, L[k]? = some r := ⟨_, List.getElem?_eq_getElem (by rw [HL.out]; omega)⟩
      have hcell : wr.cell? (ad.add k) = some (.slice r.A r.bs.length r.cap) := (hc k r hr).1
      obtain ⟨g3, c3, w3, hr3, ho3, hon3⟩ := int_tail HQ.out HB.out.size (r.bs.length : Nat) (by omega)
      have HQ3 := Lib.hid (show w3.ownsRow w.heap.size 3 1 (.slice (some ⟨g3, 0, none⟩) (k + 1) c3) (k + 1) (insN ((lens L).take (k + 1))) by rw [insN_take_succ (lens_at hr)]; exact ho3)
      have HB3 := Lib.hid (HB.out.trans (own_only_below HQ.out hon3 HB.out.size))
      clear hc hr ho3 hon3
      generalize r.bs.length = len at *
      go_wp2_with (at_builtin; refine wpList_run rfl (.tmp 19) (.tmp 25) 85 rfl (.slice Aq k cq) (.slice (some ⟨wr.heap.size, 0, none⟩) 1 1) (by rfl) (by rfl) hr3 ?_)
      go_roundw
      case rel => exact ⟨k + 1, _, _, by omega, by go_num, rfl, HQ3, HB3⟩
      case measure => simp [intOf]; omega
    · have hlt' : ¬ (k : Int) + 1 < n := by omega
      have hkn : k = n - 1 := by omega
      by_cases hn1x : 1 < n
      · have hk0 : (0 : Int) < k := by omega
        obtain ⟨Aw, cw, hAw, hcw⟩ : ∃ (Aw : Option Addr) (cw : Nat), Aw = Aq ∧ cw = cq := ⟨_, _, rfl, rfl⟩
        have hsq : Src wr Aq (insN ((lens L).take (n - 1))) := by
          have h9 := HQ.out
          rw [hkn] at h9
          intro h0
          obtain ⟨g, cap', hv, _, _⟩ := h9.form (by omega)
          injection hv with hA _ _
          subst hA
          exact ⟨_, rfl, h9.cells (g := g) rfl⟩
        have HW1 := Lib.hid (HW.out wr Aq cq (by omega) hsq)
        rw [← hkn] at HW1
        have HT := Lib.hid (HT1.out hn1x)
        rw [← hkn] at HT
        clear hsq hAw hcw Aw cw hkn hlt hn1x HW HT1 HT0
        go_wp2_with (first
          | (go_at_call 297; refine HW1.out.mono ?_; rintro e w4 ⟨A4, c4, k4, rfl, hk4, ho4, hb4⟩
             obtain ⟨A5, c5, w5, hr5, ho5, hq5, hb5⟩ := app_bytes2 (m := k4) (c := c4) ((HV.out.later HB.out).later hb4) HN0.out (Nat.le_trans hB (Nat.le_trans HB.out.size hb4.size)) ho4.src hk4.symm (by have := HT46.out; rw [HT.out] at this; omega)
             have HO5 := Lib.hid (show OwnY B w5 (.slice A5 (n0 + k4) c5) (l ++ tailF (lens L) wd) by rw [HT.out]; exact ho5)
             have HQ5 := Lib.hid (show (l ++ tailF (lens L) wd).length = n0 + k4 by rw [HT.out]; exact hq5)
             have HB5 := Lib.hid (((HB.out.mono hB).trans (hb4.mono (Nat.le_trans hB HB.out.size))).trans hb5)
             have hk46 : k4 ≤ 46 := by have := HT46.out; rw [HT.out] at this; omega
             clear ho4 hb4 ho5 hq5 hb5 hk4)
          | (at_builtin; refine wpList_run rfl (.tmp 36) (.tmp 37) 30 rfl (.slice A0 n0 c0) (.slice A4 k4 c4) (by rfl) (by rfl) hr5 ?_))
        go_loopw [0, 11] (fun ov iv wr => ∃ (j : Nat) (Ao : Option Addr) (co q : Nat), j ≤ n ∧ iv = .int .i64 j ∧ ov = .slice Ao q co ∧ q ≤ 10000 ∧ Hid (OwnY B wr (.slice Ao q co) (l ++ tailF (lens L) wd ++ flatTo L j)) ∧ Hid ((l ++ tailF (lens L) wd ++ flatTo L j).length = q) ∧ Hid (Below B w wr)) (fun _ iv _ => n - (intOf iv).toNat)
        case atStart => exact ⟨0, _, _, n0 + k4, by omega, rfl, rfl, by omega, Lib.hid (by rw [flatTo_zero, List.append_nil]; exact HO5.out), Lib.hid (by rw [flatTo_zero, List.append_nil]; exact HQ5.out), HB5⟩
        case round =>
          obtain ⟨j, Ao, co, q, hj, rfl, rfl, hq, HO, HQQ, HBJ⟩ := hrel
          by_cases hjl : j < n
          · obtain ⟨ad, rfl, hc⟩ := HS.out _ HBJ.out (by rw [HL.out]; omega)
            obtain ⟨r, hr⟩ : ∃ r, L[j]? = some r := ⟨_, List.getElem?_eq_getElem (by rw [HL.out]; omega)⟩
            have hcell := (hc j r hr).1
            have hsu := sumTo_succ (lens_at hr)
            have hle := sumTo_le (lens L) (j + 1)
            have hlq := HQQ.out
            rw [List.length_append, List.length_append, length_flatTo, HN0.out] at hlq
            obtain ⟨A6, c6, w6, hr6, ho6, hq6, hb6⟩ := app_bytes2 (c := r.cap) HO.out HQQ.out (Nat.le_trans hB HBJ.out.size) (hc j r hr).2.1 rfl (by have := HSUM.out; omega)
            have HO6 := Lib.hid (show OwnY B w6 (.slice A6 (q + r.bs.length) c6) (l ++ tailF (lens L) wd ++ flatTo L (j + 1)) by rw [flatTo_succ hr, ← List.append_assoc]; exact ho6)
            have HQ6 := Lib.hid (show (l ++ tailF (lens L) wd ++ flatTo L (j + 1)).length = q + r.bs.length by rw [flatTo_succ hr, ← List.append_assoc]; exact hq6)
            have HB6 := Lib.hid (HBJ.out.trans hb6)
            have hq10 : q + r.bs.length ≤ 10000 := by have := HSUM.out; have := HT46.out; omega
            clear hc hr hsu hle ho6 hq6 hb6 hlq
            unfold RowB.v at hcell
            generalize r.bs.length = len at *
            go_wp2_with (at_builtin; refine wpList_run rfl (.tmp 45) (.tmp 49) 30 rfl (.slice Ao q co) (.slice r.A len r.cap) (by rfl) (by rfl) hr6 ?_)
            go_roundw
            case rel => exact ⟨j + 1, _, _, q + len, by omega, by go_num, rfl, hq10, HO6, HQ6, HB6⟩
            case measure => simp [intOf]; omega
          · have hjn : j = n := by omega
            rw [hjn, flatTo_all HL.out] at HO
            have HOO := Lib.hid HO.out
            clear hjn
            go_wp2
            go_ret
            exact ⟨_, rfl, HOO.out, HBJ.out⟩
      · have hk0 : ¬ (0 : Int) < k := by omega
        have HT := Lib.hid (HT0.out hn1x)
        have HO5 := Lib.hid (show OwnY B wr (.slice A0 n0 c0) (l ++ tailF (lens L) wd) by rw [HT.out, List.append_nil]; exact HV.out.later HB.out)
        have HQ5 := Lib.hid (show (l ++ tailF (lens L) wd).length = n0 by rw [HT.out, List.append_nil]; exact HN0.out)
        have HB5 := Lib.hid (HB.out.mono hB)
        clear hkn hlt hn1x HW HT1 HT0
        go_wp2
        go_loopw [0, 11] (fun ov iv wr => ∃ (j : Nat) (Ao : Option Addr) (co q : Nat), j ≤ n ∧ iv = .int .i64 j ∧ ov = .slice Ao q co ∧ q ≤ 10000 ∧ Hid (OwnY B wr (.slice Ao q co) (l ++ tailF (lens L) wd ++ flatTo L j)) ∧ Hid ((l ++ tailF (lens L) wd ++ flatTo L j).length = q) ∧ Hid (Below B w wr)) (fun _ iv _ => n - (intOf iv).toNat)
        case atStart => exact ⟨0, _, _, n0, by omega, rfl, rfl, by omega, Lib.hid (by rw [flatTo_zero, List.append_nil]; exact HO5.out), Lib.hid (by rw [flatTo_zero, List.append_nil]; exact HQ5.out), HB5⟩
        case round =>
          obtain ⟨j, Ao, co, q, hj, rfl, rfl, hq, HO, HQQ, HBJ⟩ := hrel
          by_cases hjl : j < n
          · obtain ⟨ad, rfl, hc⟩ := HS.out _ HBJ.out (by rw [HL.out]; omega)
            obtain ⟨r, hr⟩ : ∃ r, L[j]? = some r := ⟨_, List.getElem?_eq_getElem (by rw [HL.out]; omega)⟩
            have hcell := (hc j r hr).1
            have hsu := sumTo_succ (lens_at hr)
            have hle := sumTo_le (lens L) (j + 1)
            have hlq := HQQ.out
            rw [List.length_append, List.length_append, length_flatTo, HN0.out] at hlq
            obtain ⟨A6, c6, w6, hr6, ho6, hq6, hb6⟩ := app_bytes2 (c := r.cap) HO.out HQQ.out (Nat.le_trans hB HBJ.out.size) (hc j r hr).2.1 rfl (by have := HSUM.out; omega)
            have HO6 := Lib.hid (show OwnY B w6 (.slice A6 (q + r.bs.length) c6) (l ++ tailF (lens L) wd ++ flatTo L (j + 1)) by rw [flatTo_succ hr, ← List.append_assoc]; exact ho6)
            have HQ6 := Lib.hid (show (l ++ tailF (lens L) wd ++ flatTo L (j + 1)).length = q + r.bs.length by rw [flatTo_succ hr, ← List.append_assoc]; exact hq6)
            have HB6 := Lib.hid (HBJ.out.trans hb6)
            have hq10 : q + r.bs.length ≤ 10000 := by have := HSUM.out; have := HT46.out; omega
            clear hc hr hsu hle ho6 hq6 hb6 hlq
            unfold RowB.v at hcell
            generalize r.bs.length = len at *
            go_wp2_with (at_builtin; refine wpList_run rfl (.tmp 45) (.tmp 49) 30 rfl (.slice Ao q co) (.slice r.A len r.cap) (by rfl) (by rfl) hr6 ?_)
            go_roundw
            case rel => exact ⟨j + 1, _, _, q + len, by omega, by go_num, rfl, hq10, HO6, HQ6, HB6⟩
            case measure => simp [intOf]; omega
          · have hjn : j = n := by omega
            rw [hjn, flatTo_all HL.out] at HO
            have HOO := Lib.hid HO.out
            clear hjn
            go_wp2
            go_ret
            exact ⟨_, rfl, HOO.out, HBJ.out⟩
end Go.Proofs.Ytgdpjaojlhdhdaa
