/-
  What is so of the whole program, whichever law: what it lifts.
-/
import Derived.Test.YtgdpjaojlhdhdaaRows
import Derived.WalkKit
import Derived.ProofKit
namespace Go.Proofs.Ytgdpjaojlhdhdaa
open Go.RowKit

set_option maxRecDepth 100000 in
theorem seat_lift : Try.pinned.checked.prog.liftsFinal = false := by kernel_rfl
set_option maxRecDepth 100000 in
theorem seat_laid : laidOutB Try.pinned.checked.prog = true := by kernel_rfl
set_option maxRecDepth 100000 in
theorem seat_heard : Try.pinned.checked.prog.stopsHeard = true := by kernel_rfl
end Go.Proofs.Ytgdpjaojlhdhdaa
