/-
  What is so of the whole program, whichever law: its first words (one by one, as each takes much memory).
-/
import Derived.Test.YtgdpjaojlhdhdaaRows
import Derived.WalkKit
import Derived.ProofKit
namespace Go.Proofs.Ytgdpjaojlhdhdaa
open Go.RowKit

set_option maxRecDepth 100000 in
theorem seat_enter : Try.pinned.checked.prog.mayEnter = true := by kernel_rfl
end Go.Proofs.Ytgdpjaojlhdhdaa
