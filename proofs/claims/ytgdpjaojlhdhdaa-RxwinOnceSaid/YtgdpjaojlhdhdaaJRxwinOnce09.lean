/-
  What is so of the whole program, whichever law: how it was made.
-/
import Derived.Test.YtgdpjaojlhdhdaaRows
import Derived.WalkKit
import Derived.ProofKit
namespace Go.Proofs.Ytgdpjaojlhdhdaa
open Go.RowKit

set_option maxRecDepth 100000 in
theorem seat_make : Try.pinned.checked.prog.make = some .cut := by kernel_rfl
end Go.Proofs.Ytgdpjaojlhdhdaa
