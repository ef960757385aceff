/-
  SpansAdds: what was put in is there, taken out none of it is; twice is as once; nothing else is changed by it.
-/
import Derived.Test.YtmaefeckkodllaaAdds1
import Derived.Test.YtmaefeckkodllaaAdds2
import Derived.Test.YtmaefeckkodllaaAdds3
import Derived.Test.YtmaefeckkodllaaAdds4
import Derived.Test.YtmaefeckkodllaaAdds5
namespace Go.Proofs.Ytmaefeckkodllaa
open Go.RowKit

theorem adds_walk (A : Option Addr) (l : List (Bool × (Int × Int))) (cap : Nat) (x y : Int × Int) (w : World) (hs : OSrc w A l) :
    Calls Try.prog 5 #[.slice A l.length cap, spv x, spv y] w fun e w' => e = .returned (.bool true) ∧ Below w.heap.size w w' := by
  obtain ⟨a, b⟩ := x
  obtain ⟨c, d⟩ := y
  cases hrx : rightB (a, b)
  · exact adds_case1 A l cap a b c d w hrx hs
  · cases hry : rightB (c, d)
    · exact adds_case2 A l cap a b c d w hrx hry hs
    · rcases Int.lt_or_le c b with m1 | m1
      · rcases Int.lt_or_le a d with m2 | m2
        · exact adds_case3 A l cap a b c d w hrx hry m1 m2 hs
        · exact adds_case4 A l cap a b c d w hrx hry m1 m2 hs
      · exact adds_case5 A l cap a b c d w hrx hry m1 hs
end Go.Proofs.Ytmaefeckkodllaa
