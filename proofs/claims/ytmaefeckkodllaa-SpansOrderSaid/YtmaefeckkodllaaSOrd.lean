/-
  SpansOrder: the law walked, whatever the place and however many calls.
-/
import Derived.Test.YtmaefeckkodllaaSOrdAIn
import Derived.Test.YtmaefeckkodllaaSOrdALo
import Derived.Test.YtmaefeckkodllaaSOrdAHi
import Derived.Test.YtmaefeckkodllaaSOrdBIn
import Derived.Test.YtmaefeckkodllaaSOrdBLo
import Derived.Test.YtmaefeckkodllaaSOrdBHi
namespace Go.Proofs.Ytmaefeckkodllaa
open Go.RowKit

theorem sorder_all (A : Option Addr) (l : List (Bool × (Int × Int))) (cap : Nat) (to : Int) (w : World) (hN : l.length ≤ 9223372036854775807) (hs : OSrc w A l) :
    Calls Try.prog 4 #[.slice A l.length cap, .int .i64 to] w fun e w' => e = .returned (.bool true) ∧ Below w.heap.size w w' := by
  rcases Nat.lt_or_ge 200 l.length with hl | hl
  · by_cases h1 : to < 1
    · exact so_b_lo A l cap to w hN hs h1 hl
    · by_cases h2 : 65536 < to
      · exact so_b_hi A l cap to w hN hs h2 hl
      · exact so_b_in A l cap to w hN hs (by omega) (by omega) hl
  · by_cases h1 : to < 1
    · exact so_a_lo A l cap to w hN hs h1 hl
    · by_cases h2 : 65536 < to
      · exact so_a_hi A l cap to w hN hs h2 hl
      · exact so_a_in A l cap to w hN hs (by omega) (by omega) hl
end Go.Proofs.Ytmaefeckkodllaa
