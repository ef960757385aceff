/-
  Small facts for SpansOrder.
-/
import Derived.Test.YtmaefeckkodllaaAddsKit
import Derived.Test.YtmaefeckkodllaaSpanGaps
import Derived.Test.YtmaefeckkodllaaSOrdMath
namespace Go.Proofs.Ytmaefeckkodllaa
open Go.RowKit

theorem count_nonneg : ∀ {G : List (Int × Int)}, (∀ g ∈ G, rightB g = true) → 0 ≤ countF G
  | [], _ => by simp [countF_nil]
  | y :: r, h => by
    have h1 := count_nonneg (G := r) fun g hg => h g (List.mem_cons_of_mem _ hg)
    have h2 := rightB_iff.1 (h y (List.mem_cons_self ..))
    rw [countF_cons]
    omega
theorem count_part {G : List (Int × Int)} (q : Nat) (h : ∀ g ∈ G, rightB g = true) : 0 ≤ countF (G.take q) ∧ countF (G.take q) ≤ countF G := by
  have e : countF G = countF (G.take q) + countF (G.drop q) := by rw [← countF_append, List.take_append_drop]
  have h1 := count_nonneg (G := G.take q) fun g hg => h g (List.mem_of_mem_take hg)
  have h2 := count_nonneg (G := G.drop q) fun g hg => h g (List.mem_of_mem_drop hg)
  omega
theorem right_p (a b : Int) (hv : rightB (a, b) = true) (w : World) : Calls Try.prog 27 #[.agg #[.int .i64 a, .int .i64 b]] w fun e w' => e = .returned (.bool true) ∧ Below w.heap.size w w' := right_is (a, b) true hv w
end Go.Proofs.Ytmaefeckkodllaa
