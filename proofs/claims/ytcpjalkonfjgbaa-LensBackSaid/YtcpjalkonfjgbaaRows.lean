/-
  No cell of these rows narrows 'for every input' (looked for: loops, veiled, ifaces, maps, wideKeys, modest, calm, conditions, laid).
  DERIVED. THE GIVEN ROWS OF THIS SEAT. 7 by the template 'for every input the law returns true; each argument reads behind the call as it read before'; 0 by the template 'total and deterministic' (their statements: YtcpjalkonfjgbaaTotals.lean).
  GIVEN WITH THE SEED: the statements are not yours to turn. If you find one false, say at which input.
  Laid BY PROGRAM, IN A SANDBOX (cutbox-rows.mjs): the forced cells as the released guide's own fill.sh prints them over the translation 8f637215cf3fdf0c… (all of the seat's roots in one cut). By AI agents, Wed Nov 11 2026. No macro, syntax, notation, axiom, sorry.
-/
import Derived.Test.YtcpjalkonfjgbaaChecked
import GoSem.Claim
import GoSem.ClaimJoined
import GoSem.ClaimMapViews
import Derived.JoinedTies
import Derived.KernelRfl
namespace Go.Proofs.Ytcpjalkonfjgbaa
/- THE CELL 'sum', in the pinned program and in every row, IS THE sha256 OF THE DUMP (.gsa) THAT YtcpjalkonfjgbaaProg.lean LOADS. Nothing in Lean hashes anything: it is a label: what it is worth is what the hold of that sum in a sandbox is worth. -/
noncomputable def Try.pinned : Pinned := { name := "ytcpjalkonfjgbaa", sum := "8f637215cf3fdf0c70413e4f883292f8f41b1ec94e15ed15e064e8db9bb120e0", checked := Try.checked }
namespace Rows
def none {H : Type} : Left H := { results := [], args := [] }

/-- 'bowlinelaw07.CheckSums': WHATEVER THE INPUT: true; the input reads as it did. -/
def checkSumsSpec : ChangeSpec := { name := "checkSums", fn := fun _ => fun
  | [d1, d2, d3] => { results := [.lit (.bool true)], args := [d1, d2, d3] }
  | _ => none }
def checkSumsRow : OpenClaim := { program := "ytcpjalkonfjgbaa", sum := "8f637215cf3fdf0c70413e4f883292f8f41b1ec94e15ed15e064e8db9bb120e0", func := "bowline/bowlinelaw07.CheckSums", spec := "checkSums", apart := false }
def CheckSumsSaid : Prop := checkSumsRow.holds Try.pinned (OpenSpec.ofChange checkSumsSpec)

/-- ITS FALSE NEIGHBOUR: 'it returns false'. Refute it at one input. -/
def checkSumsWrong : ChangeSpec := { name := "checkSums", fn := fun _ => fun
  | [d1, d2, d3] => { results := [.lit (.bool false)], args := [d1, d2, d3] }
  | _ => none }
def CheckSumsWrongFalsely : Prop := checkSumsRow.holds Try.pinned (OpenSpec.ofChange checkSumsWrong)

/-- 'bowlinelaw07.CheckParts': WHATEVER THE INPUT: true; the input reads as it did. -/
def checkPartsSpec : ChangeSpec := { name := "checkParts", fn := fun _ => fun
  | [d1, d2] => { results := [.lit (.bool true)], args := [d1, d2] }
  | _ => none }
def checkPartsRow : OpenClaim := { program := "ytcpjalkonfjgbaa", sum := "8f637215cf3fdf0c70413e4f883292f8f41b1ec94e15ed15e064e8db9bb120e0", func := "bowline/bowlinelaw07.CheckParts", spec := "checkParts", apart := false }
def CheckPartsSaid : Prop := checkPartsRow.holds Try.pinned (OpenSpec.ofChange checkPartsSpec)

/-- ITS FALSE NEIGHBOUR: 'it returns false'. Refute it at one input. -/
def checkPartsWrong : ChangeSpec := { name := "checkParts", fn := fun _ => fun
  | [d1, d2] => { results := [.lit (.bool false)], args := [d1, d2] }
  | _ => none }
def CheckPartsWrongFalsely : Prop := checkPartsRow.holds Try.pinned (OpenSpec.ofChange checkPartsWrong)

/-- 'bowlinelaw07.CheckBursts': WHATEVER THE INPUT: true; the input reads as it did. -/
def checkBurstsSpec : ChangeSpec := { name := "checkBursts", fn := fun _ => fun
  | [d1, d2, d3] => { results := [.lit (.bool true)], args := [d1, d2, d3] }
  | _ => none }
def checkBurstsRow : OpenClaim := { program := "ytcpjalkonfjgbaa", sum := "8f637215cf3fdf0c70413e4f883292f8f41b1ec94e15ed15e064e8db9bb120e0", func := "bowline/bowlinelaw07.CheckBursts", spec := "checkBursts", apart := false }
def CheckBurstsSaid : Prop := checkBurstsRow.holds Try.pinned (OpenSpec.ofChange checkBurstsSpec)

/-- ITS FALSE NEIGHBOUR: 'it returns false'. Refute it at one input. -/
def checkBurstsWrong : ChangeSpec := { name := "checkBursts", fn := fun _ => fun
  | [d1, d2, d3] => { results := [.lit (.bool false)], args := [d1, d2, d3] }
  | _ => none }
def CheckBurstsWrongFalsely : Prop := checkBurstsRow.holds Try.pinned (OpenSpec.ofChange checkBurstsWrong)

/-- 'bowlinelaw08.LensWrites': WHATEVER THE INPUT: true; the input reads as it did. -/
def lensWritesSpec : ChangeSpec := { name := "lensWrites", fn := fun _ => fun
  | [d1, d2, d3] => { results := [.lit (.bool true)], args := [d1, d2, d3] }
  | _ => none }
def lensWritesRow : OpenClaim := { program := "ytcpjalkonfjgbaa", sum := "8f637215cf3fdf0c70413e4f883292f8f41b1ec94e15ed15e064e8db9bb120e0", func := "bowline/bowlinelaw08.LensWrites", spec := "lensWrites", apart := false }
def LensWritesSaid : Prop := lensWritesRow.holds Try.pinned (OpenSpec.ofChange lensWritesSpec)

/-- ITS FALSE NEIGHBOUR: 'it returns false'. Refute it at one input. -/
def lensWritesWrong : ChangeSpec := { name := "lensWrites", fn := fun _ => fun
  | [d1, d2, d3] => { results := [.lit (.bool false)], args := [d1, d2, d3] }
  | _ => none }
def LensWritesWrongFalsely : Prop := lensWritesRow.holds Try.pinned (OpenSpec.ofChange lensWritesWrong)

/-- 'bowlinelaw08.LensReads': WHATEVER THE INPUT: true; the input reads as it did. -/
def lensReadsSpec : ChangeSpec := { name := "lensReads", fn := fun _ => fun
  | [d1, d2] => { results := [.lit (.bool true)], args := [d1, d2] }
  | _ => none }
def lensReadsRow : OpenClaim := { program := "ytcpjalkonfjgbaa", sum := "8f637215cf3fdf0c70413e4f883292f8f41b1ec94e15ed15e064e8db9bb120e0", func := "bowline/bowlinelaw08.LensReads", spec := "lensReads", apart := false }
def LensReadsSaid : Prop := lensReadsRow.holds Try.pinned (OpenSpec.ofChange lensReadsSpec)

/-- ITS FALSE NEIGHBOUR: 'it returns false'. Refute it at one input. -/
def lensReadsWrong : ChangeSpec := { name := "lensReads", fn := fun _ => fun
  | [d1, d2] => { results := [.lit (.bool false)], args := [d1, d2] }
  | _ => none }
def LensReadsWrongFalsely : Prop := lensReadsRow.holds Try.pinned (OpenSpec.ofChange lensReadsWrong)

/-- 'bowlinelaw08.LensBack': WHATEVER THE INPUT: true; the input reads as it did. -/
def lensBackSpec : ChangeSpec := { name := "lensBack", fn := fun _ => fun
  | [d1, d2, d3, d4] => { results := [.lit (.bool true)], args := [d1, d2, d3, d4] }
  | _ => none }
def lensBackRow : OpenClaim := { program := "ytcpjalkonfjgbaa", sum := "8f637215cf3fdf0c70413e4f883292f8f41b1ec94e15ed15e064e8db9bb120e0", func := "bowline/bowlinelaw08.LensBack", spec := "lensBack", apart := false }
def LensBackSaid : Prop := lensBackRow.holds Try.pinned (OpenSpec.ofChange lensBackSpec)

/-- ITS FALSE NEIGHBOUR: 'it returns false'. Refute it at one input. -/
def lensBackWrong : ChangeSpec := { name := "lensBack", fn := fun _ => fun
  | [d1, d2, d3, d4] => { results := [.lit (.bool false)], args := [d1, d2, d3, d4] }
  | _ => none }
def LensBackWrongFalsely : Prop := lensBackRow.holds Try.pinned (OpenSpec.ofChange lensBackWrong)

/-- 'bowlinelaw08.LensSizes': WHATEVER THE INPUT: true; the input reads as it did. -/
def lensSizesSpec : ChangeSpec := { name := "lensSizes", fn := fun _ => fun
  | [d1, d2] => { results := [.lit (.bool true)], args := [d1, d2] }
  | _ => none }
def lensSizesRow : OpenClaim := { program := "ytcpjalkonfjgbaa", sum := "8f637215cf3fdf0c70413e4f883292f8f41b1ec94e15ed15e064e8db9bb120e0", func := "bowline/bowlinelaw08.LensSizes", spec := "lensSizes", apart := false }
def LensSizesSaid : Prop := lensSizesRow.holds Try.pinned (OpenSpec.ofChange lensSizesSpec)

/-- ITS FALSE NEIGHBOUR: 'it returns false'. Refute it at one input. -/
def lensSizesWrong : ChangeSpec := { name := "lensSizes", fn := fun _ => fun
  | [d1, d2] => { results := [.lit (.bool false)], args := [d1, d2] }
  | _ => none }
def LensSizesWrongFalsely : Prop := lensSizesRow.holds Try.pinned (OpenSpec.ofChange lensSizesWrong)

/- THE SECOND FORM. 'bulk': how many values and letters a reading holds, each counted each time it is reached (what is shared counts as often as it is met; a slice's spare places count too). A statement '..UptoSaid' is the law's where the arguments, and the package variables that the reading takes, are together of bulk at most 1048576: NARROWER than '..Said'. Prove '..Said' where nothing that the law and all that it calls make is longer than what came in: it says more and counts as full. Else prove '..UptoSaid'. A law counts once. -/
mutual
def uptoBulk {H : Type} : DataW H → Nat
  | .lit (.string bytes) => bytes.length + 1
  | .lit _ => 1
  | .nil => 1
  | .ptr d => uptoBulk d + 1
  | .slice elems spare => uptoBulkAll elems + uptoBulkAll spare + 1
  | .agg parts => uptoBulkAll parts + 1
  | .iface _ d => uptoBulk d + 1
  | .map entries => uptoBulkEntries entries + 1
  | .held _ => 1
def uptoBulkAll {H : Type} : List (DataW H) → Nat
  | [] => 0
  | d :: r => uptoBulk d + uptoBulkAll r
def uptoBulkEntries {H : Type} : List (Lit × DataW H) → Nat
  | [] => 0
  | x :: r => uptoBulkEntry x + uptoBulkEntries r
def uptoBulkEntry {H : Type} : Lit × DataW H → Nat
  | (.string bytes, d) => bytes.length + uptoBulk d + 1
  | (_, d) => uptoBulk d + 1
 end
def uptoSmall : (H : Type) → List (DataW H) → Bool := fun _ ds => decide (uptoBulkAll ds ≤ 1048576)
def OpenSpec.upto (s : _root_.Go.ChangeSpec) : _root_.Go.OpenSpec := { _root_.Go.OpenSpec.ofChange s with cond := some uptoSmall }

/-- 'bowlinelaw07.CheckSums', WHERE WHAT IT READS IS OF BULK AT MOST 1048576: true; the input reads as it did. -/
def checkSumsUptoRow : OpenClaim := { program := "ytcpjalkonfjgbaa", sum := "8f637215cf3fdf0c70413e4f883292f8f41b1ec94e15ed15e064e8db9bb120e0", func := "bowline/bowlinelaw07.CheckSums", spec := "checkSums", apart := false, narrowed := true }
def CheckSumsUptoSaid : Prop := checkSumsUptoRow.holds Try.pinned (OpenSpec.upto checkSumsSpec)

/-- 'bowlinelaw07.CheckParts', WHERE WHAT IT READS IS OF BULK AT MOST 1048576: true; the input reads as it did. -/
def checkPartsUptoRow : OpenClaim := { program := "ytcpjalkonfjgbaa", sum := "8f637215cf3fdf0c70413e4f883292f8f41b1ec94e15ed15e064e8db9bb120e0", func := "bowline/bowlinelaw07.CheckParts", spec := "checkParts", apart := false, narrowed := true }
def CheckPartsUptoSaid : Prop := checkPartsUptoRow.holds Try.pinned (OpenSpec.upto checkPartsSpec)

/-- 'bowlinelaw07.CheckBursts', WHERE WHAT IT READS IS OF BULK AT MOST 1048576: true; the input reads as it did. -/
def checkBurstsUptoRow : OpenClaim := { program := "ytcpjalkonfjgbaa", sum := "8f637215cf3fdf0c70413e4f883292f8f41b1ec94e15ed15e064e8db9bb120e0", func := "bowline/bowlinelaw07.CheckBursts", spec := "checkBursts", apart := false, narrowed := true }
def CheckBurstsUptoSaid : Prop := checkBurstsUptoRow.holds Try.pinned (OpenSpec.upto checkBurstsSpec)

/-- 'bowlinelaw08.LensWrites', WHERE WHAT IT READS IS OF BULK AT MOST 1048576: true; the input reads as it did. -/
def lensWritesUptoRow : OpenClaim := { program := "ytcpjalkonfjgbaa", sum := "8f637215cf3fdf0c70413e4f883292f8f41b1ec94e15ed15e064e8db9bb120e0", func := "bowline/bowlinelaw08.LensWrites", spec := "lensWrites", apart := false, narrowed := true }
def LensWritesUptoSaid : Prop := lensWritesUptoRow.holds Try.pinned (OpenSpec.upto lensWritesSpec)

/-- 'bowlinelaw08.LensReads', WHERE WHAT IT READS IS OF BULK AT MOST 1048576: true; the input reads as it did. -/
def lensReadsUptoRow : OpenClaim := { program := "ytcpjalkonfjgbaa", sum := "8f637215cf3fdf0c70413e4f883292f8f41b1ec94e15ed15e064e8db9bb120e0", func := "bowline/bowlinelaw08.LensReads", spec := "lensReads", apart := false, narrowed := true }
def LensReadsUptoSaid : Prop := lensReadsUptoRow.holds Try.pinned (OpenSpec.upto lensReadsSpec)

/-- 'bowlinelaw08.LensBack', WHERE WHAT IT READS IS OF BULK AT MOST 1048576: true; the input reads as it did. -/
def lensBackUptoRow : OpenClaim := { program := "ytcpjalkonfjgbaa", sum := "8f637215cf3fdf0c70413e4f883292f8f41b1ec94e15ed15e064e8db9bb120e0", func := "bowline/bowlinelaw08.LensBack", spec := "lensBack", apart := false, narrowed := true }
def LensBackUptoSaid : Prop := lensBackUptoRow.holds Try.pinned (OpenSpec.upto lensBackSpec)

/-- 'bowlinelaw08.LensSizes', WHERE WHAT IT READS IS OF BULK AT MOST 1048576: true; the input reads as it did. -/
def lensSizesUptoRow : OpenClaim := { program := "ytcpjalkonfjgbaa", sum := "8f637215cf3fdf0c70413e4f883292f8f41b1ec94e15ed15e064e8db9bb120e0", func := "bowline/bowlinelaw08.LensSizes", spec := "lensSizes", apart := false, narrowed := true }
def LensSizesUptoSaid : Prop := lensSizesUptoRow.holds Try.pinned (OpenSpec.upto lensSizesSpec)

end Rows
end Go.Proofs.Ytcpjalkonfjgbaa
