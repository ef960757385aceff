/-
  No cell of these rows narrows 'for every input' (looked for: loops, veiled, ifaces, maps, wideKeys, modest, calm, conditions, laid).
  DERIVED. THE GIVEN ROWS OF THIS SEAT. 11 by the template 'for every input the law returns true; each argument reads behind the call as it read before'; 0 by the template 'total and deterministic' (their statements: YtbhnpcmmcelecaaTotals.lean).
  GIVEN WITH THE SEED: the statements are not yours to turn. If you find one false, say at which input.
  Laid BY PROGRAM, IN A SANDBOX (cutbox-rows.mjs): the forced cells as the released guide's own fill.sh prints them over the translation e1ece4b4e4b54342… (all of the seat's roots in one cut). By AI agents, Wed Nov 11 2026. No macro, syntax, notation, axiom, sorry.
-/
import Derived.Test.YtbhnpcmmcelecaaChecked
import GoSem.Claim
import GoSem.ClaimJoined
import GoSem.ClaimMapViews
import Derived.JoinedTies
import Derived.KernelRfl
namespace Go.Proofs.Ytbhnpcmmcelecaa
/- THE CELL 'sum', in the pinned program and in every row, IS THE sha256 OF THE DUMP (.gsa) THAT YtbhnpcmmcelecaaProg.lean LOADS. Nothing in Lean hashes anything: it is a label: what it is worth is what the hold of that sum in a sandbox is worth. -/
noncomputable def Try.pinned : Pinned := { name := "ytbhnpcmmcelecaa", sum := "e1ece4b4e4b54342c8591e61eb6d1f67332295e17b5d47f7f033f24d8db8bb90", checked := Try.checked }
namespace Rows
def none {H : Type} : Left H := { results := [], args := [] }

/-- 'bowlinelaw03.SpansLive': WHATEVER THE INPUT: true; the input reads as it did. -/
def spansLiveSpec : ChangeSpec := { name := "spansLive", fn := fun _ => fun
  | [d1, d2, d3] => { results := [.lit (.bool true)], args := [d1, d2, d3] }
  | _ => none }
def spansLiveRow : OpenClaim := { program := "ytbhnpcmmcelecaa", sum := "e1ece4b4e4b54342c8591e61eb6d1f67332295e17b5d47f7f033f24d8db8bb90", func := "bowline/bowlinelaw03.SpansLive", spec := "spansLive", unfollowed := true, recurses := true, apart := false }
def SpansLiveSaid : Prop := spansLiveRow.holds Try.pinned (OpenSpec.ofChange spansLiveSpec)

/-- ITS FALSE NEIGHBOUR: 'it returns false'. Refute it at one input. -/
def spansLiveWrong : ChangeSpec := { name := "spansLive", fn := fun _ => fun
  | [d1, d2, d3] => { results := [.lit (.bool false)], args := [d1, d2, d3] }
  | _ => none }
def SpansLiveWrongFalsely : Prop := spansLiveRow.holds Try.pinned (OpenSpec.ofChange spansLiveWrong)

/-- 'bowlinelaw04.QueueLives': WHATEVER THE INPUT: true; the input reads as it did. -/
def queueLivesSpec : ChangeSpec := { name := "queueLives", fn := fun _ => fun
  | [d1, d2] => { results := [.lit (.bool true)], args := [d1, d2] }
  | _ => none }
def queueLivesRow : OpenClaim := { program := "ytbhnpcmmcelecaa", sum := "e1ece4b4e4b54342c8591e61eb6d1f67332295e17b5d47f7f033f24d8db8bb90", func := "bowline/bowlinelaw04.QueueLives", spec := "queueLives", apart := false }
def QueueLivesSaid : Prop := queueLivesRow.holds Try.pinned (OpenSpec.ofChange queueLivesSpec)

/-- ITS FALSE NEIGHBOUR: 'it returns false'. Refute it at one input. -/
def queueLivesWrong : ChangeSpec := { name := "queueLives", fn := fun _ => fun
  | [d1, d2] => { results := [.lit (.bool false)], args := [d1, d2] }
  | _ => none }
def QueueLivesWrongFalsely : Prop := queueLivesRow.holds Try.pinned (OpenSpec.ofChange queueLivesWrong)

/-- 'bowlinelaw11.StatusGrows': WHATEVER THE INPUT: true; the input reads as it did. -/
def statusGrowsSpec : ChangeSpec := { name := "statusGrows", fn := fun _ => fun
  | [d1, d2, d3] => { results := [.lit (.bool true)], args := [d1, d2, d3] }
  | _ => none }
def statusGrowsRow : OpenClaim := { program := "ytbhnpcmmcelecaa", sum := "e1ece4b4e4b54342c8591e61eb6d1f67332295e17b5d47f7f033f24d8db8bb90", func := "bowline/bowlinelaw11.StatusGrows", spec := "statusGrows", apart := false }
def StatusGrowsSaid : Prop := statusGrowsRow.holds Try.pinned (OpenSpec.ofChange statusGrowsSpec)

/-- ITS FALSE NEIGHBOUR: 'it returns false'. Refute it at one input. -/
def statusGrowsWrong : ChangeSpec := { name := "statusGrows", fn := fun _ => fun
  | [d1, d2, d3] => { results := [.lit (.bool false)], args := [d1, d2, d3] }
  | _ => none }
def StatusGrowsWrongFalsely : Prop := statusGrowsRow.holds Try.pinned (OpenSpec.ofChange statusGrowsWrong)

/-- 'bowlinelaw13.CutBuilds': WHATEVER THE INPUT: true; the input reads as it did. -/
def cutBuildsSpec : ChangeSpec := { name := "cutBuilds", fn := fun _ => fun
  | [d] => { results := [.lit (.bool true)], args := [d] }
  | _ => none }
def cutBuildsRow : OpenClaim := { program := "ytbhnpcmmcelecaa", sum := "e1ece4b4e4b54342c8591e61eb6d1f67332295e17b5d47f7f033f24d8db8bb90", func := "bowline/bowlinelaw13.CutBuilds", spec := "cutBuilds", apart := false }
def CutBuildsSaid : Prop := cutBuildsRow.holds Try.pinned (OpenSpec.ofChange cutBuildsSpec)

/-- ITS FALSE NEIGHBOUR: 'it returns false'. Refute it at one input. -/
def cutBuildsWrong : ChangeSpec := { name := "cutBuilds", fn := fun _ => fun
  | [d] => { results := [.lit (.bool false)], args := [d] }
  | _ => none }
def CutBuildsWrongFalsely : Prop := cutBuildsRow.holds Try.pinned (OpenSpec.ofChange cutBuildsWrong)

/-- 'bowlinelaw15.PlainLives': WHATEVER THE INPUT: true; the input reads as it did. -/
def plainLivesSpec : ChangeSpec := { name := "plainLives", fn := fun _ => fun
  | [d1, d2] => { results := [.lit (.bool true)], args := [d1, d2] }
  | _ => none }
def plainLivesRow : OpenClaim := { program := "ytbhnpcmmcelecaa", sum := "e1ece4b4e4b54342c8591e61eb6d1f67332295e17b5d47f7f033f24d8db8bb90", func := "bowline/bowlinelaw15.PlainLives", spec := "plainLives", unfollowed := true, recurses := true, apart := false }
def PlainLivesSaid : Prop := plainLivesRow.holds Try.pinned (OpenSpec.ofChange plainLivesSpec)

/-- ITS FALSE NEIGHBOUR: 'it returns false'. Refute it at one input. -/
def plainLivesWrong : ChangeSpec := { name := "plainLives", fn := fun _ => fun
  | [d1, d2] => { results := [.lit (.bool false)], args := [d1, d2] }
  | _ => none }
def PlainLivesWrongFalsely : Prop := plainLivesRow.holds Try.pinned (OpenSpec.ofChange plainLivesWrong)

/-- 'bowlinelaw16.UmtxLives': WHATEVER THE INPUT: true; the input reads as it did. -/
def umtxLivesSpec : ChangeSpec := { name := "umtxLives", fn := fun _ => fun
  | [d1, d2] => { results := [.lit (.bool true)], args := [d1, d2] }
  | _ => none }
def umtxLivesRow : OpenClaim := { program := "ytbhnpcmmcelecaa", sum := "e1ece4b4e4b54342c8591e61eb6d1f67332295e17b5d47f7f033f24d8db8bb90", func := "bowline/bowlinelaw16.UmtxLives", spec := "umtxLives", unfollowed := true, recurses := true, apart := false }
def UmtxLivesSaid : Prop := umtxLivesRow.holds Try.pinned (OpenSpec.ofChange umtxLivesSpec)

/-- ITS FALSE NEIGHBOUR: 'it returns false'. Refute it at one input. -/
def umtxLivesWrong : ChangeSpec := { name := "umtxLives", fn := fun _ => fun
  | [d1, d2] => { results := [.lit (.bool false)], args := [d1, d2] }
  | _ => none }
def UmtxLivesWrongFalsely : Prop := umtxLivesRow.holds Try.pinned (OpenSpec.ofChange umtxLivesWrong)

/-- 'bowlinelaw16.UmtxFits': WHATEVER THE INPUT: true; the input reads as it did. -/
def umtxFitsSpec : ChangeSpec := { name := "umtxFits", fn := fun _ => fun
  | [d1, d2, d3] => { results := [.lit (.bool true)], args := [d1, d2, d3] }
  | _ => none }
def umtxFitsRow : OpenClaim := { program := "ytbhnpcmmcelecaa", sum := "e1ece4b4e4b54342c8591e61eb6d1f67332295e17b5d47f7f033f24d8db8bb90", func := "bowline/bowlinelaw16.UmtxFits", spec := "umtxFits", unfollowed := true, recurses := true, apart := false }
def UmtxFitsSaid : Prop := umtxFitsRow.holds Try.pinned (OpenSpec.ofChange umtxFitsSpec)

/-- ITS FALSE NEIGHBOUR: 'it returns false'. Refute it at one input. -/
def umtxFitsWrong : ChangeSpec := { name := "umtxFits", fn := fun _ => fun
  | [d1, d2, d3] => { results := [.lit (.bool false)], args := [d1, d2, d3] }
  | _ => none }
def UmtxFitsWrongFalsely : Prop := umtxFitsRow.holds Try.pinned (OpenSpec.ofChange umtxFitsWrong)

/-- 'bowlinelaw16.UmtxNumbers': WHATEVER THE INPUT: true; the input reads as it did. -/
def umtxNumbersSpec : ChangeSpec := { name := "umtxNumbers", fn := fun _ => fun
  | [d1, d2] => { results := [.lit (.bool true)], args := [d1, d2] }
  | _ => none }
def umtxNumbersRow : OpenClaim := { program := "ytbhnpcmmcelecaa", sum := "e1ece4b4e4b54342c8591e61eb6d1f67332295e17b5d47f7f033f24d8db8bb90", func := "bowline/bowlinelaw16.UmtxNumbers", spec := "umtxNumbers", unfollowed := true, recurses := true, apart := false }
def UmtxNumbersSaid : Prop := umtxNumbersRow.holds Try.pinned (OpenSpec.ofChange umtxNumbersSpec)

/-- ITS FALSE NEIGHBOUR: 'it returns false'. Refute it at one input. -/
def umtxNumbersWrong : ChangeSpec := { name := "umtxNumbers", fn := fun _ => fun
  | [d1, d2] => { results := [.lit (.bool false)], args := [d1, d2] }
  | _ => none }
def UmtxNumbersWrongFalsely : Prop := umtxNumbersRow.holds Try.pinned (OpenSpec.ofChange umtxNumbersWrong)

/-- 'bowlinelaw18.TxwinLives': WHATEVER THE INPUT: true; the input reads as it did. -/
def txwinLivesSpec : ChangeSpec := { name := "txwinLives", fn := fun _ => fun
  | [d1, d2, d3, d4] => { results := [.lit (.bool true)], args := [d1, d2, d3, d4] }
  | _ => none }
def txwinLivesRow : OpenClaim := { program := "ytbhnpcmmcelecaa", sum := "e1ece4b4e4b54342c8591e61eb6d1f67332295e17b5d47f7f033f24d8db8bb90", func := "bowline/bowlinelaw18.TxwinLives", spec := "txwinLives", apart := false }
def TxwinLivesSaid : Prop := txwinLivesRow.holds Try.pinned (OpenSpec.ofChange txwinLivesSpec)

/-- ITS FALSE NEIGHBOUR: 'it returns false'. Refute it at one input. -/
def txwinLivesWrong : ChangeSpec := { name := "txwinLives", fn := fun _ => fun
  | [d1, d2, d3, d4] => { results := [.lit (.bool false)], args := [d1, d2, d3, d4] }
  | _ => none }
def TxwinLivesWrongFalsely : Prop := txwinLivesRow.holds Try.pinned (OpenSpec.ofChange txwinLivesWrong)

/-- 'bowlinelaw18.TxwinMeets': WHATEVER THE INPUT: true; the input reads as it did. -/
def txwinMeetsSpec : ChangeSpec := { name := "txwinMeets", fn := fun _ => fun
  | [d1, d2, d3, d4] => { results := [.lit (.bool true)], args := [d1, d2, d3, d4] }
  | _ => none }
def txwinMeetsRow : OpenClaim := { program := "ytbhnpcmmcelecaa", sum := "e1ece4b4e4b54342c8591e61eb6d1f67332295e17b5d47f7f033f24d8db8bb90", func := "bowline/bowlinelaw18.TxwinMeets", spec := "txwinMeets", apart := false }
def TxwinMeetsSaid : Prop := txwinMeetsRow.holds Try.pinned (OpenSpec.ofChange txwinMeetsSpec)

/-- ITS FALSE NEIGHBOUR: 'it returns false'. Refute it at one input. -/
def txwinMeetsWrong : ChangeSpec := { name := "txwinMeets", fn := fun _ => fun
  | [d1, d2, d3, d4] => { results := [.lit (.bool false)], args := [d1, d2, d3, d4] }
  | _ => none }
def TxwinMeetsWrongFalsely : Prop := txwinMeetsRow.holds Try.pinned (OpenSpec.ofChange txwinMeetsWrong)

/-- 'bowlinelaw18.TxwinStalls': WHATEVER THE INPUT: true; the input reads as it did. -/
def txwinStallsSpec : ChangeSpec := { name := "txwinStalls", fn := fun _ => fun
  | [d1, d2, d3] => { results := [.lit (.bool true)], args := [d1, d2, d3] }
  | _ => none }
def txwinStallsRow : OpenClaim := { program := "ytbhnpcmmcelecaa", sum := "e1ece4b4e4b54342c8591e61eb6d1f67332295e17b5d47f7f033f24d8db8bb90", func := "bowline/bowlinelaw18.TxwinStalls", spec := "txwinStalls", apart := false }
def TxwinStallsSaid : Prop := txwinStallsRow.holds Try.pinned (OpenSpec.ofChange txwinStallsSpec)

/-- ITS FALSE NEIGHBOUR: 'it returns false'. Refute it at one input. -/
def txwinStallsWrong : ChangeSpec := { name := "txwinStalls", fn := fun _ => fun
  | [d1, d2, d3] => { results := [.lit (.bool false)], args := [d1, d2, d3] }
  | _ => none }
def TxwinStallsWrongFalsely : Prop := txwinStallsRow.holds Try.pinned (OpenSpec.ofChange txwinStallsWrong)

/- THE SECOND FORM. 'bulk': how many values and letters a reading holds, each counted each time it is reached (what is shared counts as often as it is met; a slice's spare places count too). A statement '..UptoSaid' is the law's where the arguments, and the package variables that the reading takes, are together of bulk at most 1048576: NARROWER than '..Said'. Prove '..Said' where nothing that the law and all that it calls make is longer than what came in: it says more and counts as full. Else prove '..UptoSaid'. A law counts once. -/
mutual
def uptoBulk {H : Type} : DataW H → Nat
  | .lit (.string bytes) => bytes.length + 1
  | .lit _ => 1
  | .nil => 1
  | .ptr d => uptoBulk d + 1
  | .slice elems spare => uptoBulkAll elems + uptoBulkAll spare + 1
  | .agg parts => uptoBulkAll parts + 1
  | .iface _ d => uptoBulk d + 1
  | .map entries => uptoBulkEntries entries + 1
  | .held _ => 1
def uptoBulkAll {H : Type} : List (DataW H) → Nat
  | [] => 0
  | d :: r => uptoBulk d + uptoBulkAll r
def uptoBulkEntries {H : Type} : List (Lit × DataW H) → Nat
  | [] => 0
  | x :: r => uptoBulkEntry x + uptoBulkEntries r
def uptoBulkEntry {H : Type} : Lit × DataW H → Nat
  | (.string bytes, d) => bytes.length + uptoBulk d + 1
  | (_, d) => uptoBulk d + 1
 end
def uptoSmall : (H : Type) → List (DataW H) → Bool := fun _ ds => decide (uptoBulkAll ds ≤ 1048576)
def OpenSpec.upto (s : _root_.Go.ChangeSpec) : _root_.Go.OpenSpec := { _root_.Go.OpenSpec.ofChange s with cond := some uptoSmall }

/-- 'bowlinelaw03.SpansLive', WHERE WHAT IT READS IS OF BULK AT MOST 1048576: true; the input reads as it did. -/
def spansLiveUptoRow : OpenClaim := { program := "ytbhnpcmmcelecaa", sum := "e1ece4b4e4b54342c8591e61eb6d1f67332295e17b5d47f7f033f24d8db8bb90", func := "bowline/bowlinelaw03.SpansLive", spec := "spansLive", unfollowed := true, recurses := true, apart := false, narrowed := true }
def SpansLiveUptoSaid : Prop := spansLiveUptoRow.holds Try.pinned (OpenSpec.upto spansLiveSpec)

/-- 'bowlinelaw04.QueueLives', WHERE WHAT IT READS IS OF BULK AT MOST 1048576: true; the input reads as it did. -/
def queueLivesUptoRow : OpenClaim := { program := "ytbhnpcmmcelecaa", sum := "e1ece4b4e4b54342c8591e61eb6d1f67332295e17b5d47f7f033f24d8db8bb90", func := "bowline/bowlinelaw04.QueueLives", spec := "queueLives", apart := false, narrowed := true }
def QueueLivesUptoSaid : Prop := queueLivesUptoRow.holds Try.pinned (OpenSpec.upto queueLivesSpec)

/-- 'bowlinelaw11.StatusGrows', WHERE WHAT IT READS IS OF BULK AT MOST 1048576: true; the input reads as it did. -/
def statusGrowsUptoRow : OpenClaim := { program := "ytbhnpcmmcelecaa", sum := "e1ece4b4e4b54342c8591e61eb6d1f67332295e17b5d47f7f033f24d8db8bb90", func := "bowline/bowlinelaw11.StatusGrows", spec := "statusGrows", apart := false, narrowed := true }
def StatusGrowsUptoSaid : Prop := statusGrowsUptoRow.holds Try.pinned (OpenSpec.upto statusGrowsSpec)

/-- 'bowlinelaw13.CutBuilds', WHERE WHAT IT READS IS OF BULK AT MOST 1048576: true; the input reads as it did. -/
def cutBuildsUptoRow : OpenClaim := { program := "ytbhnpcmmcelecaa", sum := "e1ece4b4e4b54342c8591e61eb6d1f67332295e17b5d47f7f033f24d8db8bb90", func := "bowline/bowlinelaw13.CutBuilds", spec := "cutBuilds", apart := false, narrowed := true }
def CutBuildsUptoSaid : Prop := cutBuildsUptoRow.holds Try.pinned (OpenSpec.upto cutBuildsSpec)

/-- 'bowlinelaw15.PlainLives', WHERE WHAT IT READS IS OF BULK AT MOST 1048576: true; the input reads as it did. -/
def plainLivesUptoRow : OpenClaim := { program := "ytbhnpcmmcelecaa", sum := "e1ece4b4e4b54342c8591e61eb6d1f67332295e17b5d47f7f033f24d8db8bb90", func := "bowline/bowlinelaw15.PlainLives", spec := "plainLives", unfollowed := true, recurses := true, apart := false, narrowed := true }
def PlainLivesUptoSaid : Prop := plainLivesUptoRow.holds Try.pinned (OpenSpec.upto plainLivesSpec)

/-- 'bowlinelaw16.UmtxLives', WHERE WHAT IT READS IS OF BULK AT MOST 1048576: true; the input reads as it did. -/
def umtxLivesUptoRow : OpenClaim := { program := "ytbhnpcmmcelecaa", sum := "e1ece4b4e4b54342c8591e61eb6d1f67332295e17b5d47f7f033f24d8db8bb90", func := "bowline/bowlinelaw16.UmtxLives", spec := "umtxLives", unfollowed := true, recurses := true, apart := false, narrowed := true }
def UmtxLivesUptoSaid : Prop := umtxLivesUptoRow.holds Try.pinned (OpenSpec.upto umtxLivesSpec)

/-- 'bowlinelaw16.UmtxFits', WHERE WHAT IT READS IS OF BULK AT MOST 1048576: true; the input reads as it did. -/
def umtxFitsUptoRow : OpenClaim := { program := "ytbhnpcmmcelecaa", sum := "e1ece4b4e4b54342c8591e61eb6d1f67332295e17b5d47f7f033f24d8db8bb90", func := "bowline/bowlinelaw16.UmtxFits", spec := "umtxFits", unfollowed := true, recurses := true, apart := false, narrowed := true }
def UmtxFitsUptoSaid : Prop := umtxFitsUptoRow.holds Try.pinned (OpenSpec.upto umtxFitsSpec)

/-- 'bowlinelaw16.UmtxNumbers', WHERE WHAT IT READS IS OF BULK AT MOST 1048576: true; the input reads as it did. -/
def umtxNumbersUptoRow : OpenClaim := { program := "ytbhnpcmmcelecaa", sum := "e1ece4b4e4b54342c8591e61eb6d1f67332295e17b5d47f7f033f24d8db8bb90", func := "bowline/bowlinelaw16.UmtxNumbers", spec := "umtxNumbers", unfollowed := true, recurses := true, apart := false, narrowed := true }
def UmtxNumbersUptoSaid : Prop := umtxNumbersUptoRow.holds Try.pinned (OpenSpec.upto umtxNumbersSpec)

/-- 'bowlinelaw18.TxwinLives', WHERE WHAT IT READS IS OF BULK AT MOST 1048576: true; the input reads as it did. -/
def txwinLivesUptoRow : OpenClaim := { program := "ytbhnpcmmcelecaa", sum := "e1ece4b4e4b54342c8591e61eb6d1f67332295e17b5d47f7f033f24d8db8bb90", func := "bowline/bowlinelaw18.TxwinLives", spec := "txwinLives", apart := false, narrowed := true }
def TxwinLivesUptoSaid : Prop := txwinLivesUptoRow.holds Try.pinned (OpenSpec.upto txwinLivesSpec)

/-- 'bowlinelaw18.TxwinMeets', WHERE WHAT IT READS IS OF BULK AT MOST 1048576: true; the input reads as it did. -/
def txwinMeetsUptoRow : OpenClaim := { program := "ytbhnpcmmcelecaa", sum := "e1ece4b4e4b54342c8591e61eb6d1f67332295e17b5d47f7f033f24d8db8bb90", func := "bowline/bowlinelaw18.TxwinMeets", spec := "txwinMeets", apart := false, narrowed := true }
def TxwinMeetsUptoSaid : Prop := txwinMeetsUptoRow.holds Try.pinned (OpenSpec.upto txwinMeetsSpec)

/-- 'bowlinelaw18.TxwinStalls', WHERE WHAT IT READS IS OF BULK AT MOST 1048576: true; the input reads as it did. -/
def txwinStallsUptoRow : OpenClaim := { program := "ytbhnpcmmcelecaa", sum := "e1ece4b4e4b54342c8591e61eb6d1f67332295e17b5d47f7f033f24d8db8bb90", func := "bowline/bowlinelaw18.TxwinStalls", spec := "txwinStalls", apart := false, narrowed := true }
def TxwinStallsUptoSaid : Prop := txwinStallsUptoRow.holds Try.pinned (OpenSpec.upto txwinStallsSpec)

end Rows
end Go.Proofs.Ytbhnpcmmcelecaa
