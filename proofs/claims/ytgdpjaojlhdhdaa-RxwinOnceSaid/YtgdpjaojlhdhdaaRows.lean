/-
  No cell of these rows narrows 'for every input' (looked for: loops, veiled, ifaces, maps, wideKeys, modest, calm, conditions, laid).
  DERIVED. THE GIVEN ROWS OF THIS SEAT. 17 by the template 'for every input the law returns true; each argument reads behind the call as it read before'; 0 by the template 'total and deterministic' (their statements: YtgdpjaojlhdhdaaTotals.lean).
  GIVEN WITH THE SEED: the statements are not yours to turn. If you find one false, say at which input.
  Laid BY PROGRAM, IN A SANDBOX (cutbox-rows.mjs): the forced cells as the released guide's own fill.sh prints them over the translation 5b8127b575373416… (all of the seat's roots in one cut). By AI agents, Wed Nov 11 2026. No macro, syntax, notation, axiom, sorry.
-/
import Derived.Test.YtgdpjaojlhdhdaaChecked
import GoSem.Claim
import GoSem.ClaimJoined
import GoSem.ClaimMapViews
import Derived.JoinedTies
import Derived.KernelRfl
namespace Go.Proofs.Ytgdpjaojlhdhdaa
/- THE CELL 'sum', in the pinned program and in every row, IS THE sha256 OF THE DUMP (.gsa) THAT YtgdpjaojlhdhdaaProg.lean LOADS. Nothing in Lean hashes anything: it is a label: what it is worth is what the hold of that sum in a sandbox is worth. -/
noncomputable def Try.pinned : Pinned := { name := "ytgdpjaojlhdhdaa", sum := "5b8127b57537341694b8e50761a3e2833dac65201f0fee20965f4ed55890655d", checked := Try.checked }
namespace Rows
def none {H : Type} : Left H := { results := [], args := [] }

/-- 'bowlinelaw16.UmtxNumbers': WHATEVER THE INPUT: true; the input reads as it did. -/
def umtxNumbersSpec : ChangeSpec := { name := "umtxNumbers", fn := fun _ => fun
  | [d1, d2] => { results := [.lit (.bool true)], args := [d1, d2] }
  | _ => none }
def umtxNumbersRow : OpenClaim := { program := "ytgdpjaojlhdhdaa", sum := "5b8127b57537341694b8e50761a3e2833dac65201f0fee20965f4ed55890655d", func := "bowline/bowlinelaw16.UmtxNumbers", spec := "umtxNumbers", unfollowed := true, recurses := true, apart := false }
def UmtxNumbersSaid : Prop := umtxNumbersRow.holds Try.pinned (OpenSpec.ofChange umtxNumbersSpec)

/-- ITS FALSE NEIGHBOUR: 'it returns false'. Refute it at one input. -/
def umtxNumbersWrong : ChangeSpec := { name := "umtxNumbers", fn := fun _ => fun
  | [d1, d2] => { results := [.lit (.bool false)], args := [d1, d2] }
  | _ => none }
def UmtxNumbersWrongFalsely : Prop := umtxNumbersRow.holds Try.pinned (OpenSpec.ofChange umtxNumbersWrong)

/-- 'bowlinelaw16.UmtxFits': WHATEVER THE INPUT: true; the input reads as it did. -/
def umtxFitsSpec : ChangeSpec := { name := "umtxFits", fn := fun _ => fun
  | [d1, d2, d3] => { results := [.lit (.bool true)], args := [d1, d2, d3] }
  | _ => none }
def umtxFitsRow : OpenClaim := { program := "ytgdpjaojlhdhdaa", sum := "5b8127b57537341694b8e50761a3e2833dac65201f0fee20965f4ed55890655d", func := "bowline/bowlinelaw16.UmtxFits", spec := "umtxFits", unfollowed := true, recurses := true, apart := false }
def UmtxFitsSaid : Prop := umtxFitsRow.holds Try.pinned (OpenSpec.ofChange umtxFitsSpec)

/-- ITS FALSE NEIGHBOUR: 'it returns false'. Refute it at one input. -/
def umtxFitsWrong : ChangeSpec := { name := "umtxFits", fn := fun _ => fun
  | [d1, d2, d3] => { results := [.lit (.bool false)], args := [d1, d2, d3] }
  | _ => none }
def UmtxFitsWrongFalsely : Prop := umtxFitsRow.holds Try.pinned (OpenSpec.ofChange umtxFitsWrong)

/-- 'bowlinelaw10.AmdReads': WHATEVER THE INPUT: true; the input reads as it did. -/
def amdReadsSpec : ChangeSpec := { name := "amdReads", fn := fun _ => fun
  | [d1, d2] => { results := [.lit (.bool true)], args := [d1, d2] }
  | _ => none }
def amdReadsRow : OpenClaim := { program := "ytgdpjaojlhdhdaa", sum := "5b8127b57537341694b8e50761a3e2833dac65201f0fee20965f4ed55890655d", func := "bowline/bowlinelaw10.AmdReads", spec := "amdReads", unfollowed := true, recurses := true, apart := false }
def AmdReadsSaid : Prop := amdReadsRow.holds Try.pinned (OpenSpec.ofChange amdReadsSpec)

/-- ITS FALSE NEIGHBOUR: 'it returns false'. Refute it at one input. -/
def amdReadsWrong : ChangeSpec := { name := "amdReads", fn := fun _ => fun
  | [d1, d2] => { results := [.lit (.bool false)], args := [d1, d2] }
  | _ => none }
def AmdReadsWrongFalsely : Prop := amdReadsRow.holds Try.pinned (OpenSpec.ofChange amdReadsWrong)

/-- 'bowlinelaw10.AmdWrites': WHATEVER THE INPUT: true; the input reads as it did. -/
def amdWritesSpec : ChangeSpec := { name := "amdWrites", fn := fun _ => fun
  | [d1, d2, d3] => { results := [.lit (.bool true)], args := [d1, d2, d3] }
  | _ => none }
def amdWritesRow : OpenClaim := { program := "ytgdpjaojlhdhdaa", sum := "5b8127b57537341694b8e50761a3e2833dac65201f0fee20965f4ed55890655d", func := "bowline/bowlinelaw10.AmdWrites", spec := "amdWrites", unfollowed := true, recurses := true, apart := false }
def AmdWritesSaid : Prop := amdWritesRow.holds Try.pinned (OpenSpec.ofChange amdWritesSpec)

/-- ITS FALSE NEIGHBOUR: 'it returns false'. Refute it at one input. -/
def amdWritesWrong : ChangeSpec := { name := "amdWrites", fn := fun _ => fun
  | [d1, d2, d3] => { results := [.lit (.bool false)], args := [d1, d2, d3] }
  | _ => none }
def AmdWritesWrongFalsely : Prop := amdWritesRow.holds Try.pinned (OpenSpec.ofChange amdWritesWrong)

/-- 'bowlinelaw23.RxwinOnce': WHATEVER THE INPUT: true; the input reads as it did. -/
def rxwinOnceSpec : ChangeSpec := { name := "rxwinOnce", fn := fun _ => fun
  | [d1, d2, d3] => { results := [.lit (.bool true)], args := [d1, d2, d3] }
  | _ => none }
def rxwinOnceRow : OpenClaim := { program := "ytgdpjaojlhdhdaa", sum := "5b8127b57537341694b8e50761a3e2833dac65201f0fee20965f4ed55890655d", func := "bowline/bowlinelaw23.RxwinOnce", spec := "rxwinOnce", apart := false }
def RxwinOnceSaid : Prop := rxwinOnceRow.holds Try.pinned (OpenSpec.ofChange rxwinOnceSpec)

/-- ITS FALSE NEIGHBOUR: 'it returns false'. Refute it at one input. -/
def rxwinOnceWrong : ChangeSpec := { name := "rxwinOnce", fn := fun _ => fun
  | [d1, d2, d3] => { results := [.lit (.bool false)], args := [d1, d2, d3] }
  | _ => none }
def RxwinOnceWrongFalsely : Prop := rxwinOnceRow.holds Try.pinned (OpenSpec.ofChange rxwinOnceWrong)

/-- 'bowlinelaw23.RxwinFar': WHATEVER THE INPUT: true; the input reads as it did. -/
def rxwinFarSpec : ChangeSpec := { name := "rxwinFar", fn := fun _ => fun
  | [d1, d2, d3] => { results := [.lit (.bool true)], args := [d1, d2, d3] }
  | _ => none }
def rxwinFarRow : OpenClaim := { program := "ytgdpjaojlhdhdaa", sum := "5b8127b57537341694b8e50761a3e2833dac65201f0fee20965f4ed55890655d", func := "bowline/bowlinelaw23.RxwinFar", spec := "rxwinFar", apart := false }
def RxwinFarSaid : Prop := rxwinFarRow.holds Try.pinned (OpenSpec.ofChange rxwinFarSpec)

/-- ITS FALSE NEIGHBOUR: 'it returns false'. Refute it at one input. -/
def rxwinFarWrong : ChangeSpec := { name := "rxwinFar", fn := fun _ => fun
  | [d1, d2, d3] => { results := [.lit (.bool false)], args := [d1, d2, d3] }
  | _ => none }
def RxwinFarWrongFalsely : Prop := rxwinFarRow.holds Try.pinned (OpenSpec.ofChange rxwinFarWrong)

/-- 'bowlinelaw23.RxwinLives': WHATEVER THE INPUT: true; the input reads as it did. -/
def rxwinLivesSpec : ChangeSpec := { name := "rxwinLives", fn := fun _ => fun
  | [d1, d2, d3, d4] => { results := [.lit (.bool true)], args := [d1, d2, d3, d4] }
  | _ => none }
def rxwinLivesRow : OpenClaim := { program := "ytgdpjaojlhdhdaa", sum := "5b8127b57537341694b8e50761a3e2833dac65201f0fee20965f4ed55890655d", func := "bowline/bowlinelaw23.RxwinLives", spec := "rxwinLives", apart := false }
def RxwinLivesSaid : Prop := rxwinLivesRow.holds Try.pinned (OpenSpec.ofChange rxwinLivesSpec)

/-- ITS FALSE NEIGHBOUR: 'it returns false'. Refute it at one input. -/
def rxwinLivesWrong : ChangeSpec := { name := "rxwinLives", fn := fun _ => fun
  | [d1, d2, d3, d4] => { results := [.lit (.bool false)], args := [d1, d2, d3, d4] }
  | _ => none }
def RxwinLivesWrongFalsely : Prop := rxwinLivesRow.holds Try.pinned (OpenSpec.ofChange rxwinLivesWrong)

/-- 'bowlinelaw24.RxbufTwice': WHATEVER THE INPUT: true; the input reads as it did. -/
def rxbufTwiceSpec : ChangeSpec := { name := "rxbufTwice", fn := fun _ => fun
  | [d] => { results := [.lit (.bool true)], args := [d] }
  | _ => none }
def rxbufTwiceRow : OpenClaim := { program := "ytgdpjaojlhdhdaa", sum := "5b8127b57537341694b8e50761a3e2833dac65201f0fee20965f4ed55890655d", func := "bowline/bowlinelaw24.RxbufTwice", spec := "rxbufTwice", unfollowed := true, recurses := true, apart := false }
def RxbufTwiceSaid : Prop := rxbufTwiceRow.holds Try.pinned (OpenSpec.ofChange rxbufTwiceSpec)

/-- ITS FALSE NEIGHBOUR: 'it returns false'. Refute it at one input. -/
def rxbufTwiceWrong : ChangeSpec := { name := "rxbufTwice", fn := fun _ => fun
  | [d] => { results := [.lit (.bool false)], args := [d] }
  | _ => none }
def RxbufTwiceWrongFalsely : Prop := rxbufTwiceRow.holds Try.pinned (OpenSpec.ofChange rxbufTwiceWrong)

/-- 'bowlinelaw24.RxbufMakes': WHATEVER THE INPUT: true; the input reads as it did. -/
def rxbufMakesSpec : ChangeSpec := { name := "rxbufMakes", fn := fun _ => fun
  | [d1, d2, d3, d4] => { results := [.lit (.bool true)], args := [d1, d2, d3, d4] }
  | _ => none }
def rxbufMakesRow : OpenClaim := { program := "ytgdpjaojlhdhdaa", sum := "5b8127b57537341694b8e50761a3e2833dac65201f0fee20965f4ed55890655d", func := "bowline/bowlinelaw24.RxbufMakes", spec := "rxbufMakes", unfollowed := true, recurses := true, apart := false }
def RxbufMakesSaid : Prop := rxbufMakesRow.holds Try.pinned (OpenSpec.ofChange rxbufMakesSpec)

/-- ITS FALSE NEIGHBOUR: 'it returns false'. Refute it at one input. -/
def rxbufMakesWrong : ChangeSpec := { name := "rxbufMakes", fn := fun _ => fun
  | [d1, d2, d3, d4] => { results := [.lit (.bool false)], args := [d1, d2, d3, d4] }
  | _ => none }
def RxbufMakesWrongFalsely : Prop := rxbufMakesRow.holds Try.pinned (OpenSpec.ofChange rxbufMakesWrong)

/-- 'bowlinelaw24.RxbufLives': WHATEVER THE INPUT: true; the input reads as it did. -/
def rxbufLivesSpec : ChangeSpec := { name := "rxbufLives", fn := fun _ => fun
  | [d] => { results := [.lit (.bool true)], args := [d] }
  | _ => none }
def rxbufLivesRow : OpenClaim := { program := "ytgdpjaojlhdhdaa", sum := "5b8127b57537341694b8e50761a3e2833dac65201f0fee20965f4ed55890655d", func := "bowline/bowlinelaw24.RxbufLives", spec := "rxbufLives", unfollowed := true, recurses := true, apart := false }
def RxbufLivesSaid : Prop := rxbufLivesRow.holds Try.pinned (OpenSpec.ofChange rxbufLivesSpec)

/-- ITS FALSE NEIGHBOUR: 'it returns false'. Refute it at one input. -/
def rxbufLivesWrong : ChangeSpec := { name := "rxbufLives", fn := fun _ => fun
  | [d] => { results := [.lit (.bool false)], args := [d] }
  | _ => none }
def RxbufLivesWrongFalsely : Prop := rxbufLivesRow.holds Try.pinned (OpenSpec.ofChange rxbufLivesWrong)

/-- 'bowlinelaw03.SpansLive': WHATEVER THE INPUT: true; the input reads as it did. -/
def spansLiveSpec : ChangeSpec := { name := "spansLive", fn := fun _ => fun
  | [d1, d2, d3] => { results := [.lit (.bool true)], args := [d1, d2, d3] }
  | _ => none }
def spansLiveRow : OpenClaim := { program := "ytgdpjaojlhdhdaa", sum := "5b8127b57537341694b8e50761a3e2833dac65201f0fee20965f4ed55890655d", func := "bowline/bowlinelaw03.SpansLive", spec := "spansLive", unfollowed := true, recurses := true, apart := false }
def SpansLiveSaid : Prop := spansLiveRow.holds Try.pinned (OpenSpec.ofChange spansLiveSpec)

/-- ITS FALSE NEIGHBOUR: 'it returns false'. Refute it at one input. -/
def spansLiveWrong : ChangeSpec := { name := "spansLive", fn := fun _ => fun
  | [d1, d2, d3] => { results := [.lit (.bool false)], args := [d1, d2, d3] }
  | _ => none }
def SpansLiveWrongFalsely : Prop := spansLiveRow.holds Try.pinned (OpenSpec.ofChange spansLiveWrong)

/-- 'bowlinelaw04.QueueLives': WHATEVER THE INPUT: true; the input reads as it did. -/
def queueLivesSpec : ChangeSpec := { name := "queueLives", fn := fun _ => fun
  | [d1, d2] => { results := [.lit (.bool true)], args := [d1, d2] }
  | _ => none }
def queueLivesRow : OpenClaim := { program := "ytgdpjaojlhdhdaa", sum := "5b8127b57537341694b8e50761a3e2833dac65201f0fee20965f4ed55890655d", func := "bowline/bowlinelaw04.QueueLives", spec := "queueLives", apart := false }
def QueueLivesSaid : Prop := queueLivesRow.holds Try.pinned (OpenSpec.ofChange queueLivesSpec)

/-- ITS FALSE NEIGHBOUR: 'it returns false'. Refute it at one input. -/
def queueLivesWrong : ChangeSpec := { name := "queueLives", fn := fun _ => fun
  | [d1, d2] => { results := [.lit (.bool false)], args := [d1, d2] }
  | _ => none }
def QueueLivesWrongFalsely : Prop := queueLivesRow.holds Try.pinned (OpenSpec.ofChange queueLivesWrong)

/-- 'bowlinelaw13.CutBuilds': WHATEVER THE INPUT: true; the input reads as it did. -/
def cutBuildsSpec : ChangeSpec := { name := "cutBuilds", fn := fun _ => fun
  | [d] => { results := [.lit (.bool true)], args := [d] }
  | _ => none }
def cutBuildsRow : OpenClaim := { program := "ytgdpjaojlhdhdaa", sum := "5b8127b57537341694b8e50761a3e2833dac65201f0fee20965f4ed55890655d", func := "bowline/bowlinelaw13.CutBuilds", spec := "cutBuilds", apart := false }
def CutBuildsSaid : Prop := cutBuildsRow.holds Try.pinned (OpenSpec.ofChange cutBuildsSpec)

/-- ITS FALSE NEIGHBOUR: 'it returns false'. Refute it at one input. -/
def cutBuildsWrong : ChangeSpec := { name := "cutBuilds", fn := fun _ => fun
  | [d] => { results := [.lit (.bool false)], args := [d] }
  | _ => none }
def CutBuildsWrongFalsely : Prop := cutBuildsRow.holds Try.pinned (OpenSpec.ofChange cutBuildsWrong)

/-- 'bowlinelaw15.PlainLives': WHATEVER THE INPUT: true; the input reads as it did. -/
def plainLivesSpec : ChangeSpec := { name := "plainLives", fn := fun _ => fun
  | [d1, d2] => { results := [.lit (.bool true)], args := [d1, d2] }
  | _ => none }
def plainLivesRow : OpenClaim := { program := "ytgdpjaojlhdhdaa", sum := "5b8127b57537341694b8e50761a3e2833dac65201f0fee20965f4ed55890655d", func := "bowline/bowlinelaw15.PlainLives", spec := "plainLives", unfollowed := true, recurses := true, apart := false }
def PlainLivesSaid : Prop := plainLivesRow.holds Try.pinned (OpenSpec.ofChange plainLivesSpec)

/-- ITS FALSE NEIGHBOUR: 'it returns false'. Refute it at one input. -/
def plainLivesWrong : ChangeSpec := { name := "plainLives", fn := fun _ => fun
  | [d1, d2] => { results := [.lit (.bool false)], args := [d1, d2] }
  | _ => none }
def PlainLivesWrongFalsely : Prop := plainLivesRow.holds Try.pinned (OpenSpec.ofChange plainLivesWrong)

/-- 'bowlinelaw16.UmtxLives': WHATEVER THE INPUT: true; the input reads as it did. -/
def umtxLivesSpec : ChangeSpec := { name := "umtxLives", fn := fun _ => fun
  | [d1, d2] => { results := [.lit (.bool true)], args := [d1, d2] }
  | _ => none }
def umtxLivesRow : OpenClaim := { program := "ytgdpjaojlhdhdaa", sum := "5b8127b57537341694b8e50761a3e2833dac65201f0fee20965f4ed55890655d", func := "bowline/bowlinelaw16.UmtxLives", spec := "umtxLives", unfollowed := true, recurses := true, apart := false }
def UmtxLivesSaid : Prop := umtxLivesRow.holds Try.pinned (OpenSpec.ofChange umtxLivesSpec)

/-- ITS FALSE NEIGHBOUR: 'it returns false'. Refute it at one input. -/
def umtxLivesWrong : ChangeSpec := { name := "umtxLives", fn := fun _ => fun
  | [d1, d2] => { results := [.lit (.bool false)], args := [d1, d2] }
  | _ => none }
def UmtxLivesWrongFalsely : Prop := umtxLivesRow.holds Try.pinned (OpenSpec.ofChange umtxLivesWrong)

/-- 'bowlinelaw19.SentHalves': WHATEVER THE INPUT: true; the input reads as it did. -/
def sentHalvesSpec : ChangeSpec := { name := "sentHalves", fn := fun _ => fun
  | [d1, d2, d3] => { results := [.lit (.bool true)], args := [d1, d2, d3] }
  | _ => none }
def sentHalvesRow : OpenClaim := { program := "ytgdpjaojlhdhdaa", sum := "5b8127b57537341694b8e50761a3e2833dac65201f0fee20965f4ed55890655d", func := "bowline/bowlinelaw19.SentHalves", spec := "sentHalves", unfollowed := true, recurses := true, apart := false }
def SentHalvesSaid : Prop := sentHalvesRow.holds Try.pinned (OpenSpec.ofChange sentHalvesSpec)

/-- ITS FALSE NEIGHBOUR: 'it returns false'. Refute it at one input. -/
def sentHalvesWrong : ChangeSpec := { name := "sentHalves", fn := fun _ => fun
  | [d1, d2, d3] => { results := [.lit (.bool false)], args := [d1, d2, d3] }
  | _ => none }
def SentHalvesWrongFalsely : Prop := sentHalvesRow.holds Try.pinned (OpenSpec.ofChange sentHalvesWrong)

/-- 'bowlinelaw19.SentCounts': WHATEVER THE INPUT: true; the input reads as it did. -/
def sentCountsSpec : ChangeSpec := { name := "sentCounts", fn := fun _ => fun
  | [d1, d2, d3, d4] => { results := [.lit (.bool true)], args := [d1, d2, d3, d4] }
  | _ => none }
def sentCountsRow : OpenClaim := { program := "ytgdpjaojlhdhdaa", sum := "5b8127b57537341694b8e50761a3e2833dac65201f0fee20965f4ed55890655d", func := "bowline/bowlinelaw19.SentCounts", spec := "sentCounts", unfollowed := true, recurses := true, apart := false }
def SentCountsSaid : Prop := sentCountsRow.holds Try.pinned (OpenSpec.ofChange sentCountsSpec)

/-- ITS FALSE NEIGHBOUR: 'it returns false'. Refute it at one input. -/
def sentCountsWrong : ChangeSpec := { name := "sentCounts", fn := fun _ => fun
  | [d1, d2, d3, d4] => { results := [.lit (.bool false)], args := [d1, d2, d3, d4] }
  | _ => none }
def SentCountsWrongFalsely : Prop := sentCountsRow.holds Try.pinned (OpenSpec.ofChange sentCountsWrong)

/- THE SECOND FORM. 'bulk': how many values and letters a reading holds, each counted each time it is reached (what is shared counts as often as it is met; a slice's spare places count too). A statement '..UptoSaid' is the law's where the arguments, and the package variables that the reading takes, are together of bulk at most 1048576: NARROWER than '..Said'. Prove '..Said' where nothing that the law and all that it calls make is longer than what came in: it says more and counts as full. Else prove '..UptoSaid'. A law counts once. -/
mutual
def uptoBulk {H : Type} : DataW H → Nat
  | .lit (.string bytes) => bytes.length + 1
  | .lit _ => 1
  | .nil => 1
  | .ptr d => uptoBulk d + 1
  | .slice elems spare => uptoBulkAll elems + uptoBulkAll spare + 1
  | .agg parts => uptoBulkAll parts + 1
  | .iface _ d => uptoBulk d + 1
  | .map entries => uptoBulkEntries entries + 1
  | .held _ => 1
def uptoBulkAll {H : Type} : List (DataW H) → Nat
  | [] => 0
  | d :: r => uptoBulk d + uptoBulkAll r
def uptoBulkEntries {H : Type} : List (Lit × DataW H) → Nat
  | [] => 0
  | x :: r => uptoBulkEntry x + uptoBulkEntries r
def uptoBulkEntry {H : Type} : Lit × DataW H → Nat
  | (.string bytes, d) => bytes.length + uptoBulk d + 1
  | (_, d) => uptoBulk d + 1
 end
def uptoSmall : (H : Type) → List (DataW H) → Bool := fun _ ds => decide (uptoBulkAll ds ≤ 1048576)
def OpenSpec.upto (s : _root_.Go.ChangeSpec) : _root_.Go.OpenSpec := { _root_.Go.OpenSpec.ofChange s with cond := some uptoSmall }

/-- 'bowlinelaw16.UmtxNumbers', WHERE WHAT IT READS IS OF BULK AT MOST 1048576: true; the input reads as it did. -/
def umtxNumbersUptoRow : OpenClaim := { program := "ytgdpjaojlhdhdaa", sum := "5b8127b57537341694b8e50761a3e2833dac65201f0fee20965f4ed55890655d", func := "bowline/bowlinelaw16.UmtxNumbers", spec := "umtxNumbers", unfollowed := true, recurses := true, apart := false, narrowed := true }
def UmtxNumbersUptoSaid : Prop := umtxNumbersUptoRow.holds Try.pinned (OpenSpec.upto umtxNumbersSpec)

/-- 'bowlinelaw16.UmtxFits', WHERE WHAT IT READS IS OF BULK AT MOST 1048576: true; the input reads as it did. -/
def umtxFitsUptoRow : OpenClaim := { program := "ytgdpjaojlhdhdaa", sum := "5b8127b57537341694b8e50761a3e2833dac65201f0fee20965f4ed55890655d", func := "bowline/bowlinelaw16.UmtxFits", spec := "umtxFits", unfollowed := true, recurses := true, apart := false, narrowed := true }
def UmtxFitsUptoSaid : Prop := umtxFitsUptoRow.holds Try.pinned (OpenSpec.upto umtxFitsSpec)

/-- 'bowlinelaw10.AmdReads', WHERE WHAT IT READS IS OF BULK AT MOST 1048576: true; the input reads as it did. -/
def amdReadsUptoRow : OpenClaim := { program := "ytgdpjaojlhdhdaa", sum := "5b8127b57537341694b8e50761a3e2833dac65201f0fee20965f4ed55890655d", func := "bowline/bowlinelaw10.AmdReads", spec := "amdReads", unfollowed := true, recurses := true, apart := false, narrowed := true }
def AmdReadsUptoSaid : Prop := amdReadsUptoRow.holds Try.pinned (OpenSpec.upto amdReadsSpec)

/-- 'bowlinelaw10.AmdWrites', WHERE WHAT IT READS IS OF BULK AT MOST 1048576: true; the input reads as it did. -/
def amdWritesUptoRow : OpenClaim := { program := "ytgdpjaojlhdhdaa", sum := "5b8127b57537341694b8e50761a3e2833dac65201f0fee20965f4ed55890655d", func := "bowline/bowlinelaw10.AmdWrites", spec := "amdWrites", unfollowed := true, recurses := true, apart := false, narrowed := true }
def AmdWritesUptoSaid : Prop := amdWritesUptoRow.holds Try.pinned (OpenSpec.upto amdWritesSpec)

/-- 'bowlinelaw23.RxwinOnce', WHERE WHAT IT READS IS OF BULK AT MOST 1048576: true; the input reads as it did. -/
def rxwinOnceUptoRow : OpenClaim := { program := "ytgdpjaojlhdhdaa", sum := "5b8127b57537341694b8e50761a3e2833dac65201f0fee20965f4ed55890655d", func := "bowline/bowlinelaw23.RxwinOnce", spec := "rxwinOnce", apart := false, narrowed := true }
def RxwinOnceUptoSaid : Prop := rxwinOnceUptoRow.holds Try.pinned (OpenSpec.upto rxwinOnceSpec)

/-- 'bowlinelaw23.RxwinFar', WHERE WHAT IT READS IS OF BULK AT MOST 1048576: true; the input reads as it did. -/
def rxwinFarUptoRow : OpenClaim := { program := "ytgdpjaojlhdhdaa", sum := "5b8127b57537341694b8e50761a3e2833dac65201f0fee20965f4ed55890655d", func := "bowline/bowlinelaw23.RxwinFar", spec := "rxwinFar", apart := false, narrowed := true }
def RxwinFarUptoSaid : Prop := rxwinFarUptoRow.holds Try.pinned (OpenSpec.upto rxwinFarSpec)

/-- 'bowlinelaw23.RxwinLives', WHERE WHAT IT READS IS OF BULK AT MOST 1048576: true; the input reads as it did. -/
def rxwinLivesUptoRow : OpenClaim := { program := "ytgdpjaojlhdhdaa", sum := "5b8127b57537341694b8e50761a3e2833dac65201f0fee20965f4ed55890655d", func := "bowline/bowlinelaw23.RxwinLives", spec := "rxwinLives", apart := false, narrowed := true }
def RxwinLivesUptoSaid : Prop := rxwinLivesUptoRow.holds Try.pinned (OpenSpec.upto rxwinLivesSpec)

/-- 'bowlinelaw24.RxbufTwice', WHERE WHAT IT READS IS OF BULK AT MOST 1048576: true; the input reads as it did. -/
def rxbufTwiceUptoRow : OpenClaim := { program := "ytgdpjaojlhdhdaa", sum := "5b8127b57537341694b8e50761a3e2833dac65201f0fee20965f4ed55890655d", func := "bowline/bowlinelaw24.RxbufTwice", spec := "rxbufTwice", unfollowed := true, recurses := true, apart := false, narrowed := true }
def RxbufTwiceUptoSaid : Prop := rxbufTwiceUptoRow.holds Try.pinned (OpenSpec.upto rxbufTwiceSpec)

/-- 'bowlinelaw24.RxbufMakes', WHERE WHAT IT READS IS OF BULK AT MOST 1048576: true; the input reads as it did. -/
def rxbufMakesUptoRow : OpenClaim := { program := "ytgdpjaojlhdhdaa", sum := "5b8127b57537341694b8e50761a3e2833dac65201f0fee20965f4ed55890655d", func := "bowline/bowlinelaw24.RxbufMakes", spec := "rxbufMakes", unfollowed := true, recurses := true, apart := false, narrowed := true }
def RxbufMakesUptoSaid : Prop := rxbufMakesUptoRow.holds Try.pinned (OpenSpec.upto rxbufMakesSpec)

/-- 'bowlinelaw24.RxbufLives', WHERE WHAT IT READS IS OF BULK AT MOST 1048576: true; the input reads as it did. -/
def rxbufLivesUptoRow : OpenClaim := { program := "ytgdpjaojlhdhdaa", sum := "5b8127b57537341694b8e50761a3e2833dac65201f0fee20965f4ed55890655d", func := "bowline/bowlinelaw24.RxbufLives", spec := "rxbufLives", unfollowed := true, recurses := true, apart := false, narrowed := true }
def RxbufLivesUptoSaid : Prop := rxbufLivesUptoRow.holds Try.pinned (OpenSpec.upto rxbufLivesSpec)

/-- 'bowlinelaw03.SpansLive', WHERE WHAT IT READS IS OF BULK AT MOST 1048576: true; the input reads as it did. -/
def spansLiveUptoRow : OpenClaim := { program := "ytgdpjaojlhdhdaa", sum := "5b8127b57537341694b8e50761a3e2833dac65201f0fee20965f4ed55890655d", func := "bowline/bowlinelaw03.SpansLive", spec := "spansLive", unfollowed := true, recurses := true, apart := false, narrowed := true }
def SpansLiveUptoSaid : Prop := spansLiveUptoRow.holds Try.pinned (OpenSpec.upto spansLiveSpec)

/-- 'bowlinelaw04.QueueLives', WHERE WHAT IT READS IS OF BULK AT MOST 1048576: true; the input reads as it did. -/
def queueLivesUptoRow : OpenClaim := { program := "ytgdpjaojlhdhdaa", sum := "5b8127b57537341694b8e50761a3e2833dac65201f0fee20965f4ed55890655d", func := "bowline/bowlinelaw04.QueueLives", spec := "queueLives", apart := false, narrowed := true }
def QueueLivesUptoSaid : Prop := queueLivesUptoRow.holds Try.pinned (OpenSpec.upto queueLivesSpec)

/-- 'bowlinelaw13.CutBuilds', WHERE WHAT IT READS IS OF BULK AT MOST 1048576: true; the input reads as it did. -/
def cutBuildsUptoRow : OpenClaim := { program := "ytgdpjaojlhdhdaa", sum := "5b8127b57537341694b8e50761a3e2833dac65201f0fee20965f4ed55890655d", func := "bowline/bowlinelaw13.CutBuilds", spec := "cutBuilds", apart := false, narrowed := true }
def CutBuildsUptoSaid : Prop := cutBuildsUptoRow.holds Try.pinned (OpenSpec.upto cutBuildsSpec)

/-- 'bowlinelaw15.PlainLives', WHERE WHAT IT READS IS OF BULK AT MOST 1048576: true; the input reads as it did. -/
def plainLivesUptoRow : OpenClaim := { program := "ytgdpjaojlhdhdaa", sum := "5b8127b57537341694b8e50761a3e2833dac65201f0fee20965f4ed55890655d", func := "bowline/bowlinelaw15.PlainLives", spec := "plainLives", unfollowed := true, recurses := true, apart := false, narrowed := true }
def PlainLivesUptoSaid : Prop := plainLivesUptoRow.holds Try.pinned (OpenSpec.upto plainLivesSpec)

/-- 'bowlinelaw16.UmtxLives', WHERE WHAT IT READS IS OF BULK AT MOST 1048576: true; the input reads as it did. -/
def umtxLivesUptoRow : OpenClaim := { program := "ytgdpjaojlhdhdaa", sum := "5b8127b57537341694b8e50761a3e2833dac65201f0fee20965f4ed55890655d", func := "bowline/bowlinelaw16.UmtxLives", spec := "umtxLives", unfollowed := true, recurses := true, apart := false, narrowed := true }
def UmtxLivesUptoSaid : Prop := umtxLivesUptoRow.holds Try.pinned (OpenSpec.upto umtxLivesSpec)

/-- 'bowlinelaw19.SentHalves', WHERE WHAT IT READS IS OF BULK AT MOST 1048576: true; the input reads as it did. -/
def sentHalvesUptoRow : OpenClaim := { program := "ytgdpjaojlhdhdaa", sum := "5b8127b57537341694b8e50761a3e2833dac65201f0fee20965f4ed55890655d", func := "bowline/bowlinelaw19.SentHalves", spec := "sentHalves", unfollowed := true, recurses := true, apart := false, narrowed := true }
def SentHalvesUptoSaid : Prop := sentHalvesUptoRow.holds Try.pinned (OpenSpec.upto sentHalvesSpec)

/-- 'bowlinelaw19.SentCounts', WHERE WHAT IT READS IS OF BULK AT MOST 1048576: true; the input reads as it did. -/
def sentCountsUptoRow : OpenClaim := { program := "ytgdpjaojlhdhdaa", sum := "5b8127b57537341694b8e50761a3e2833dac65201f0fee20965f4ed55890655d", func := "bowline/bowlinelaw19.SentCounts", spec := "sentCounts", unfollowed := true, recurses := true, apart := false, narrowed := true }
def SentCountsUptoSaid : Prop := sentCountsUptoRow.holds Try.pinned (OpenSpec.upto sentCountsSpec)

end Rows
end Go.Proofs.Ytgdpjaojlhdhdaa
