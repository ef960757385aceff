/-
  No cell of these rows narrows 'for every input' (looked for: loops, veiled, ifaces, maps, wideKeys, modest, calm, conditions, laid).
  DERIVED. THE GIVEN ROWS OF THIS SEAT. 17 by the template 'for every input the law returns true; each argument reads behind the call as it read before'; 0 by the template 'total and deterministic' (their statements: YtfgjlhklioijmaaTotals.lean).
  GIVEN WITH THE SEED: the statements are not yours to turn. If you find one false, say at which input.
  Laid BY PROGRAM, IN A SANDBOX (cutbox-rows.mjs): the forced cells as the released guide's own fill.sh prints them over the translation 62264357a85c0ae1… (all of the seat's roots in one cut). By AI agents, Wed Nov 11 2026. No macro, syntax, notation, axiom, sorry.
-/
import Derived.Test.YtfgjlhklioijmaaChecked
import GoSem.Claim
import GoSem.ClaimJoined
import GoSem.ClaimMapViews
import Derived.JoinedTies
import Derived.KernelRfl
namespace Go.Proofs.Ytfgjlhklioijmaa
/- THE CELL 'sum', in the pinned program and in every row, IS THE sha256 OF THE DUMP (.gsa) THAT YtfgjlhklioijmaaProg.lean LOADS. Nothing in Lean hashes anything: it is a label: what it is worth is what the hold of that sum in a sandbox is worth. -/
noncomputable def Try.pinned : Pinned := { name := "ytfgjlhklioijmaa", sum := "62264357a85c0ae10177934c681f36e2ca1404940f44fd25cc6d82573320f2c4", checked := Try.checked }
namespace Rows
def none {H : Type} : Left H := { results := [], args := [] }

/-- 'bowlinelaw10.AmdWrites': WHATEVER THE INPUT: true; the input reads as it did. -/
def amdWritesSpec : ChangeSpec := { name := "amdWrites", fn := fun _ => fun
  | [d1, d2, d3] => { results := [.lit (.bool true)], args := [d1, d2, d3] }
  | _ => none }
def amdWritesRow : OpenClaim := { program := "ytfgjlhklioijmaa", sum := "62264357a85c0ae10177934c681f36e2ca1404940f44fd25cc6d82573320f2c4", func := "bowline/bowlinelaw10.AmdWrites", spec := "amdWrites", unfollowed := true, recurses := true, apart := false }
def AmdWritesSaid : Prop := amdWritesRow.holds Try.pinned (OpenSpec.ofChange amdWritesSpec)

/-- ITS FALSE NEIGHBOUR: 'it returns false'. Refute it at one input. -/
def amdWritesWrong : ChangeSpec := { name := "amdWrites", fn := fun _ => fun
  | [d1, d2, d3] => { results := [.lit (.bool false)], args := [d1, d2, d3] }
  | _ => none }
def AmdWritesWrongFalsely : Prop := amdWritesRow.holds Try.pinned (OpenSpec.ofChange amdWritesWrong)

/-- 'bowlinelaw10.AmdReads': WHATEVER THE INPUT: true; the input reads as it did. -/
def amdReadsSpec : ChangeSpec := { name := "amdReads", fn := fun _ => fun
  | [d1, d2] => { results := [.lit (.bool true)], args := [d1, d2] }
  | _ => none }
def amdReadsRow : OpenClaim := { program := "ytfgjlhklioijmaa", sum := "62264357a85c0ae10177934c681f36e2ca1404940f44fd25cc6d82573320f2c4", func := "bowline/bowlinelaw10.AmdReads", spec := "amdReads", unfollowed := true, recurses := true, apart := false }
def AmdReadsSaid : Prop := amdReadsRow.holds Try.pinned (OpenSpec.ofChange amdReadsSpec)

/-- ITS FALSE NEIGHBOUR: 'it returns false'. Refute it at one input. -/
def amdReadsWrong : ChangeSpec := { name := "amdReads", fn := fun _ => fun
  | [d1, d2] => { results := [.lit (.bool false)], args := [d1, d2] }
  | _ => none }
def AmdReadsWrongFalsely : Prop := amdReadsRow.holds Try.pinned (OpenSpec.ofChange amdReadsWrong)

/-- 'bowlinelaw12.PduKinds': WHATEVER THE INPUT: true; the input reads as it did. -/
def pduKindsSpec : ChangeSpec := { name := "pduKinds", fn := fun _ => fun
  | [d1, d2] => { results := [.lit (.bool true)], args := [d1, d2] }
  | _ => none }
def pduKindsRow : OpenClaim := { program := "ytfgjlhklioijmaa", sum := "62264357a85c0ae10177934c681f36e2ca1404940f44fd25cc6d82573320f2c4", func := "bowline/bowlinelaw12.PduKinds", spec := "pduKinds", unfollowed := true, recurses := true, apart := false }
def PduKindsSaid : Prop := pduKindsRow.holds Try.pinned (OpenSpec.ofChange pduKindsSpec)

/-- ITS FALSE NEIGHBOUR: 'it returns false'. Refute it at one input. -/
def pduKindsWrong : ChangeSpec := { name := "pduKinds", fn := fun _ => fun
  | [d1, d2] => { results := [.lit (.bool false)], args := [d1, d2] }
  | _ => none }
def PduKindsWrongFalsely : Prop := pduKindsRow.holds Try.pinned (OpenSpec.ofChange pduKindsWrong)

/-- 'bowlinelaw12.PduConfigs': WHATEVER THE INPUT: true; the input reads as it did. -/
def pduConfigsSpec : ChangeSpec := { name := "pduConfigs", fn := fun _ => fun
  | [d1, d2] => { results := [.lit (.bool true)], args := [d1, d2] }
  | _ => none }
def pduConfigsRow : OpenClaim := { program := "ytfgjlhklioijmaa", sum := "62264357a85c0ae10177934c681f36e2ca1404940f44fd25cc6d82573320f2c4", func := "bowline/bowlinelaw12.PduConfigs", spec := "pduConfigs", unfollowed := true, recurses := true, apart := false }
def PduConfigsSaid : Prop := pduConfigsRow.holds Try.pinned (OpenSpec.ofChange pduConfigsSpec)

/-- ITS FALSE NEIGHBOUR: 'it returns false'. Refute it at one input. -/
def pduConfigsWrong : ChangeSpec := { name := "pduConfigs", fn := fun _ => fun
  | [d1, d2] => { results := [.lit (.bool false)], args := [d1, d2] }
  | _ => none }
def PduConfigsWrongFalsely : Prop := pduConfigsRow.holds Try.pinned (OpenSpec.ofChange pduConfigsWrong)

/-- 'bowlinelaw03.SpansLive': WHATEVER THE INPUT: true; the input reads as it did. -/
def spansLiveSpec : ChangeSpec := { name := "spansLive", fn := fun _ => fun
  | [d1, d2, d3] => { results := [.lit (.bool true)], args := [d1, d2, d3] }
  | _ => none }
def spansLiveRow : OpenClaim := { program := "ytfgjlhklioijmaa", sum := "62264357a85c0ae10177934c681f36e2ca1404940f44fd25cc6d82573320f2c4", func := "bowline/bowlinelaw03.SpansLive", spec := "spansLive", unfollowed := true, recurses := true, apart := false }
def SpansLiveSaid : Prop := spansLiveRow.holds Try.pinned (OpenSpec.ofChange spansLiveSpec)

/-- ITS FALSE NEIGHBOUR: 'it returns false'. Refute it at one input. -/
def spansLiveWrong : ChangeSpec := { name := "spansLive", fn := fun _ => fun
  | [d1, d2, d3] => { results := [.lit (.bool false)], args := [d1, d2, d3] }
  | _ => none }
def SpansLiveWrongFalsely : Prop := spansLiveRow.holds Try.pinned (OpenSpec.ofChange spansLiveWrong)

/-- 'bowlinelaw04.QueueLives': WHATEVER THE INPUT: true; the input reads as it did. -/
def queueLivesSpec : ChangeSpec := { name := "queueLives", fn := fun _ => fun
  | [d1, d2] => { results := [.lit (.bool true)], args := [d1, d2] }
  | _ => none }
def queueLivesRow : OpenClaim := { program := "ytfgjlhklioijmaa", sum := "62264357a85c0ae10177934c681f36e2ca1404940f44fd25cc6d82573320f2c4", func := "bowline/bowlinelaw04.QueueLives", spec := "queueLives", apart := false }
def QueueLivesSaid : Prop := queueLivesRow.holds Try.pinned (OpenSpec.ofChange queueLivesSpec)

/-- ITS FALSE NEIGHBOUR: 'it returns false'. Refute it at one input. -/
def queueLivesWrong : ChangeSpec := { name := "queueLives", fn := fun _ => fun
  | [d1, d2] => { results := [.lit (.bool false)], args := [d1, d2] }
  | _ => none }
def QueueLivesWrongFalsely : Prop := queueLivesRow.holds Try.pinned (OpenSpec.ofChange queueLivesWrong)

/-- 'bowlinelaw13.CutBuilds': WHATEVER THE INPUT: true; the input reads as it did. -/
def cutBuildsSpec : ChangeSpec := { name := "cutBuilds", fn := fun _ => fun
  | [d] => { results := [.lit (.bool true)], args := [d] }
  | _ => none }
def cutBuildsRow : OpenClaim := { program := "ytfgjlhklioijmaa", sum := "62264357a85c0ae10177934c681f36e2ca1404940f44fd25cc6d82573320f2c4", func := "bowline/bowlinelaw13.CutBuilds", spec := "cutBuilds", apart := false }
def CutBuildsSaid : Prop := cutBuildsRow.holds Try.pinned (OpenSpec.ofChange cutBuildsSpec)

/-- ITS FALSE NEIGHBOUR: 'it returns false'. Refute it at one input. -/
def cutBuildsWrong : ChangeSpec := { name := "cutBuilds", fn := fun _ => fun
  | [d] => { results := [.lit (.bool false)], args := [d] }
  | _ => none }
def CutBuildsWrongFalsely : Prop := cutBuildsRow.holds Try.pinned (OpenSpec.ofChange cutBuildsWrong)

/-- 'bowlinelaw15.PlainLives': WHATEVER THE INPUT: true; the input reads as it did. -/
def plainLivesSpec : ChangeSpec := { name := "plainLives", fn := fun _ => fun
  | [d1, d2] => { results := [.lit (.bool true)], args := [d1, d2] }
  | _ => none }
def plainLivesRow : OpenClaim := { program := "ytfgjlhklioijmaa", sum := "62264357a85c0ae10177934c681f36e2ca1404940f44fd25cc6d82573320f2c4", func := "bowline/bowlinelaw15.PlainLives", spec := "plainLives", unfollowed := true, recurses := true, apart := false }
def PlainLivesSaid : Prop := plainLivesRow.holds Try.pinned (OpenSpec.ofChange plainLivesSpec)

/-- ITS FALSE NEIGHBOUR: 'it returns false'. Refute it at one input. -/
def plainLivesWrong : ChangeSpec := { name := "plainLives", fn := fun _ => fun
  | [d1, d2] => { results := [.lit (.bool false)], args := [d1, d2] }
  | _ => none }
def PlainLivesWrongFalsely : Prop := plainLivesRow.holds Try.pinned (OpenSpec.ofChange plainLivesWrong)

/-- 'bowlinelaw16.UmtxLives': WHATEVER THE INPUT: true; the input reads as it did. -/
def umtxLivesSpec : ChangeSpec := { name := "umtxLives", fn := fun _ => fun
  | [d1, d2] => { results := [.lit (.bool true)], args := [d1, d2] }
  | _ => none }
def umtxLivesRow : OpenClaim := { program := "ytfgjlhklioijmaa", sum := "62264357a85c0ae10177934c681f36e2ca1404940f44fd25cc6d82573320f2c4", func := "bowline/bowlinelaw16.UmtxLives", spec := "umtxLives", unfollowed := true, recurses := true, apart := false }
def UmtxLivesSaid : Prop := umtxLivesRow.holds Try.pinned (OpenSpec.ofChange umtxLivesSpec)

/-- ITS FALSE NEIGHBOUR: 'it returns false'. Refute it at one input. -/
def umtxLivesWrong : ChangeSpec := { name := "umtxLives", fn := fun _ => fun
  | [d1, d2] => { results := [.lit (.bool false)], args := [d1, d2] }
  | _ => none }
def UmtxLivesWrongFalsely : Prop := umtxLivesRow.holds Try.pinned (OpenSpec.ofChange umtxLivesWrong)

/-- 'bowlinelaw16.UmtxFits': WHATEVER THE INPUT: true; the input reads as it did. -/
def umtxFitsSpec : ChangeSpec := { name := "umtxFits", fn := fun _ => fun
  | [d1, d2, d3] => { results := [.lit (.bool true)], args := [d1, d2, d3] }
  | _ => none }
def umtxFitsRow : OpenClaim := { program := "ytfgjlhklioijmaa", sum := "62264357a85c0ae10177934c681f36e2ca1404940f44fd25cc6d82573320f2c4", func := "bowline/bowlinelaw16.UmtxFits", spec := "umtxFits", unfollowed := true, recurses := true, apart := false }
def UmtxFitsSaid : Prop := umtxFitsRow.holds Try.pinned (OpenSpec.ofChange umtxFitsSpec)

/-- ITS FALSE NEIGHBOUR: 'it returns false'. Refute it at one input. -/
def umtxFitsWrong : ChangeSpec := { name := "umtxFits", fn := fun _ => fun
  | [d1, d2, d3] => { results := [.lit (.bool false)], args := [d1, d2, d3] }
  | _ => none }
def UmtxFitsWrongFalsely : Prop := umtxFitsRow.holds Try.pinned (OpenSpec.ofChange umtxFitsWrong)

/-- 'bowlinelaw16.UmtxNumbers': WHATEVER THE INPUT: true; the input reads as it did. -/
def umtxNumbersSpec : ChangeSpec := { name := "umtxNumbers", fn := fun _ => fun
  | [d1, d2] => { results := [.lit (.bool true)], args := [d1, d2] }
  | _ => none }
def umtxNumbersRow : OpenClaim := { program := "ytfgjlhklioijmaa", sum := "62264357a85c0ae10177934c681f36e2ca1404940f44fd25cc6d82573320f2c4", func := "bowline/bowlinelaw16.UmtxNumbers", spec := "umtxNumbers", unfollowed := true, recurses := true, apart := false }
def UmtxNumbersSaid : Prop := umtxNumbersRow.holds Try.pinned (OpenSpec.ofChange umtxNumbersSpec)

/-- ITS FALSE NEIGHBOUR: 'it returns false'. Refute it at one input. -/
def umtxNumbersWrong : ChangeSpec := { name := "umtxNumbers", fn := fun _ => fun
  | [d1, d2] => { results := [.lit (.bool false)], args := [d1, d2] }
  | _ => none }
def UmtxNumbersWrongFalsely : Prop := umtxNumbersRow.holds Try.pinned (OpenSpec.ofChange umtxNumbersWrong)

/-- 'bowlinelaw20.ResegWhole': WHATEVER THE INPUT: true; the input reads as it did. -/
def resegWholeSpec : ChangeSpec := { name := "resegWhole", fn := fun _ => fun
  | [d1, d2, d3, d4] => { results := [.lit (.bool true)], args := [d1, d2, d3, d4] }
  | _ => none }
def resegWholeRow : OpenClaim := { program := "ytfgjlhklioijmaa", sum := "62264357a85c0ae10177934c681f36e2ca1404940f44fd25cc6d82573320f2c4", func := "bowline/bowlinelaw20.ResegWhole", spec := "resegWhole", unfollowed := true, recurses := true, apart := false }
def ResegWholeSaid : Prop := resegWholeRow.holds Try.pinned (OpenSpec.ofChange resegWholeSpec)

/-- ITS FALSE NEIGHBOUR: 'it returns false'. Refute it at one input. -/
def resegWholeWrong : ChangeSpec := { name := "resegWhole", fn := fun _ => fun
  | [d1, d2, d3, d4] => { results := [.lit (.bool false)], args := [d1, d2, d3, d4] }
  | _ => none }
def ResegWholeWrongFalsely : Prop := resegWholeRow.holds Try.pinned (OpenSpec.ofChange resegWholeWrong)

/-- 'bowlinelaw19.SentHalves': WHATEVER THE INPUT: true; the input reads as it did. -/
def sentHalvesSpec : ChangeSpec := { name := "sentHalves", fn := fun _ => fun
  | [d1, d2, d3] => { results := [.lit (.bool true)], args := [d1, d2, d3] }
  | _ => none }
def sentHalvesRow : OpenClaim := { program := "ytfgjlhklioijmaa", sum := "62264357a85c0ae10177934c681f36e2ca1404940f44fd25cc6d82573320f2c4", func := "bowline/bowlinelaw19.SentHalves", spec := "sentHalves", unfollowed := true, recurses := true, apart := false }
def SentHalvesSaid : Prop := sentHalvesRow.holds Try.pinned (OpenSpec.ofChange sentHalvesSpec)

/-- ITS FALSE NEIGHBOUR: 'it returns false'. Refute it at one input. -/
def sentHalvesWrong : ChangeSpec := { name := "sentHalves", fn := fun _ => fun
  | [d1, d2, d3] => { results := [.lit (.bool false)], args := [d1, d2, d3] }
  | _ => none }
def SentHalvesWrongFalsely : Prop := sentHalvesRow.holds Try.pinned (OpenSpec.ofChange sentHalvesWrong)

/-- 'bowlinelaw19.SentCounts': WHATEVER THE INPUT: true; the input reads as it did. -/
def sentCountsSpec : ChangeSpec := { name := "sentCounts", fn := fun _ => fun
  | [d1, d2, d3, d4] => { results := [.lit (.bool true)], args := [d1, d2, d3, d4] }
  | _ => none }
def sentCountsRow : OpenClaim := { program := "ytfgjlhklioijmaa", sum := "62264357a85c0ae10177934c681f36e2ca1404940f44fd25cc6d82573320f2c4", func := "bowline/bowlinelaw19.SentCounts", spec := "sentCounts", unfollowed := true, recurses := true, apart := false }
def SentCountsSaid : Prop := sentCountsRow.holds Try.pinned (OpenSpec.ofChange sentCountsSpec)

/-- ITS FALSE NEIGHBOUR: 'it returns false'. Refute it at one input. -/
def sentCountsWrong : ChangeSpec := { name := "sentCounts", fn := fun _ => fun
  | [d1, d2, d3, d4] => { results := [.lit (.bool false)], args := [d1, d2, d3, d4] }
  | _ => none }
def SentCountsWrongFalsely : Prop := sentCountsRow.holds Try.pinned (OpenSpec.ofChange sentCountsWrong)

/-- 'bowlinelaw21.PollLives': WHATEVER THE INPUT: true; the input reads as it did. -/
def pollLivesSpec : ChangeSpec := { name := "pollLives", fn := fun _ => fun
  | [d1, d2, d3] => { results := [.lit (.bool true)], args := [d1, d2, d3] }
  | _ => none }
def pollLivesRow : OpenClaim := { program := "ytfgjlhklioijmaa", sum := "62264357a85c0ae10177934c681f36e2ca1404940f44fd25cc6d82573320f2c4", func := "bowline/bowlinelaw21.PollLives", spec := "pollLives", apart := false }
def PollLivesSaid : Prop := pollLivesRow.holds Try.pinned (OpenSpec.ofChange pollLivesSpec)

/-- ITS FALSE NEIGHBOUR: 'it returns false'. Refute it at one input. -/
def pollLivesWrong : ChangeSpec := { name := "pollLives", fn := fun _ => fun
  | [d1, d2, d3] => { results := [.lit (.bool false)], args := [d1, d2, d3] }
  | _ => none }
def PollLivesWrongFalsely : Prop := pollLivesRow.holds Try.pinned (OpenSpec.ofChange pollLivesWrong)

/-- 'bowlinelaw21.PollSoon': WHATEVER THE INPUT: true; the input reads as it did. -/
def pollSoonSpec : ChangeSpec := { name := "pollSoon", fn := fun _ => fun
  | [d1, d2, d3] => { results := [.lit (.bool true)], args := [d1, d2, d3] }
  | _ => none }
def pollSoonRow : OpenClaim := { program := "ytfgjlhklioijmaa", sum := "62264357a85c0ae10177934c681f36e2ca1404940f44fd25cc6d82573320f2c4", func := "bowline/bowlinelaw21.PollSoon", spec := "pollSoon", apart := false }
def PollSoonSaid : Prop := pollSoonRow.holds Try.pinned (OpenSpec.ofChange pollSoonSpec)

/-- ITS FALSE NEIGHBOUR: 'it returns false'. Refute it at one input. -/
def pollSoonWrong : ChangeSpec := { name := "pollSoon", fn := fun _ => fun
  | [d1, d2, d3] => { results := [.lit (.bool false)], args := [d1, d2, d3] }
  | _ => none }
def PollSoonWrongFalsely : Prop := pollSoonRow.holds Try.pinned (OpenSpec.ofChange pollSoonWrong)

/-- 'bowlinelaw21.PollEmpty': WHATEVER THE INPUT: true; the input reads as it did. -/
def pollEmptySpec : ChangeSpec := { name := "pollEmpty", fn := fun _ => fun
  | [d1, d2, d3, d4] => { results := [.lit (.bool true)], args := [d1, d2, d3, d4] }
  | _ => none }
def pollEmptyRow : OpenClaim := { program := "ytfgjlhklioijmaa", sum := "62264357a85c0ae10177934c681f36e2ca1404940f44fd25cc6d82573320f2c4", func := "bowline/bowlinelaw21.PollEmpty", spec := "pollEmpty", apart := false }
def PollEmptySaid : Prop := pollEmptyRow.holds Try.pinned (OpenSpec.ofChange pollEmptySpec)

/-- ITS FALSE NEIGHBOUR: 'it returns false'. Refute it at one input. -/
def pollEmptyWrong : ChangeSpec := { name := "pollEmpty", fn := fun _ => fun
  | [d1, d2, d3, d4] => { results := [.lit (.bool false)], args := [d1, d2, d3, d4] }
  | _ => none }
def PollEmptyWrongFalsely : Prop := pollEmptyRow.holds Try.pinned (OpenSpec.ofChange pollEmptyWrong)

/- THE SECOND FORM. 'bulk': how many values and letters a reading holds, each counted each time it is reached (what is shared counts as often as it is met; a slice's spare places count too). A statement '..UptoSaid' is the law's where the arguments, and the package variables that the reading takes, are together of bulk at most 1048576: NARROWER than '..Said'. Prove '..Said' where nothing that the law and all that it calls make is longer than what came in: it says more and counts as full. Else prove '..UptoSaid'. A law counts once. -/
mutual
def uptoBulk {H : Type} : DataW H → Nat
  | .lit (.string bytes) => bytes.length + 1
  | .lit _ => 1
  | .nil => 1
  | .ptr d => uptoBulk d + 1
  | .slice elems spare => uptoBulkAll elems + uptoBulkAll spare + 1
  | .agg parts => uptoBulkAll parts + 1
  | .iface _ d => uptoBulk d + 1
  | .map entries => uptoBulkEntries entries + 1
  | .held _ => 1
def uptoBulkAll {H : Type} : List (DataW H) → Nat
  | [] => 0
  | d :: r => uptoBulk d + uptoBulkAll r
def uptoBulkEntries {H : Type} : List (Lit × DataW H) → Nat
  | [] => 0
  | x :: r => uptoBulkEntry x + uptoBulkEntries r
def uptoBulkEntry {H : Type} : Lit × DataW H → Nat
  | (.string bytes, d) => bytes.length + uptoBulk d + 1
  | (_, d) => uptoBulk d + 1
 end
def uptoSmall : (H : Type) → List (DataW H) → Bool := fun _ ds => decide (uptoBulkAll ds ≤ 1048576)
def OpenSpec.upto (s : _root_.Go.ChangeSpec) : _root_.Go.OpenSpec := { _root_.Go.OpenSpec.ofChange s with cond := some uptoSmall }

/-- 'bowlinelaw10.AmdWrites', WHERE WHAT IT READS IS OF BULK AT MOST 1048576: true; the input reads as it did. -/
def amdWritesUptoRow : OpenClaim := { program := "ytfgjlhklioijmaa", sum := "62264357a85c0ae10177934c681f36e2ca1404940f44fd25cc6d82573320f2c4", func := "bowline/bowlinelaw10.AmdWrites", spec := "amdWrites", unfollowed := true, recurses := true, apart := false, narrowed := true }
def AmdWritesUptoSaid : Prop := amdWritesUptoRow.holds Try.pinned (OpenSpec.upto amdWritesSpec)

/-- 'bowlinelaw10.AmdReads', WHERE WHAT IT READS IS OF BULK AT MOST 1048576: true; the input reads as it did. -/
def amdReadsUptoRow : OpenClaim := { program := "ytfgjlhklioijmaa", sum := "62264357a85c0ae10177934c681f36e2ca1404940f44fd25cc6d82573320f2c4", func := "bowline/bowlinelaw10.AmdReads", spec := "amdReads", unfollowed := true, recurses := true, apart := false, narrowed := true }
def AmdReadsUptoSaid : Prop := amdReadsUptoRow.holds Try.pinned (OpenSpec.upto amdReadsSpec)

/-- 'bowlinelaw12.PduKinds', WHERE WHAT IT READS IS OF BULK AT MOST 1048576: true; the input reads as it did. -/
def pduKindsUptoRow : OpenClaim := { program := "ytfgjlhklioijmaa", sum := "62264357a85c0ae10177934c681f36e2ca1404940f44fd25cc6d82573320f2c4", func := "bowline/bowlinelaw12.PduKinds", spec := "pduKinds", unfollowed := true, recurses := true, apart := false, narrowed := true }
def PduKindsUptoSaid : Prop := pduKindsUptoRow.holds Try.pinned (OpenSpec.upto pduKindsSpec)

/-- 'bowlinelaw12.PduConfigs', WHERE WHAT IT READS IS OF BULK AT MOST 1048576: true; the input reads as it did. -/
def pduConfigsUptoRow : OpenClaim := { program := "ytfgjlhklioijmaa", sum := "62264357a85c0ae10177934c681f36e2ca1404940f44fd25cc6d82573320f2c4", func := "bowline/bowlinelaw12.PduConfigs", spec := "pduConfigs", unfollowed := true, recurses := true, apart := false, narrowed := true }
def PduConfigsUptoSaid : Prop := pduConfigsUptoRow.holds Try.pinned (OpenSpec.upto pduConfigsSpec)

/-- 'bowlinelaw03.SpansLive', WHERE WHAT IT READS IS OF BULK AT MOST 1048576: true; the input reads as it did. -/
def spansLiveUptoRow : OpenClaim := { program := "ytfgjlhklioijmaa", sum := "62264357a85c0ae10177934c681f36e2ca1404940f44fd25cc6d82573320f2c4", func := "bowline/bowlinelaw03.SpansLive", spec := "spansLive", unfollowed := true, recurses := true, apart := false, narrowed := true }
def SpansLiveUptoSaid : Prop := spansLiveUptoRow.holds Try.pinned (OpenSpec.upto spansLiveSpec)

/-- 'bowlinelaw04.QueueLives', WHERE WHAT IT READS IS OF BULK AT MOST 1048576: true; the input reads as it did. -/
def queueLivesUptoRow : OpenClaim := { program := "ytfgjlhklioijmaa", sum := "62264357a85c0ae10177934c681f36e2ca1404940f44fd25cc6d82573320f2c4", func := "bowline/bowlinelaw04.QueueLives", spec := "queueLives", apart := false, narrowed := true }
def QueueLivesUptoSaid : Prop := queueLivesUptoRow.holds Try.pinned (OpenSpec.upto queueLivesSpec)

/-- 'bowlinelaw13.CutBuilds', WHERE WHAT IT READS IS OF BULK AT MOST 1048576: true; the input reads as it did. -/
def cutBuildsUptoRow : OpenClaim := { program := "ytfgjlhklioijmaa", sum := "62264357a85c0ae10177934c681f36e2ca1404940f44fd25cc6d82573320f2c4", func := "bowline/bowlinelaw13.CutBuilds", spec := "cutBuilds", apart := false, narrowed := true }
def CutBuildsUptoSaid : Prop := cutBuildsUptoRow.holds Try.pinned (OpenSpec.upto cutBuildsSpec)

/-- 'bowlinelaw15.PlainLives', WHERE WHAT IT READS IS OF BULK AT MOST 1048576: true; the input reads as it did. -/
def plainLivesUptoRow : OpenClaim := { program := "ytfgjlhklioijmaa", sum := "62264357a85c0ae10177934c681f36e2ca1404940f44fd25cc6d82573320f2c4", func := "bowline/bowlinelaw15.PlainLives", spec := "plainLives", unfollowed := true, recurses := true, apart := false, narrowed := true }
def PlainLivesUptoSaid : Prop := plainLivesUptoRow.holds Try.pinned (OpenSpec.upto plainLivesSpec)

/-- 'bowlinelaw16.UmtxLives', WHERE WHAT IT READS IS OF BULK AT MOST 1048576: true; the input reads as it did. -/
def umtxLivesUptoRow : OpenClaim := { program := "ytfgjlhklioijmaa", sum := "62264357a85c0ae10177934c681f36e2ca1404940f44fd25cc6d82573320f2c4", func := "bowline/bowlinelaw16.UmtxLives", spec := "umtxLives", unfollowed := true, recurses := true, apart := false, narrowed := true }
def UmtxLivesUptoSaid : Prop := umtxLivesUptoRow.holds Try.pinned (OpenSpec.upto umtxLivesSpec)

/-- 'bowlinelaw16.UmtxFits', WHERE WHAT IT READS IS OF BULK AT MOST 1048576: true; the input reads as it did. -/
def umtxFitsUptoRow : OpenClaim := { program := "ytfgjlhklioijmaa", sum := "62264357a85c0ae10177934c681f36e2ca1404940f44fd25cc6d82573320f2c4", func := "bowline/bowlinelaw16.UmtxFits", spec := "umtxFits", unfollowed := true, recurses := true, apart := false, narrowed := true }
def UmtxFitsUptoSaid : Prop := umtxFitsUptoRow.holds Try.pinned (OpenSpec.upto umtxFitsSpec)

/-- 'bowlinelaw16.UmtxNumbers', WHERE WHAT IT READS IS OF BULK AT MOST 1048576: true; the input reads as it did. -/
def umtxNumbersUptoRow : OpenClaim := { program := "ytfgjlhklioijmaa", sum := "62264357a85c0ae10177934c681f36e2ca1404940f44fd25cc6d82573320f2c4", func := "bowline/bowlinelaw16.UmtxNumbers", spec := "umtxNumbers", unfollowed := true, recurses := true, apart := false, narrowed := true }
def UmtxNumbersUptoSaid : Prop := umtxNumbersUptoRow.holds Try.pinned (OpenSpec.upto umtxNumbersSpec)

/-- 'bowlinelaw20.ResegWhole', WHERE WHAT IT READS IS OF BULK AT MOST 1048576: true; the input reads as it did. -/
def resegWholeUptoRow : OpenClaim := { program := "ytfgjlhklioijmaa", sum := "62264357a85c0ae10177934c681f36e2ca1404940f44fd25cc6d82573320f2c4", func := "bowline/bowlinelaw20.ResegWhole", spec := "resegWhole", unfollowed := true, recurses := true, apart := false, narrowed := true }
def ResegWholeUptoSaid : Prop := resegWholeUptoRow.holds Try.pinned (OpenSpec.upto resegWholeSpec)

/-- 'bowlinelaw19.SentHalves', WHERE WHAT IT READS IS OF BULK AT MOST 1048576: true; the input reads as it did. -/
def sentHalvesUptoRow : OpenClaim := { program := "ytfgjlhklioijmaa", sum := "62264357a85c0ae10177934c681f36e2ca1404940f44fd25cc6d82573320f2c4", func := "bowline/bowlinelaw19.SentHalves", spec := "sentHalves", unfollowed := true, recurses := true, apart := false, narrowed := true }
def SentHalvesUptoSaid : Prop := sentHalvesUptoRow.holds Try.pinned (OpenSpec.upto sentHalvesSpec)

/-- 'bowlinelaw19.SentCounts', WHERE WHAT IT READS IS OF BULK AT MOST 1048576: true; the input reads as it did. -/
def sentCountsUptoRow : OpenClaim := { program := "ytfgjlhklioijmaa", sum := "62264357a85c0ae10177934c681f36e2ca1404940f44fd25cc6d82573320f2c4", func := "bowline/bowlinelaw19.SentCounts", spec := "sentCounts", unfollowed := true, recurses := true, apart := false, narrowed := true }
def SentCountsUptoSaid : Prop := sentCountsUptoRow.holds Try.pinned (OpenSpec.upto sentCountsSpec)

/-- 'bowlinelaw21.PollLives', WHERE WHAT IT READS IS OF BULK AT MOST 1048576: true; the input reads as it did. -/
def pollLivesUptoRow : OpenClaim := { program := "ytfgjlhklioijmaa", sum := "62264357a85c0ae10177934c681f36e2ca1404940f44fd25cc6d82573320f2c4", func := "bowline/bowlinelaw21.PollLives", spec := "pollLives", apart := false, narrowed := true }
def PollLivesUptoSaid : Prop := pollLivesUptoRow.holds Try.pinned (OpenSpec.upto pollLivesSpec)

/-- 'bowlinelaw21.PollSoon', WHERE WHAT IT READS IS OF BULK AT MOST 1048576: true; the input reads as it did. -/
def pollSoonUptoRow : OpenClaim := { program := "ytfgjlhklioijmaa", sum := "62264357a85c0ae10177934c681f36e2ca1404940f44fd25cc6d82573320f2c4", func := "bowline/bowlinelaw21.PollSoon", spec := "pollSoon", apart := false, narrowed := true }
def PollSoonUptoSaid : Prop := pollSoonUptoRow.holds Try.pinned (OpenSpec.upto pollSoonSpec)

/-- 'bowlinelaw21.PollEmpty', WHERE WHAT IT READS IS OF BULK AT MOST 1048576: true; the input reads as it did. -/
def pollEmptyUptoRow : OpenClaim := { program := "ytfgjlhklioijmaa", sum := "62264357a85c0ae10177934c681f36e2ca1404940f44fd25cc6d82573320f2c4", func := "bowline/bowlinelaw21.PollEmpty", spec := "pollEmpty", apart := false, narrowed := true }
def PollEmptyUptoSaid : Prop := pollEmptyUptoRow.holds Try.pinned (OpenSpec.upto pollEmptySpec)

end Rows
end Go.Proofs.Ytfgjlhklioijmaa
