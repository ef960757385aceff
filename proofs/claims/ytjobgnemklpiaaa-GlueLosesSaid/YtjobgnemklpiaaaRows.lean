/-
  No cell of these rows narrows 'for every input' (looked for: loops, veiled, ifaces, maps, wideKeys, modest, calm, conditions, laid).
  DERIVED. THE GIVEN ROWS OF THIS SEAT. 14 by the template 'for every input the law returns true; each argument reads behind the call as it read before'; 0 by the template 'total and deterministic' (their statements: YtjobgnemklpiaaaTotals.lean).
  GIVEN WITH THE SEED: the statements are not yours to turn. If you find one false, say at which input.
  Laid BY PROGRAM, IN A SANDBOX (cutbox-rows.mjs): the forced cells as the released guide's own fill.sh prints them over the translation bc3f7dc09efbc6b8… (all of the seat's roots in one cut). By AI agents, Wed Nov 11 2026. No macro, syntax, notation, axiom, sorry.
-/
import Derived.Test.YtjobgnemklpiaaaChecked
import GoSem.Claim
import GoSem.ClaimJoined
import GoSem.ClaimMapViews
import Derived.JoinedTies
import Derived.KernelRfl
namespace Go.Proofs.Ytjobgnemklpiaaa
/- THE CELL 'sum', in the pinned program and in every row, IS THE sha256 OF THE DUMP (.gsa) THAT YtjobgnemklpiaaaProg.lean LOADS. Nothing in Lean hashes anything: it is a label: what it is worth is what the hold of that sum in a sandbox is worth. -/
noncomputable def Try.pinned : Pinned := { name := "ytjobgnemklpiaaa", sum := "bc3f7dc09efbc6b851b1b67fe16844d8a750f8378f4d91bf00b775e72053a2a1", checked := Try.checked }
namespace Rows
def none {H : Type} : Left H := { results := [], args := [] }

/-- 'bowlinelaw03.SpansLive': WHATEVER THE INPUT: true; the input reads as it did. -/
def spansLiveSpec : ChangeSpec := { name := "spansLive", fn := fun _ => fun
  | [d1, d2, d3] => { results := [.lit (.bool true)], args := [d1, d2, d3] }
  | _ => none }
def spansLiveRow : OpenClaim := { program := "ytjobgnemklpiaaa", sum := "bc3f7dc09efbc6b851b1b67fe16844d8a750f8378f4d91bf00b775e72053a2a1", func := "bowline/bowlinelaw03.SpansLive", spec := "spansLive", unfollowed := true, recurses := true, apart := false }
def SpansLiveSaid : Prop := spansLiveRow.holds Try.pinned (OpenSpec.ofChange spansLiveSpec)

/-- ITS FALSE NEIGHBOUR: 'it returns false'. Refute it at one input. -/
def spansLiveWrong : ChangeSpec := { name := "spansLive", fn := fun _ => fun
  | [d1, d2, d3] => { results := [.lit (.bool false)], args := [d1, d2, d3] }
  | _ => none }
def SpansLiveWrongFalsely : Prop := spansLiveRow.holds Try.pinned (OpenSpec.ofChange spansLiveWrong)

/-- 'bowlinelaw04.QueueLives': WHATEVER THE INPUT: true; the input reads as it did. -/
def queueLivesSpec : ChangeSpec := { name := "queueLives", fn := fun _ => fun
  | [d1, d2] => { results := [.lit (.bool true)], args := [d1, d2] }
  | _ => none }
def queueLivesRow : OpenClaim := { program := "ytjobgnemklpiaaa", sum := "bc3f7dc09efbc6b851b1b67fe16844d8a750f8378f4d91bf00b775e72053a2a1", func := "bowline/bowlinelaw04.QueueLives", spec := "queueLives", apart := false }
def QueueLivesSaid : Prop := queueLivesRow.holds Try.pinned (OpenSpec.ofChange queueLivesSpec)

/-- ITS FALSE NEIGHBOUR: 'it returns false'. Refute it at one input. -/
def queueLivesWrong : ChangeSpec := { name := "queueLives", fn := fun _ => fun
  | [d1, d2] => { results := [.lit (.bool false)], args := [d1, d2] }
  | _ => none }
def QueueLivesWrongFalsely : Prop := queueLivesRow.holds Try.pinned (OpenSpec.ofChange queueLivesWrong)

/-- 'bowlinelaw11.StatusGrows': WHATEVER THE INPUT: true; the input reads as it did. -/
def statusGrowsSpec : ChangeSpec := { name := "statusGrows", fn := fun _ => fun
  | [d1, d2, d3] => { results := [.lit (.bool true)], args := [d1, d2, d3] }
  | _ => none }
def statusGrowsRow : OpenClaim := { program := "ytjobgnemklpiaaa", sum := "bc3f7dc09efbc6b851b1b67fe16844d8a750f8378f4d91bf00b775e72053a2a1", func := "bowline/bowlinelaw11.StatusGrows", spec := "statusGrows", apart := false }
def StatusGrowsSaid : Prop := statusGrowsRow.holds Try.pinned (OpenSpec.ofChange statusGrowsSpec)

/-- ITS FALSE NEIGHBOUR: 'it returns false'. Refute it at one input. -/
def statusGrowsWrong : ChangeSpec := { name := "statusGrows", fn := fun _ => fun
  | [d1, d2, d3] => { results := [.lit (.bool false)], args := [d1, d2, d3] }
  | _ => none }
def StatusGrowsWrongFalsely : Prop := statusGrowsRow.holds Try.pinned (OpenSpec.ofChange statusGrowsWrong)

/-- 'bowlinelaw13.CutBuilds': WHATEVER THE INPUT: true; the input reads as it did. -/
def cutBuildsSpec : ChangeSpec := { name := "cutBuilds", fn := fun _ => fun
  | [d] => { results := [.lit (.bool true)], args := [d] }
  | _ => none }
def cutBuildsRow : OpenClaim := { program := "ytjobgnemklpiaaa", sum := "bc3f7dc09efbc6b851b1b67fe16844d8a750f8378f4d91bf00b775e72053a2a1", func := "bowline/bowlinelaw13.CutBuilds", spec := "cutBuilds", apart := false }
def CutBuildsSaid : Prop := cutBuildsRow.holds Try.pinned (OpenSpec.ofChange cutBuildsSpec)

/-- ITS FALSE NEIGHBOUR: 'it returns false'. Refute it at one input. -/
def cutBuildsWrong : ChangeSpec := { name := "cutBuilds", fn := fun _ => fun
  | [d] => { results := [.lit (.bool false)], args := [d] }
  | _ => none }
def CutBuildsWrongFalsely : Prop := cutBuildsRow.holds Try.pinned (OpenSpec.ofChange cutBuildsWrong)

/-- 'bowlinelaw13.CutFits': WHATEVER THE INPUT: true; the input reads as it did. -/
def cutFitsSpec : ChangeSpec := { name := "cutFits", fn := fun _ => fun
  | [d1, d2, d3] => { results := [.lit (.bool true)], args := [d1, d2, d3] }
  | _ => none }
def cutFitsRow : OpenClaim := { program := "ytjobgnemklpiaaa", sum := "bc3f7dc09efbc6b851b1b67fe16844d8a750f8378f4d91bf00b775e72053a2a1", func := "bowline/bowlinelaw13.CutFits", spec := "cutFits", apart := false }
def CutFitsSaid : Prop := cutFitsRow.holds Try.pinned (OpenSpec.ofChange cutFitsSpec)

/-- ITS FALSE NEIGHBOUR: 'it returns false'. Refute it at one input. -/
def cutFitsWrong : ChangeSpec := { name := "cutFits", fn := fun _ => fun
  | [d1, d2, d3] => { results := [.lit (.bool false)], args := [d1, d2, d3] }
  | _ => none }
def CutFitsWrongFalsely : Prop := cutFitsRow.holds Try.pinned (OpenSpec.ofChange cutFitsWrong)

/-- 'bowlinelaw13.CutOne': WHATEVER THE INPUT: true; the input reads as it did. -/
def cutOneSpec : ChangeSpec := { name := "cutOne", fn := fun _ => fun
  | [d1, d2, d3] => { results := [.lit (.bool true)], args := [d1, d2, d3] }
  | _ => none }
def cutOneRow : OpenClaim := { program := "ytjobgnemklpiaaa", sum := "bc3f7dc09efbc6b851b1b67fe16844d8a750f8378f4d91bf00b775e72053a2a1", func := "bowline/bowlinelaw13.CutOne", spec := "cutOne", apart := false }
def CutOneSaid : Prop := cutOneRow.holds Try.pinned (OpenSpec.ofChange cutOneSpec)

/-- ITS FALSE NEIGHBOUR: 'it returns false'. Refute it at one input. -/
def cutOneWrong : ChangeSpec := { name := "cutOne", fn := fun _ => fun
  | [d1, d2, d3] => { results := [.lit (.bool false)], args := [d1, d2, d3] }
  | _ => none }
def CutOneWrongFalsely : Prop := cutOneRow.holds Try.pinned (OpenSpec.ofChange cutOneWrong)

/-- 'bowlinelaw14.GlueJoins': WHATEVER THE INPUT: true; the input reads as it did. -/
def glueJoinsSpec : ChangeSpec := { name := "glueJoins", fn := fun _ => fun
  | [d1, d2] => { results := [.lit (.bool true)], args := [d1, d2] }
  | _ => none }
def glueJoinsRow : OpenClaim := { program := "ytjobgnemklpiaaa", sum := "bc3f7dc09efbc6b851b1b67fe16844d8a750f8378f4d91bf00b775e72053a2a1", func := "bowline/bowlinelaw14.GlueJoins", spec := "glueJoins", unfollowed := true, recurses := true, apart := false }
def GlueJoinsSaid : Prop := glueJoinsRow.holds Try.pinned (OpenSpec.ofChange glueJoinsSpec)

/-- ITS FALSE NEIGHBOUR: 'it returns false'. Refute it at one input. -/
def glueJoinsWrong : ChangeSpec := { name := "glueJoins", fn := fun _ => fun
  | [d1, d2] => { results := [.lit (.bool false)], args := [d1, d2] }
  | _ => none }
def GlueJoinsWrongFalsely : Prop := glueJoinsRow.holds Try.pinned (OpenSpec.ofChange glueJoinsWrong)

/-- 'bowlinelaw14.GlueLoses': WHATEVER THE INPUT: true; the input reads as it did. -/
def glueLosesSpec : ChangeSpec := { name := "glueLoses", fn := fun _ => fun
  | [d1, d2, d3] => { results := [.lit (.bool true)], args := [d1, d2, d3] }
  | _ => none }
def glueLosesRow : OpenClaim := { program := "ytjobgnemklpiaaa", sum := "bc3f7dc09efbc6b851b1b67fe16844d8a750f8378f4d91bf00b775e72053a2a1", func := "bowline/bowlinelaw14.GlueLoses", spec := "glueLoses", unfollowed := true, recurses := true, apart := false }
def GlueLosesSaid : Prop := glueLosesRow.holds Try.pinned (OpenSpec.ofChange glueLosesSpec)

/-- ITS FALSE NEIGHBOUR: 'it returns false'. Refute it at one input. -/
def glueLosesWrong : ChangeSpec := { name := "glueLoses", fn := fun _ => fun
  | [d1, d2, d3] => { results := [.lit (.bool false)], args := [d1, d2, d3] }
  | _ => none }
def GlueLosesWrongFalsely : Prop := glueLosesRow.holds Try.pinned (OpenSpec.ofChange glueLosesWrong)

/-- 'bowlinelaw14.GluePlain': WHATEVER THE INPUT: true; the input reads as it did. -/
def gluePlainSpec : ChangeSpec := { name := "gluePlain", fn := fun _ => fun
  | [d1, d2] => { results := [.lit (.bool true)], args := [d1, d2] }
  | _ => none }
def gluePlainRow : OpenClaim := { program := "ytjobgnemklpiaaa", sum := "bc3f7dc09efbc6b851b1b67fe16844d8a750f8378f4d91bf00b775e72053a2a1", func := "bowline/bowlinelaw14.GluePlain", spec := "gluePlain", unfollowed := true, recurses := true, apart := false }
def GluePlainSaid : Prop := gluePlainRow.holds Try.pinned (OpenSpec.ofChange gluePlainSpec)

/-- ITS FALSE NEIGHBOUR: 'it returns false'. Refute it at one input. -/
def gluePlainWrong : ChangeSpec := { name := "gluePlain", fn := fun _ => fun
  | [d1, d2] => { results := [.lit (.bool false)], args := [d1, d2] }
  | _ => none }
def GluePlainWrongFalsely : Prop := gluePlainRow.holds Try.pinned (OpenSpec.ofChange gluePlainWrong)

/-- 'bowlinelaw15.PlainLives': WHATEVER THE INPUT: true; the input reads as it did. -/
def plainLivesSpec : ChangeSpec := { name := "plainLives", fn := fun _ => fun
  | [d1, d2] => { results := [.lit (.bool true)], args := [d1, d2] }
  | _ => none }
def plainLivesRow : OpenClaim := { program := "ytjobgnemklpiaaa", sum := "bc3f7dc09efbc6b851b1b67fe16844d8a750f8378f4d91bf00b775e72053a2a1", func := "bowline/bowlinelaw15.PlainLives", spec := "plainLives", unfollowed := true, recurses := true, apart := false }
def PlainLivesSaid : Prop := plainLivesRow.holds Try.pinned (OpenSpec.ofChange plainLivesSpec)

/-- ITS FALSE NEIGHBOUR: 'it returns false'. Refute it at one input. -/
def plainLivesWrong : ChangeSpec := { name := "plainLives", fn := fun _ => fun
  | [d1, d2] => { results := [.lit (.bool false)], args := [d1, d2] }
  | _ => none }
def PlainLivesWrongFalsely : Prop := plainLivesRow.holds Try.pinned (OpenSpec.ofChange plainLivesWrong)

/-- 'bowlinelaw15.PlainOrder': WHATEVER THE INPUT: true; the input reads as it did. -/
def plainOrderSpec : ChangeSpec := { name := "plainOrder", fn := fun _ => fun
  | [d1, d2, d3] => { results := [.lit (.bool true)], args := [d1, d2, d3] }
  | _ => none }
def plainOrderRow : OpenClaim := { program := "ytjobgnemklpiaaa", sum := "bc3f7dc09efbc6b851b1b67fe16844d8a750f8378f4d91bf00b775e72053a2a1", func := "bowline/bowlinelaw15.PlainOrder", spec := "plainOrder", unfollowed := true, recurses := true, apart := false }
def PlainOrderSaid : Prop := plainOrderRow.holds Try.pinned (OpenSpec.ofChange plainOrderSpec)

/-- ITS FALSE NEIGHBOUR: 'it returns false'. Refute it at one input. -/
def plainOrderWrong : ChangeSpec := { name := "plainOrder", fn := fun _ => fun
  | [d1, d2, d3] => { results := [.lit (.bool false)], args := [d1, d2, d3] }
  | _ => none }
def PlainOrderWrongFalsely : Prop := plainOrderRow.holds Try.pinned (OpenSpec.ofChange plainOrderWrong)

/-- 'bowlinelaw16.UmtxLives': WHATEVER THE INPUT: true; the input reads as it did. -/
def umtxLivesSpec : ChangeSpec := { name := "umtxLives", fn := fun _ => fun
  | [d1, d2] => { results := [.lit (.bool true)], args := [d1, d2] }
  | _ => none }
def umtxLivesRow : OpenClaim := { program := "ytjobgnemklpiaaa", sum := "bc3f7dc09efbc6b851b1b67fe16844d8a750f8378f4d91bf00b775e72053a2a1", func := "bowline/bowlinelaw16.UmtxLives", spec := "umtxLives", unfollowed := true, recurses := true, apart := false }
def UmtxLivesSaid : Prop := umtxLivesRow.holds Try.pinned (OpenSpec.ofChange umtxLivesSpec)

/-- ITS FALSE NEIGHBOUR: 'it returns false'. Refute it at one input. -/
def umtxLivesWrong : ChangeSpec := { name := "umtxLives", fn := fun _ => fun
  | [d1, d2] => { results := [.lit (.bool false)], args := [d1, d2] }
  | _ => none }
def UmtxLivesWrongFalsely : Prop := umtxLivesRow.holds Try.pinned (OpenSpec.ofChange umtxLivesWrong)

/-- 'bowlinelaw16.UmtxFits': WHATEVER THE INPUT: true; the input reads as it did. -/
def umtxFitsSpec : ChangeSpec := { name := "umtxFits", fn := fun _ => fun
  | [d1, d2, d3] => { results := [.lit (.bool true)], args := [d1, d2, d3] }
  | _ => none }
def umtxFitsRow : OpenClaim := { program := "ytjobgnemklpiaaa", sum := "bc3f7dc09efbc6b851b1b67fe16844d8a750f8378f4d91bf00b775e72053a2a1", func := "bowline/bowlinelaw16.UmtxFits", spec := "umtxFits", unfollowed := true, recurses := true, apart := false }
def UmtxFitsSaid : Prop := umtxFitsRow.holds Try.pinned (OpenSpec.ofChange umtxFitsSpec)

/-- ITS FALSE NEIGHBOUR: 'it returns false'. Refute it at one input. -/
def umtxFitsWrong : ChangeSpec := { name := "umtxFits", fn := fun _ => fun
  | [d1, d2, d3] => { results := [.lit (.bool false)], args := [d1, d2, d3] }
  | _ => none }
def UmtxFitsWrongFalsely : Prop := umtxFitsRow.holds Try.pinned (OpenSpec.ofChange umtxFitsWrong)

/-- 'bowlinelaw16.UmtxNumbers': WHATEVER THE INPUT: true; the input reads as it did. -/
def umtxNumbersSpec : ChangeSpec := { name := "umtxNumbers", fn := fun _ => fun
  | [d1, d2] => { results := [.lit (.bool true)], args := [d1, d2] }
  | _ => none }
def umtxNumbersRow : OpenClaim := { program := "ytjobgnemklpiaaa", sum := "bc3f7dc09efbc6b851b1b67fe16844d8a750f8378f4d91bf00b775e72053a2a1", func := "bowline/bowlinelaw16.UmtxNumbers", spec := "umtxNumbers", unfollowed := true, recurses := true, apart := false }
def UmtxNumbersSaid : Prop := umtxNumbersRow.holds Try.pinned (OpenSpec.ofChange umtxNumbersSpec)

/-- ITS FALSE NEIGHBOUR: 'it returns false'. Refute it at one input. -/
def umtxNumbersWrong : ChangeSpec := { name := "umtxNumbers", fn := fun _ => fun
  | [d1, d2] => { results := [.lit (.bool false)], args := [d1, d2] }
  | _ => none }
def UmtxNumbersWrongFalsely : Prop := umtxNumbersRow.holds Try.pinned (OpenSpec.ofChange umtxNumbersWrong)

/- THE SECOND FORM. 'bulk': how many values and letters a reading holds, each counted each time it is reached (what is shared counts as often as it is met; a slice's spare places count too). A statement '..UptoSaid' is the law's where the arguments, and the package variables that the reading takes, are together of bulk at most 1048576: NARROWER than '..Said'. Prove '..Said' where nothing that the law and all that it calls make is longer than what came in: it says more and counts as full. Else prove '..UptoSaid'. A law counts once. -/
mutual
def uptoBulk {H : Type} : DataW H → Nat
  | .lit (.string bytes) => bytes.length + 1
  | .lit _ => 1
  | .nil => 1
  | .ptr d => uptoBulk d + 1
  | .slice elems spare => uptoBulkAll elems + uptoBulkAll spare + 1
  | .agg parts => uptoBulkAll parts + 1
  | .iface _ d => uptoBulk d + 1
  | .map entries => uptoBulkEntries entries + 1
  | .held _ => 1
def uptoBulkAll {H : Type} : List (DataW H) → Nat
  | [] => 0
  | d :: r => uptoBulk d + uptoBulkAll r
def uptoBulkEntries {H : Type} : List (Lit × DataW H) → Nat
  | [] => 0
  | x :: r => uptoBulkEntry x + uptoBulkEntries r
def uptoBulkEntry {H : Type} : Lit × DataW H → Nat
  | (.string bytes, d) => bytes.length + uptoBulk d + 1
  | (_, d) => uptoBulk d + 1
 end
def uptoSmall : (H : Type) → List (DataW H) → Bool := fun _ ds => decide (uptoBulkAll ds ≤ 1048576)
def OpenSpec.upto (s : _root_.Go.ChangeSpec) : _root_.Go.OpenSpec := { _root_.Go.OpenSpec.ofChange s with cond := some uptoSmall }

/-- 'bowlinelaw03.SpansLive', WHERE WHAT IT READS IS OF BULK AT MOST 1048576: true; the input reads as it did. -/
def spansLiveUptoRow : OpenClaim := { program := "ytjobgnemklpiaaa", sum := "bc3f7dc09efbc6b851b1b67fe16844d8a750f8378f4d91bf00b775e72053a2a1", func := "bowline/bowlinelaw03.SpansLive", spec := "spansLive", unfollowed := true, recurses := true, apart := false, narrowed := true }
def SpansLiveUptoSaid : Prop := spansLiveUptoRow.holds Try.pinned (OpenSpec.upto spansLiveSpec)

/-- 'bowlinelaw04.QueueLives', WHERE WHAT IT READS IS OF BULK AT MOST 1048576: true; the input reads as it did. -/
def queueLivesUptoRow : OpenClaim := { program := "ytjobgnemklpiaaa", sum := "bc3f7dc09efbc6b851b1b67fe16844d8a750f8378f4d91bf00b775e72053a2a1", func := "bowline/bowlinelaw04.QueueLives", spec := "queueLives", apart := false, narrowed := true }
def QueueLivesUptoSaid : Prop := queueLivesUptoRow.holds Try.pinned (OpenSpec.upto queueLivesSpec)

/-- 'bowlinelaw11.StatusGrows', WHERE WHAT IT READS IS OF BULK AT MOST 1048576: true; the input reads as it did. -/
def statusGrowsUptoRow : OpenClaim := { program := "ytjobgnemklpiaaa", sum := "bc3f7dc09efbc6b851b1b67fe16844d8a750f8378f4d91bf00b775e72053a2a1", func := "bowline/bowlinelaw11.StatusGrows", spec := "statusGrows", apart := false, narrowed := true }
def StatusGrowsUptoSaid : Prop := statusGrowsUptoRow.holds Try.pinned (OpenSpec.upto statusGrowsSpec)

/-- 'bowlinelaw13.CutBuilds', WHERE WHAT IT READS IS OF BULK AT MOST 1048576: true; the input reads as it did. -/
def cutBuildsUptoRow : OpenClaim := { program := "ytjobgnemklpiaaa", sum := "bc3f7dc09efbc6b851b1b67fe16844d8a750f8378f4d91bf00b775e72053a2a1", func := "bowline/bowlinelaw13.CutBuilds", spec := "cutBuilds", apart := false, narrowed := true }
def CutBuildsUptoSaid : Prop := cutBuildsUptoRow.holds Try.pinned (OpenSpec.upto cutBuildsSpec)

/-- 'bowlinelaw13.CutFits', WHERE WHAT IT READS IS OF BULK AT MOST 1048576: true; the input reads as it did. -/
def cutFitsUptoRow : OpenClaim := { program := "ytjobgnemklpiaaa", sum := "bc3f7dc09efbc6b851b1b67fe16844d8a750f8378f4d91bf00b775e72053a2a1", func := "bowline/bowlinelaw13.CutFits", spec := "cutFits", apart := false, narrowed := true }
def CutFitsUptoSaid : Prop := cutFitsUptoRow.holds Try.pinned (OpenSpec.upto cutFitsSpec)

/-- 'bowlinelaw13.CutOne', WHERE WHAT IT READS IS OF BULK AT MOST 1048576: true; the input reads as it did. -/
def cutOneUptoRow : OpenClaim := { program := "ytjobgnemklpiaaa", sum := "bc3f7dc09efbc6b851b1b67fe16844d8a750f8378f4d91bf00b775e72053a2a1", func := "bowline/bowlinelaw13.CutOne", spec := "cutOne", apart := false, narrowed := true }
def CutOneUptoSaid : Prop := cutOneUptoRow.holds Try.pinned (OpenSpec.upto cutOneSpec)

/-- 'bowlinelaw14.GlueJoins', WHERE WHAT IT READS IS OF BULK AT MOST 1048576: true; the input reads as it did. -/
def glueJoinsUptoRow : OpenClaim := { program := "ytjobgnemklpiaaa", sum := "bc3f7dc09efbc6b851b1b67fe16844d8a750f8378f4d91bf00b775e72053a2a1", func := "bowline/bowlinelaw14.GlueJoins", spec := "glueJoins", unfollowed := true, recurses := true, apart := false, narrowed := true }
def GlueJoinsUptoSaid : Prop := glueJoinsUptoRow.holds Try.pinned (OpenSpec.upto glueJoinsSpec)

/-- 'bowlinelaw14.GlueLoses', WHERE WHAT IT READS IS OF BULK AT MOST 1048576: true; the input reads as it did. -/
def glueLosesUptoRow : OpenClaim := { program := "ytjobgnemklpiaaa", sum := "bc3f7dc09efbc6b851b1b67fe16844d8a750f8378f4d91bf00b775e72053a2a1", func := "bowline/bowlinelaw14.GlueLoses", spec := "glueLoses", unfollowed := true, recurses := true, apart := false, narrowed := true }
def GlueLosesUptoSaid : Prop := glueLosesUptoRow.holds Try.pinned (OpenSpec.upto glueLosesSpec)

/-- 'bowlinelaw14.GluePlain', WHERE WHAT IT READS IS OF BULK AT MOST 1048576: true; the input reads as it did. -/
def gluePlainUptoRow : OpenClaim := { program := "ytjobgnemklpiaaa", sum := "bc3f7dc09efbc6b851b1b67fe16844d8a750f8378f4d91bf00b775e72053a2a1", func := "bowline/bowlinelaw14.GluePlain", spec := "gluePlain", unfollowed := true, recurses := true, apart := false, narrowed := true }
def GluePlainUptoSaid : Prop := gluePlainUptoRow.holds Try.pinned (OpenSpec.upto gluePlainSpec)

/-- 'bowlinelaw15.PlainLives', WHERE WHAT IT READS IS OF BULK AT MOST 1048576: true; the input reads as it did. -/
def plainLivesUptoRow : OpenClaim := { program := "ytjobgnemklpiaaa", sum := "bc3f7dc09efbc6b851b1b67fe16844d8a750f8378f4d91bf00b775e72053a2a1", func := "bowline/bowlinelaw15.PlainLives", spec := "plainLives", unfollowed := true, recurses := true, apart := false, narrowed := true }
def PlainLivesUptoSaid : Prop := plainLivesUptoRow.holds Try.pinned (OpenSpec.upto plainLivesSpec)

/-- 'bowlinelaw15.PlainOrder', WHERE WHAT IT READS IS OF BULK AT MOST 1048576: true; the input reads as it did. -/
def plainOrderUptoRow : OpenClaim := { program := "ytjobgnemklpiaaa", sum := "bc3f7dc09efbc6b851b1b67fe16844d8a750f8378f4d91bf00b775e72053a2a1", func := "bowline/bowlinelaw15.PlainOrder", spec := "plainOrder", unfollowed := true, recurses := true, apart := false, narrowed := true }
def PlainOrderUptoSaid : Prop := plainOrderUptoRow.holds Try.pinned (OpenSpec.upto plainOrderSpec)

/-- 'bowlinelaw16.UmtxLives', WHERE WHAT IT READS IS OF BULK AT MOST 1048576: true; the input reads as it did. -/
def umtxLivesUptoRow : OpenClaim := { program := "ytjobgnemklpiaaa", sum := "bc3f7dc09efbc6b851b1b67fe16844d8a750f8378f4d91bf00b775e72053a2a1", func := "bowline/bowlinelaw16.UmtxLives", spec := "umtxLives", unfollowed := true, recurses := true, apart := false, narrowed := true }
def UmtxLivesUptoSaid : Prop := umtxLivesUptoRow.holds Try.pinned (OpenSpec.upto umtxLivesSpec)

/-- 'bowlinelaw16.UmtxFits', WHERE WHAT IT READS IS OF BULK AT MOST 1048576: true; the input reads as it did. -/
def umtxFitsUptoRow : OpenClaim := { program := "ytjobgnemklpiaaa", sum := "bc3f7dc09efbc6b851b1b67fe16844d8a750f8378f4d91bf00b775e72053a2a1", func := "bowline/bowlinelaw16.UmtxFits", spec := "umtxFits", unfollowed := true, recurses := true, apart := false, narrowed := true }
def UmtxFitsUptoSaid : Prop := umtxFitsUptoRow.holds Try.pinned (OpenSpec.upto umtxFitsSpec)

/-- 'bowlinelaw16.UmtxNumbers', WHERE WHAT IT READS IS OF BULK AT MOST 1048576: true; the input reads as it did. -/
def umtxNumbersUptoRow : OpenClaim := { program := "ytjobgnemklpiaaa", sum := "bc3f7dc09efbc6b851b1b67fe16844d8a750f8378f4d91bf00b775e72053a2a1", func := "bowline/bowlinelaw16.UmtxNumbers", spec := "umtxNumbers", unfollowed := true, recurses := true, apart := false, narrowed := true }
def UmtxNumbersUptoSaid : Prop := umtxNumbersUptoRow.holds Try.pinned (OpenSpec.upto umtxNumbersSpec)

end Rows
end Go.Proofs.Ytjobgnemklpiaaa
