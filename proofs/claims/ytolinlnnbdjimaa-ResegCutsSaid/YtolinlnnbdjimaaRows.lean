/-
  No cell of these rows narrows 'for every input' (looked for: loops, veiled, ifaces, maps, wideKeys, modest, calm, conditions, laid).
  DERIVED. THE GIVEN ROWS OF THIS SEAT. 14 by the template 'for every input the law returns true; each argument reads behind the call as it read before'; 0 by the template 'total and deterministic' (their statements: YtolinlnnbdjimaaTotals.lean).
  GIVEN WITH THE SEED: the statements are not yours to turn. If you find one false, say at which input.
  Laid BY PROGRAM, IN A SANDBOX (cutbox-rows.mjs): the forced cells as the released guide's own fill.sh prints them over the translation 5ec801f2fc7bfb8c… (all of the seat's roots in one cut). By AI agents, Wed Nov 11 2026. No macro, syntax, notation, axiom, sorry.
-/
import Derived.Test.YtolinlnnbdjimaaChecked
import GoSem.Claim
import GoSem.ClaimJoined
import GoSem.ClaimMapViews
import Derived.JoinedTies
import Derived.KernelRfl
namespace Go.Proofs.Ytolinlnnbdjimaa
/- THE CELL 'sum', in the pinned program and in every row, IS THE sha256 OF THE DUMP (.gsa) THAT YtolinlnnbdjimaaProg.lean LOADS. Nothing in Lean hashes anything: it is a label: what it is worth is what the hold of that sum in a sandbox is worth. -/
noncomputable def Try.pinned : Pinned := { name := "ytolinlnnbdjimaa", sum := "5ec801f2fc7bfb8c95df8f0a1accd374d98887e560738e16c5c2f5fd64dcf857", checked := Try.checked }
namespace Rows
def none {H : Type} : Left H := { results := [], args := [] }

/-- 'bowlinelaw11.StatusGrows': WHATEVER THE INPUT: true; the input reads as it did. -/
def statusGrowsSpec : ChangeSpec := { name := "statusGrows", fn := fun _ => fun
  | [d1, d2, d3] => { results := [.lit (.bool true)], args := [d1, d2, d3] }
  | _ => none }
def statusGrowsRow : OpenClaim := { program := "ytolinlnnbdjimaa", sum := "5ec801f2fc7bfb8c95df8f0a1accd374d98887e560738e16c5c2f5fd64dcf857", func := "bowline/bowlinelaw11.StatusGrows", spec := "statusGrows", apart := false }
def StatusGrowsSaid : Prop := statusGrowsRow.holds Try.pinned (OpenSpec.ofChange statusGrowsSpec)

/-- ITS FALSE NEIGHBOUR: 'it returns false'. Refute it at one input. -/
def statusGrowsWrong : ChangeSpec := { name := "statusGrows", fn := fun _ => fun
  | [d1, d2, d3] => { results := [.lit (.bool false)], args := [d1, d2, d3] }
  | _ => none }
def StatusGrowsWrongFalsely : Prop := statusGrowsRow.holds Try.pinned (OpenSpec.ofChange statusGrowsWrong)

/-- 'bowlinelaw10.AmdWrites': WHATEVER THE INPUT: true; the input reads as it did. -/
def amdWritesSpec : ChangeSpec := { name := "amdWrites", fn := fun _ => fun
  | [d1, d2, d3] => { results := [.lit (.bool true)], args := [d1, d2, d3] }
  | _ => none }
def amdWritesRow : OpenClaim := { program := "ytolinlnnbdjimaa", sum := "5ec801f2fc7bfb8c95df8f0a1accd374d98887e560738e16c5c2f5fd64dcf857", func := "bowline/bowlinelaw10.AmdWrites", spec := "amdWrites", unfollowed := true, recurses := true, apart := false }
def AmdWritesSaid : Prop := amdWritesRow.holds Try.pinned (OpenSpec.ofChange amdWritesSpec)

/-- ITS FALSE NEIGHBOUR: 'it returns false'. Refute it at one input. -/
def amdWritesWrong : ChangeSpec := { name := "amdWrites", fn := fun _ => fun
  | [d1, d2, d3] => { results := [.lit (.bool false)], args := [d1, d2, d3] }
  | _ => none }
def AmdWritesWrongFalsely : Prop := amdWritesRow.holds Try.pinned (OpenSpec.ofChange amdWritesWrong)

/-- 'bowlinelaw10.AmdReads': WHATEVER THE INPUT: true; the input reads as it did. -/
def amdReadsSpec : ChangeSpec := { name := "amdReads", fn := fun _ => fun
  | [d1, d2] => { results := [.lit (.bool true)], args := [d1, d2] }
  | _ => none }
def amdReadsRow : OpenClaim := { program := "ytolinlnnbdjimaa", sum := "5ec801f2fc7bfb8c95df8f0a1accd374d98887e560738e16c5c2f5fd64dcf857", func := "bowline/bowlinelaw10.AmdReads", spec := "amdReads", unfollowed := true, recurses := true, apart := false }
def AmdReadsSaid : Prop := amdReadsRow.holds Try.pinned (OpenSpec.ofChange amdReadsSpec)

/-- ITS FALSE NEIGHBOUR: 'it returns false'. Refute it at one input. -/
def amdReadsWrong : ChangeSpec := { name := "amdReads", fn := fun _ => fun
  | [d1, d2] => { results := [.lit (.bool false)], args := [d1, d2] }
  | _ => none }
def AmdReadsWrongFalsely : Prop := amdReadsRow.holds Try.pinned (OpenSpec.ofChange amdReadsWrong)

/-- 'bowlinelaw10.AmdBack': WHATEVER THE INPUT: true; the input reads as it did. -/
def amdBackSpec : ChangeSpec := { name := "amdBack", fn := fun _ => fun
  | [d1, d2, d3] => { results := [.lit (.bool true)], args := [d1, d2, d3] }
  | _ => none }
def amdBackRow : OpenClaim := { program := "ytolinlnnbdjimaa", sum := "5ec801f2fc7bfb8c95df8f0a1accd374d98887e560738e16c5c2f5fd64dcf857", func := "bowline/bowlinelaw10.AmdBack", spec := "amdBack", unfollowed := true, recurses := true, apart := false }
def AmdBackSaid : Prop := amdBackRow.holds Try.pinned (OpenSpec.ofChange amdBackSpec)

/-- ITS FALSE NEIGHBOUR: 'it returns false'. Refute it at one input. -/
def amdBackWrong : ChangeSpec := { name := "amdBack", fn := fun _ => fun
  | [d1, d2, d3] => { results := [.lit (.bool false)], args := [d1, d2, d3] }
  | _ => none }
def AmdBackWrongFalsely : Prop := amdBackRow.holds Try.pinned (OpenSpec.ofChange amdBackWrong)

/-- 'bowlinelaw10.AmdHeads': WHATEVER THE INPUT: true; the input reads as it did. -/
def amdHeadsSpec : ChangeSpec := { name := "amdHeads", fn := fun _ => fun
  | [d1, d2, d3] => { results := [.lit (.bool true)], args := [d1, d2, d3] }
  | _ => none }
def amdHeadsRow : OpenClaim := { program := "ytolinlnnbdjimaa", sum := "5ec801f2fc7bfb8c95df8f0a1accd374d98887e560738e16c5c2f5fd64dcf857", func := "bowline/bowlinelaw10.AmdHeads", spec := "amdHeads", unfollowed := true, recurses := true, apart := false }
def AmdHeadsSaid : Prop := amdHeadsRow.holds Try.pinned (OpenSpec.ofChange amdHeadsSpec)

/-- ITS FALSE NEIGHBOUR: 'it returns false'. Refute it at one input. -/
def amdHeadsWrong : ChangeSpec := { name := "amdHeads", fn := fun _ => fun
  | [d1, d2, d3] => { results := [.lit (.bool false)], args := [d1, d2, d3] }
  | _ => none }
def AmdHeadsWrongFalsely : Prop := amdHeadsRow.holds Try.pinned (OpenSpec.ofChange amdHeadsWrong)

/-- 'bowlinelaw12.PduKinds': WHATEVER THE INPUT: true; the input reads as it did. -/
def pduKindsSpec : ChangeSpec := { name := "pduKinds", fn := fun _ => fun
  | [d1, d2] => { results := [.lit (.bool true)], args := [d1, d2] }
  | _ => none }
def pduKindsRow : OpenClaim := { program := "ytolinlnnbdjimaa", sum := "5ec801f2fc7bfb8c95df8f0a1accd374d98887e560738e16c5c2f5fd64dcf857", func := "bowline/bowlinelaw12.PduKinds", spec := "pduKinds", unfollowed := true, recurses := true, apart := false }
def PduKindsSaid : Prop := pduKindsRow.holds Try.pinned (OpenSpec.ofChange pduKindsSpec)

/-- ITS FALSE NEIGHBOUR: 'it returns false'. Refute it at one input. -/
def pduKindsWrong : ChangeSpec := { name := "pduKinds", fn := fun _ => fun
  | [d1, d2] => { results := [.lit (.bool false)], args := [d1, d2] }
  | _ => none }
def PduKindsWrongFalsely : Prop := pduKindsRow.holds Try.pinned (OpenSpec.ofChange pduKindsWrong)

/-- 'bowlinelaw20.ResegCuts': WHATEVER THE INPUT: true; the input reads as it did. -/
def resegCutsSpec : ChangeSpec := { name := "resegCuts", fn := fun _ => fun
  | [d1, d2, d3, d4, d5] => { results := [.lit (.bool true)], args := [d1, d2, d3, d4, d5] }
  | _ => none }
def resegCutsRow : OpenClaim := { program := "ytolinlnnbdjimaa", sum := "5ec801f2fc7bfb8c95df8f0a1accd374d98887e560738e16c5c2f5fd64dcf857", func := "bowline/bowlinelaw20.ResegCuts", spec := "resegCuts", unfollowed := true, recurses := true, apart := false }
def ResegCutsSaid : Prop := resegCutsRow.holds Try.pinned (OpenSpec.ofChange resegCutsSpec)

/-- ITS FALSE NEIGHBOUR: 'it returns false'. Refute it at one input. -/
def resegCutsWrong : ChangeSpec := { name := "resegCuts", fn := fun _ => fun
  | [d1, d2, d3, d4, d5] => { results := [.lit (.bool false)], args := [d1, d2, d3, d4, d5] }
  | _ => none }
def ResegCutsWrongFalsely : Prop := resegCutsRow.holds Try.pinned (OpenSpec.ofChange resegCutsWrong)

/-- 'bowlinelaw20.ResegFits': WHATEVER THE INPUT: true; the input reads as it did. -/
def resegFitsSpec : ChangeSpec := { name := "resegFits", fn := fun _ => fun
  | [d1, d2, d3, d4, d5] => { results := [.lit (.bool true)], args := [d1, d2, d3, d4, d5] }
  | _ => none }
def resegFitsRow : OpenClaim := { program := "ytolinlnnbdjimaa", sum := "5ec801f2fc7bfb8c95df8f0a1accd374d98887e560738e16c5c2f5fd64dcf857", func := "bowline/bowlinelaw20.ResegFits", spec := "resegFits", unfollowed := true, recurses := true, apart := false }
def ResegFitsSaid : Prop := resegFitsRow.holds Try.pinned (OpenSpec.ofChange resegFitsSpec)

/-- ITS FALSE NEIGHBOUR: 'it returns false'. Refute it at one input. -/
def resegFitsWrong : ChangeSpec := { name := "resegFits", fn := fun _ => fun
  | [d1, d2, d3, d4, d5] => { results := [.lit (.bool false)], args := [d1, d2, d3, d4, d5] }
  | _ => none }
def ResegFitsWrongFalsely : Prop := resegFitsRow.holds Try.pinned (OpenSpec.ofChange resegFitsWrong)

/-- 'bowlinelaw20.ResegWhole': WHATEVER THE INPUT: true; the input reads as it did. -/
def resegWholeSpec : ChangeSpec := { name := "resegWhole", fn := fun _ => fun
  | [d1, d2, d3, d4] => { results := [.lit (.bool true)], args := [d1, d2, d3, d4] }
  | _ => none }
def resegWholeRow : OpenClaim := { program := "ytolinlnnbdjimaa", sum := "5ec801f2fc7bfb8c95df8f0a1accd374d98887e560738e16c5c2f5fd64dcf857", func := "bowline/bowlinelaw20.ResegWhole", spec := "resegWhole", unfollowed := true, recurses := true, apart := false }
def ResegWholeSaid : Prop := resegWholeRow.holds Try.pinned (OpenSpec.ofChange resegWholeSpec)

/-- ITS FALSE NEIGHBOUR: 'it returns false'. Refute it at one input. -/
def resegWholeWrong : ChangeSpec := { name := "resegWhole", fn := fun _ => fun
  | [d1, d2, d3, d4] => { results := [.lit (.bool false)], args := [d1, d2, d3, d4] }
  | _ => none }
def ResegWholeWrongFalsely : Prop := resegWholeRow.holds Try.pinned (OpenSpec.ofChange resegWholeWrong)

/-- 'bowlinelaw20.ResegSame': WHATEVER THE INPUT: true; the input reads as it did. -/
def resegSameSpec : ChangeSpec := { name := "resegSame", fn := fun _ => fun
  | [d1, d2] => { results := [.lit (.bool true)], args := [d1, d2] }
  | _ => none }
def resegSameRow : OpenClaim := { program := "ytolinlnnbdjimaa", sum := "5ec801f2fc7bfb8c95df8f0a1accd374d98887e560738e16c5c2f5fd64dcf857", func := "bowline/bowlinelaw20.ResegSame", spec := "resegSame", unfollowed := true, recurses := true, apart := false }
def ResegSameSaid : Prop := resegSameRow.holds Try.pinned (OpenSpec.ofChange resegSameSpec)

/-- ITS FALSE NEIGHBOUR: 'it returns false'. Refute it at one input. -/
def resegSameWrong : ChangeSpec := { name := "resegSame", fn := fun _ => fun
  | [d1, d2] => { results := [.lit (.bool false)], args := [d1, d2] }
  | _ => none }
def ResegSameWrongFalsely : Prop := resegSameRow.holds Try.pinned (OpenSpec.ofChange resegSameWrong)

/-- 'bowlinelaw19.SentHalves': WHATEVER THE INPUT: true; the input reads as it did. -/
def sentHalvesSpec : ChangeSpec := { name := "sentHalves", fn := fun _ => fun
  | [d1, d2, d3] => { results := [.lit (.bool true)], args := [d1, d2, d3] }
  | _ => none }
def sentHalvesRow : OpenClaim := { program := "ytolinlnnbdjimaa", sum := "5ec801f2fc7bfb8c95df8f0a1accd374d98887e560738e16c5c2f5fd64dcf857", func := "bowline/bowlinelaw19.SentHalves", spec := "sentHalves", unfollowed := true, recurses := true, apart := false }
def SentHalvesSaid : Prop := sentHalvesRow.holds Try.pinned (OpenSpec.ofChange sentHalvesSpec)

/-- ITS FALSE NEIGHBOUR: 'it returns false'. Refute it at one input. -/
def sentHalvesWrong : ChangeSpec := { name := "sentHalves", fn := fun _ => fun
  | [d1, d2, d3] => { results := [.lit (.bool false)], args := [d1, d2, d3] }
  | _ => none }
def SentHalvesWrongFalsely : Prop := sentHalvesRow.holds Try.pinned (OpenSpec.ofChange sentHalvesWrong)

/-- 'bowlinelaw19.SentCounts': WHATEVER THE INPUT: true; the input reads as it did. -/
def sentCountsSpec : ChangeSpec := { name := "sentCounts", fn := fun _ => fun
  | [d1, d2, d3, d4] => { results := [.lit (.bool true)], args := [d1, d2, d3, d4] }
  | _ => none }
def sentCountsRow : OpenClaim := { program := "ytolinlnnbdjimaa", sum := "5ec801f2fc7bfb8c95df8f0a1accd374d98887e560738e16c5c2f5fd64dcf857", func := "bowline/bowlinelaw19.SentCounts", spec := "sentCounts", unfollowed := true, recurses := true, apart := false }
def SentCountsSaid : Prop := sentCountsRow.holds Try.pinned (OpenSpec.ofChange sentCountsSpec)

/-- ITS FALSE NEIGHBOUR: 'it returns false'. Refute it at one input. -/
def sentCountsWrong : ChangeSpec := { name := "sentCounts", fn := fun _ => fun
  | [d1, d2, d3, d4] => { results := [.lit (.bool false)], args := [d1, d2, d3, d4] }
  | _ => none }
def SentCountsWrongFalsely : Prop := sentCountsRow.holds Try.pinned (OpenSpec.ofChange sentCountsWrong)

/-- 'bowlinelaw16.UmtxFits': WHATEVER THE INPUT: true; the input reads as it did. -/
def umtxFitsSpec : ChangeSpec := { name := "umtxFits", fn := fun _ => fun
  | [d1, d2, d3] => { results := [.lit (.bool true)], args := [d1, d2, d3] }
  | _ => none }
def umtxFitsRow : OpenClaim := { program := "ytolinlnnbdjimaa", sum := "5ec801f2fc7bfb8c95df8f0a1accd374d98887e560738e16c5c2f5fd64dcf857", func := "bowline/bowlinelaw16.UmtxFits", spec := "umtxFits", unfollowed := true, recurses := true, apart := false }
def UmtxFitsSaid : Prop := umtxFitsRow.holds Try.pinned (OpenSpec.ofChange umtxFitsSpec)

/-- ITS FALSE NEIGHBOUR: 'it returns false'. Refute it at one input. -/
def umtxFitsWrong : ChangeSpec := { name := "umtxFits", fn := fun _ => fun
  | [d1, d2, d3] => { results := [.lit (.bool false)], args := [d1, d2, d3] }
  | _ => none }
def UmtxFitsWrongFalsely : Prop := umtxFitsRow.holds Try.pinned (OpenSpec.ofChange umtxFitsWrong)

/-- 'bowlinelaw16.UmtxNumbers': WHATEVER THE INPUT: true; the input reads as it did. -/
def umtxNumbersSpec : ChangeSpec := { name := "umtxNumbers", fn := fun _ => fun
  | [d1, d2] => { results := [.lit (.bool true)], args := [d1, d2] }
  | _ => none }
def umtxNumbersRow : OpenClaim := { program := "ytolinlnnbdjimaa", sum := "5ec801f2fc7bfb8c95df8f0a1accd374d98887e560738e16c5c2f5fd64dcf857", func := "bowline/bowlinelaw16.UmtxNumbers", spec := "umtxNumbers", unfollowed := true, recurses := true, apart := false }
def UmtxNumbersSaid : Prop := umtxNumbersRow.holds Try.pinned (OpenSpec.ofChange umtxNumbersSpec)

/-- ITS FALSE NEIGHBOUR: 'it returns false'. Refute it at one input. -/
def umtxNumbersWrong : ChangeSpec := { name := "umtxNumbers", fn := fun _ => fun
  | [d1, d2] => { results := [.lit (.bool false)], args := [d1, d2] }
  | _ => none }
def UmtxNumbersWrongFalsely : Prop := umtxNumbersRow.holds Try.pinned (OpenSpec.ofChange umtxNumbersWrong)

/- THE SECOND FORM. 'bulk': how many values and letters a reading holds, each counted each time it is reached (what is shared counts as often as it is met; a slice's spare places count too). A statement '..UptoSaid' is the law's where the arguments, and the package variables that the reading takes, are together of bulk at most 1048576: NARROWER than '..Said'. Prove '..Said' where nothing that the law and all that it calls make is longer than what came in: it says more and counts as full. Else prove '..UptoSaid'. A law counts once. -/
mutual
def uptoBulk {H : Type} : DataW H → Nat
  | .lit (.string bytes) => bytes.length + 1
  | .lit _ => 1
  | .nil => 1
  | .ptr d => uptoBulk d + 1
  | .slice elems spare => uptoBulkAll elems + uptoBulkAll spare + 1
  | .agg parts => uptoBulkAll parts + 1
  | .iface _ d => uptoBulk d + 1
  | .map entries => uptoBulkEntries entries + 1
  | .held _ => 1
def uptoBulkAll {H : Type} : List (DataW H) → Nat
  | [] => 0
  | d :: r => uptoBulk d + uptoBulkAll r
def uptoBulkEntries {H : Type} : List (Lit × DataW H) → Nat
  | [] => 0
  | x :: r => uptoBulkEntry x + uptoBulkEntries r
def uptoBulkEntry {H : Type} : Lit × DataW H → Nat
  | (.string bytes, d) => bytes.length + uptoBulk d + 1
  | (_, d) => uptoBulk d + 1
 end
def uptoSmall : (H : Type) → List (DataW H) → Bool := fun _ ds => decide (uptoBulkAll ds ≤ 1048576)
def OpenSpec.upto (s : _root_.Go.ChangeSpec) : _root_.Go.OpenSpec := { _root_.Go.OpenSpec.ofChange s with cond := some uptoSmall }

/-- 'bowlinelaw11.StatusGrows', WHERE WHAT IT READS IS OF BULK AT MOST 1048576: true; the input reads as it did. -/
def statusGrowsUptoRow : OpenClaim := { program := "ytolinlnnbdjimaa", sum := "5ec801f2fc7bfb8c95df8f0a1accd374d98887e560738e16c5c2f5fd64dcf857", func := "bowline/bowlinelaw11.StatusGrows", spec := "statusGrows", apart := false, narrowed := true }
def StatusGrowsUptoSaid : Prop := statusGrowsUptoRow.holds Try.pinned (OpenSpec.upto statusGrowsSpec)

/-- 'bowlinelaw10.AmdWrites', WHERE WHAT IT READS IS OF BULK AT MOST 1048576: true; the input reads as it did. -/
def amdWritesUptoRow : OpenClaim := { program := "ytolinlnnbdjimaa", sum := "5ec801f2fc7bfb8c95df8f0a1accd374d98887e560738e16c5c2f5fd64dcf857", func := "bowline/bowlinelaw10.AmdWrites", spec := "amdWrites", unfollowed := true, recurses := true, apart := false, narrowed := true }
def AmdWritesUptoSaid : Prop := amdWritesUptoRow.holds Try.pinned (OpenSpec.upto amdWritesSpec)

/-- 'bowlinelaw10.AmdReads', WHERE WHAT IT READS IS OF BULK AT MOST 1048576: true; the input reads as it did. -/
def amdReadsUptoRow : OpenClaim := { program := "ytolinlnnbdjimaa", sum := "5ec801f2fc7bfb8c95df8f0a1accd374d98887e560738e16c5c2f5fd64dcf857", func := "bowline/bowlinelaw10.AmdReads", spec := "amdReads", unfollowed := true, recurses := true, apart := false, narrowed := true }
def AmdReadsUptoSaid : Prop := amdReadsUptoRow.holds Try.pinned (OpenSpec.upto amdReadsSpec)

/-- 'bowlinelaw10.AmdBack', WHERE WHAT IT READS IS OF BULK AT MOST 1048576: true; the input reads as it did. -/
def amdBackUptoRow : OpenClaim := { program := "ytolinlnnbdjimaa", sum := "5ec801f2fc7bfb8c95df8f0a1accd374d98887e560738e16c5c2f5fd64dcf857", func := "bowline/bowlinelaw10.AmdBack", spec := "amdBack", unfollowed := true, recurses := true, apart := false, narrowed := true }
def AmdBackUptoSaid : Prop := amdBackUptoRow.holds Try.pinned (OpenSpec.upto amdBackSpec)

/-- 'bowlinelaw10.AmdHeads', WHERE WHAT IT READS IS OF BULK AT MOST 1048576: true; the input reads as it did. -/
def amdHeadsUptoRow : OpenClaim := { program := "ytolinlnnbdjimaa", sum := "5ec801f2fc7bfb8c95df8f0a1accd374d98887e560738e16c5c2f5fd64dcf857", func := "bowline/bowlinelaw10.AmdHeads", spec := "amdHeads", unfollowed := true, recurses := true, apart := false, narrowed := true }
def AmdHeadsUptoSaid : Prop := amdHeadsUptoRow.holds Try.pinned (OpenSpec.upto amdHeadsSpec)

/-- 'bowlinelaw12.PduKinds', WHERE WHAT IT READS IS OF BULK AT MOST 1048576: true; the input reads as it did. -/
def pduKindsUptoRow : OpenClaim := { program := "ytolinlnnbdjimaa", sum := "5ec801f2fc7bfb8c95df8f0a1accd374d98887e560738e16c5c2f5fd64dcf857", func := "bowline/bowlinelaw12.PduKinds", spec := "pduKinds", unfollowed := true, recurses := true, apart := false, narrowed := true }
def PduKindsUptoSaid : Prop := pduKindsUptoRow.holds Try.pinned (OpenSpec.upto pduKindsSpec)

/-- 'bowlinelaw20.ResegCuts', WHERE WHAT IT READS IS OF BULK AT MOST 1048576: true; the input reads as it did. -/
def resegCutsUptoRow : OpenClaim := { program := "ytolinlnnbdjimaa", sum := "5ec801f2fc7bfb8c95df8f0a1accd374d98887e560738e16c5c2f5fd64dcf857", func := "bowline/bowlinelaw20.ResegCuts", spec := "resegCuts", unfollowed := true, recurses := true, apart := false, narrowed := true }
def ResegCutsUptoSaid : Prop := resegCutsUptoRow.holds Try.pinned (OpenSpec.upto resegCutsSpec)

/-- 'bowlinelaw20.ResegFits', WHERE WHAT IT READS IS OF BULK AT MOST 1048576: true; the input reads as it did. -/
def resegFitsUptoRow : OpenClaim := { program := "ytolinlnnbdjimaa", sum := "5ec801f2fc7bfb8c95df8f0a1accd374d98887e560738e16c5c2f5fd64dcf857", func := "bowline/bowlinelaw20.ResegFits", spec := "resegFits", unfollowed := true, recurses := true, apart := false, narrowed := true }
def ResegFitsUptoSaid : Prop := resegFitsUptoRow.holds Try.pinned (OpenSpec.upto resegFitsSpec)

/-- 'bowlinelaw20.ResegWhole', WHERE WHAT IT READS IS OF BULK AT MOST 1048576: true; the input reads as it did. -/
def resegWholeUptoRow : OpenClaim := { program := "ytolinlnnbdjimaa", sum := "5ec801f2fc7bfb8c95df8f0a1accd374d98887e560738e16c5c2f5fd64dcf857", func := "bowline/bowlinelaw20.ResegWhole", spec := "resegWhole", unfollowed := true, recurses := true, apart := false, narrowed := true }
def ResegWholeUptoSaid : Prop := resegWholeUptoRow.holds Try.pinned (OpenSpec.upto resegWholeSpec)

/-- 'bowlinelaw20.ResegSame', WHERE WHAT IT READS IS OF BULK AT MOST 1048576: true; the input reads as it did. -/
def resegSameUptoRow : OpenClaim := { program := "ytolinlnnbdjimaa", sum := "5ec801f2fc7bfb8c95df8f0a1accd374d98887e560738e16c5c2f5fd64dcf857", func := "bowline/bowlinelaw20.ResegSame", spec := "resegSame", unfollowed := true, recurses := true, apart := false, narrowed := true }
def ResegSameUptoSaid : Prop := resegSameUptoRow.holds Try.pinned (OpenSpec.upto resegSameSpec)

/-- 'bowlinelaw19.SentHalves', WHERE WHAT IT READS IS OF BULK AT MOST 1048576: true; the input reads as it did. -/
def sentHalvesUptoRow : OpenClaim := { program := "ytolinlnnbdjimaa", sum := "5ec801f2fc7bfb8c95df8f0a1accd374d98887e560738e16c5c2f5fd64dcf857", func := "bowline/bowlinelaw19.SentHalves", spec := "sentHalves", unfollowed := true, recurses := true, apart := false, narrowed := true }
def SentHalvesUptoSaid : Prop := sentHalvesUptoRow.holds Try.pinned (OpenSpec.upto sentHalvesSpec)

/-- 'bowlinelaw19.SentCounts', WHERE WHAT IT READS IS OF BULK AT MOST 1048576: true; the input reads as it did. -/
def sentCountsUptoRow : OpenClaim := { program := "ytolinlnnbdjimaa", sum := "5ec801f2fc7bfb8c95df8f0a1accd374d98887e560738e16c5c2f5fd64dcf857", func := "bowline/bowlinelaw19.SentCounts", spec := "sentCounts", unfollowed := true, recurses := true, apart := false, narrowed := true }
def SentCountsUptoSaid : Prop := sentCountsUptoRow.holds Try.pinned (OpenSpec.upto sentCountsSpec)

/-- 'bowlinelaw16.UmtxFits', WHERE WHAT IT READS IS OF BULK AT MOST 1048576: true; the input reads as it did. -/
def umtxFitsUptoRow : OpenClaim := { program := "ytolinlnnbdjimaa", sum := "5ec801f2fc7bfb8c95df8f0a1accd374d98887e560738e16c5c2f5fd64dcf857", func := "bowline/bowlinelaw16.UmtxFits", spec := "umtxFits", unfollowed := true, recurses := true, apart := false, narrowed := true }
def UmtxFitsUptoSaid : Prop := umtxFitsUptoRow.holds Try.pinned (OpenSpec.upto umtxFitsSpec)

/-- 'bowlinelaw16.UmtxNumbers', WHERE WHAT IT READS IS OF BULK AT MOST 1048576: true; the input reads as it did. -/
def umtxNumbersUptoRow : OpenClaim := { program := "ytolinlnnbdjimaa", sum := "5ec801f2fc7bfb8c95df8f0a1accd374d98887e560738e16c5c2f5fd64dcf857", func := "bowline/bowlinelaw16.UmtxNumbers", spec := "umtxNumbers", unfollowed := true, recurses := true, apart := false, narrowed := true }
def UmtxNumbersUptoSaid : Prop := umtxNumbersUptoRow.holds Try.pinned (OpenSpec.upto umtxNumbersSpec)

end Rows
end Go.Proofs.Ytolinlnnbdjimaa
