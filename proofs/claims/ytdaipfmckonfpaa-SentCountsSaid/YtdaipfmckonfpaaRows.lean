/-
  No cell of these rows narrows 'for every input' (looked for: loops, veiled, ifaces, maps, wideKeys, modest, calm, conditions, laid).
  DERIVED. THE GIVEN ROWS OF THIS SEAT. 12 by the template 'for every input the law returns true; each argument reads behind the call as it read before'; 0 by the template 'total and deterministic' (their statements: YtdaipfmckonfpaaTotals.lean).
  GIVEN WITH THE SEED: the statements are not yours to turn. If you find one false, say at which input.
  Laid BY PROGRAM, IN A SANDBOX (cutbox-rows.mjs): the forced cells as the released guide's own fill.sh prints them over the translation f3de4c908ad8412f… (all of the seat's roots in one cut). By AI agents, Wed Nov 11 2026. No macro, syntax, notation, axiom, sorry.
-/
import Derived.Test.YtdaipfmckonfpaaChecked
import GoSem.Claim
import GoSem.ClaimJoined
import GoSem.ClaimMapViews
import Derived.JoinedTies
import Derived.KernelRfl
namespace Go.Proofs.Ytdaipfmckonfpaa
/- THE CELL 'sum', in the pinned program and in every row, IS THE sha256 OF THE DUMP (.gsa) THAT YtdaipfmckonfpaaProg.lean LOADS. Nothing in Lean hashes anything: it is a label: what it is worth is what the hold of that sum in a sandbox is worth. -/
noncomputable def Try.pinned : Pinned := { name := "ytdaipfmckonfpaa", sum := "f3de4c908ad8412ff05a3a35f17919564a864e7d80e0af35bdd334dde784dac7", checked := Try.checked }
namespace Rows
def none {H : Type} : Left H := { results := [], args := [] }

/-- 'bowlinelaw29.SplitShares': WHATEVER THE INPUT: true; the input reads as it did. -/
def splitSharesSpec : ChangeSpec := { name := "splitShares", fn := fun _ => fun
  | [d1, d2] => { results := [.lit (.bool true)], args := [d1, d2] }
  | _ => none }
def splitSharesRow : OpenClaim := { program := "ytdaipfmckonfpaa", sum := "f3de4c908ad8412ff05a3a35f17919564a864e7d80e0af35bdd334dde784dac7", func := "bowline/bowlinelaw29.SplitShares", spec := "splitShares", unfollowed := true, recurses := true, apart := false }
def SplitSharesSaid : Prop := splitSharesRow.holds Try.pinned (OpenSpec.ofChange splitSharesSpec)

/-- ITS FALSE NEIGHBOUR: 'it returns false'. Refute it at one input. -/
def splitSharesWrong : ChangeSpec := { name := "splitShares", fn := fun _ => fun
  | [d1, d2] => { results := [.lit (.bool false)], args := [d1, d2] }
  | _ => none }
def SplitSharesWrongFalsely : Prop := splitSharesRow.holds Try.pinned (OpenSpec.ofChange splitSharesWrong)

/-- 'bowlinelaw29.SplitAll': WHATEVER THE INPUT: true; the input reads as it did. -/
def splitAllSpec : ChangeSpec := { name := "splitAll", fn := fun _ => fun
  | [d1, d2] => { results := [.lit (.bool true)], args := [d1, d2] }
  | _ => none }
def splitAllRow : OpenClaim := { program := "ytdaipfmckonfpaa", sum := "f3de4c908ad8412ff05a3a35f17919564a864e7d80e0af35bdd334dde784dac7", func := "bowline/bowlinelaw29.SplitAll", spec := "splitAll", unfollowed := true, recurses := true, apart := false }
def SplitAllSaid : Prop := splitAllRow.holds Try.pinned (OpenSpec.ofChange splitAllSpec)

/-- ITS FALSE NEIGHBOUR: 'it returns false'. Refute it at one input. -/
def splitAllWrong : ChangeSpec := { name := "splitAll", fn := fun _ => fun
  | [d1, d2] => { results := [.lit (.bool false)], args := [d1, d2] }
  | _ => none }
def SplitAllWrongFalsely : Prop := splitAllRow.holds Try.pinned (OpenSpec.ofChange splitAllWrong)

/-- 'bowlinelaw29.SplitRanks': WHATEVER THE INPUT: true; the input reads as it did. -/
def splitRanksSpec : ChangeSpec := { name := "splitRanks", fn := fun _ => fun
  | [d1, d2, d3] => { results := [.lit (.bool true)], args := [d1, d2, d3] }
  | _ => none }
def splitRanksRow : OpenClaim := { program := "ytdaipfmckonfpaa", sum := "f3de4c908ad8412ff05a3a35f17919564a864e7d80e0af35bdd334dde784dac7", func := "bowline/bowlinelaw29.SplitRanks", spec := "splitRanks", unfollowed := true, recurses := true, apart := false }
def SplitRanksSaid : Prop := splitRanksRow.holds Try.pinned (OpenSpec.ofChange splitRanksSpec)

/-- ITS FALSE NEIGHBOUR: 'it returns false'. Refute it at one input. -/
def splitRanksWrong : ChangeSpec := { name := "splitRanks", fn := fun _ => fun
  | [d1, d2, d3] => { results := [.lit (.bool false)], args := [d1, d2, d3] }
  | _ => none }
def SplitRanksWrongFalsely : Prop := splitRanksRow.holds Try.pinned (OpenSpec.ofChange splitRanksWrong)

/-- 'bowlinelaw30.MuxWrites': WHATEVER THE INPUT: true; the input reads as it did. -/
def muxWritesSpec : ChangeSpec := { name := "muxWrites", fn := fun _ => fun
  | [d1, d2] => { results := [.lit (.bool true)], args := [d1, d2] }
  | _ => none }
def muxWritesRow : OpenClaim := { program := "ytdaipfmckonfpaa", sum := "f3de4c908ad8412ff05a3a35f17919564a864e7d80e0af35bdd334dde784dac7", func := "bowline/bowlinelaw30.MuxWrites", spec := "muxWrites", unfollowed := true, recurses := true, apart := false }
def MuxWritesSaid : Prop := muxWritesRow.holds Try.pinned (OpenSpec.ofChange muxWritesSpec)

/-- ITS FALSE NEIGHBOUR: 'it returns false'. Refute it at one input. -/
def muxWritesWrong : ChangeSpec := { name := "muxWrites", fn := fun _ => fun
  | [d1, d2] => { results := [.lit (.bool false)], args := [d1, d2] }
  | _ => none }
def MuxWritesWrongFalsely : Prop := muxWritesRow.holds Try.pinned (OpenSpec.ofChange muxWritesWrong)

/-- 'bowlinelaw30.MuxBack': WHATEVER THE INPUT: true; the input reads as it did. -/
def muxBackSpec : ChangeSpec := { name := "muxBack", fn := fun _ => fun
  | [d1, d2] => { results := [.lit (.bool true)], args := [d1, d2] }
  | _ => none }
def muxBackRow : OpenClaim := { program := "ytdaipfmckonfpaa", sum := "f3de4c908ad8412ff05a3a35f17919564a864e7d80e0af35bdd334dde784dac7", func := "bowline/bowlinelaw30.MuxBack", spec := "muxBack", unfollowed := true, recurses := true, apart := false }
def MuxBackSaid : Prop := muxBackRow.holds Try.pinned (OpenSpec.ofChange muxBackSpec)

/-- ITS FALSE NEIGHBOUR: 'it returns false'. Refute it at one input. -/
def muxBackWrong : ChangeSpec := { name := "muxBack", fn := fun _ => fun
  | [d1, d2] => { results := [.lit (.bool false)], args := [d1, d2] }
  | _ => none }
def MuxBackWrongFalsely : Prop := muxBackRow.holds Try.pinned (OpenSpec.ofChange muxBackWrong)

/-- 'bowlinelaw30.MuxTurned': WHATEVER THE INPUT: true; the input reads as it did. -/
def muxTurnedSpec : ChangeSpec := { name := "muxTurned", fn := fun _ => fun
  | [d1, d2, d3] => { results := [.lit (.bool true)], args := [d1, d2, d3] }
  | _ => none }
def muxTurnedRow : OpenClaim := { program := "ytdaipfmckonfpaa", sum := "f3de4c908ad8412ff05a3a35f17919564a864e7d80e0af35bdd334dde784dac7", func := "bowline/bowlinelaw30.MuxTurned", spec := "muxTurned", unfollowed := true, recurses := true, apart := false }
def MuxTurnedSaid : Prop := muxTurnedRow.holds Try.pinned (OpenSpec.ofChange muxTurnedSpec)

/-- ITS FALSE NEIGHBOUR: 'it returns false'. Refute it at one input. -/
def muxTurnedWrong : ChangeSpec := { name := "muxTurned", fn := fun _ => fun
  | [d1, d2, d3] => { results := [.lit (.bool false)], args := [d1, d2, d3] }
  | _ => none }
def MuxTurnedWrongFalsely : Prop := muxTurnedRow.holds Try.pinned (OpenSpec.ofChange muxTurnedWrong)

/-- 'bowlinelaw30.MuxSizes': WHATEVER THE INPUT: true; the input reads as it did. -/
def muxSizesSpec : ChangeSpec := { name := "muxSizes", fn := fun _ => fun
  | [d1, d2] => { results := [.lit (.bool true)], args := [d1, d2] }
  | _ => none }
def muxSizesRow : OpenClaim := { program := "ytdaipfmckonfpaa", sum := "f3de4c908ad8412ff05a3a35f17919564a864e7d80e0af35bdd334dde784dac7", func := "bowline/bowlinelaw30.MuxSizes", spec := "muxSizes", unfollowed := true, recurses := true, apart := false }
def MuxSizesSaid : Prop := muxSizesRow.holds Try.pinned (OpenSpec.ofChange muxSizesSpec)

/-- ITS FALSE NEIGHBOUR: 'it returns false'. Refute it at one input. -/
def muxSizesWrong : ChangeSpec := { name := "muxSizes", fn := fun _ => fun
  | [d1, d2] => { results := [.lit (.bool false)], args := [d1, d2] }
  | _ => none }
def MuxSizesWrongFalsely : Prop := muxSizesRow.holds Try.pinned (OpenSpec.ofChange muxSizesWrong)

/-- 'bowlinelaw19.SentCounts': WHATEVER THE INPUT: true; the input reads as it did. -/
def sentCountsSpec : ChangeSpec := { name := "sentCounts", fn := fun _ => fun
  | [d1, d2, d3, d4] => { results := [.lit (.bool true)], args := [d1, d2, d3, d4] }
  | _ => none }
def sentCountsRow : OpenClaim := { program := "ytdaipfmckonfpaa", sum := "f3de4c908ad8412ff05a3a35f17919564a864e7d80e0af35bdd334dde784dac7", func := "bowline/bowlinelaw19.SentCounts", spec := "sentCounts", unfollowed := true, recurses := true, apart := false }
def SentCountsSaid : Prop := sentCountsRow.holds Try.pinned (OpenSpec.ofChange sentCountsSpec)

/-- ITS FALSE NEIGHBOUR: 'it returns false'. Refute it at one input. -/
def sentCountsWrong : ChangeSpec := { name := "sentCounts", fn := fun _ => fun
  | [d1, d2, d3, d4] => { results := [.lit (.bool false)], args := [d1, d2, d3, d4] }
  | _ => none }
def SentCountsWrongFalsely : Prop := sentCountsRow.holds Try.pinned (OpenSpec.ofChange sentCountsWrong)

/-- 'bowlinelaw19.SentHalves': WHATEVER THE INPUT: true; the input reads as it did. -/
def sentHalvesSpec : ChangeSpec := { name := "sentHalves", fn := fun _ => fun
  | [d1, d2, d3] => { results := [.lit (.bool true)], args := [d1, d2, d3] }
  | _ => none }
def sentHalvesRow : OpenClaim := { program := "ytdaipfmckonfpaa", sum := "f3de4c908ad8412ff05a3a35f17919564a864e7d80e0af35bdd334dde784dac7", func := "bowline/bowlinelaw19.SentHalves", spec := "sentHalves", unfollowed := true, recurses := true, apart := false }
def SentHalvesSaid : Prop := sentHalvesRow.holds Try.pinned (OpenSpec.ofChange sentHalvesSpec)

/-- ITS FALSE NEIGHBOUR: 'it returns false'. Refute it at one input. -/
def sentHalvesWrong : ChangeSpec := { name := "sentHalves", fn := fun _ => fun
  | [d1, d2, d3] => { results := [.lit (.bool false)], args := [d1, d2, d3] }
  | _ => none }
def SentHalvesWrongFalsely : Prop := sentHalvesRow.holds Try.pinned (OpenSpec.ofChange sentHalvesWrong)

/-- 'bowlinelaw24.RxbufTwice': WHATEVER THE INPUT: true; the input reads as it did. -/
def rxbufTwiceSpec : ChangeSpec := { name := "rxbufTwice", fn := fun _ => fun
  | [d] => { results := [.lit (.bool true)], args := [d] }
  | _ => none }
def rxbufTwiceRow : OpenClaim := { program := "ytdaipfmckonfpaa", sum := "f3de4c908ad8412ff05a3a35f17919564a864e7d80e0af35bdd334dde784dac7", func := "bowline/bowlinelaw24.RxbufTwice", spec := "rxbufTwice", unfollowed := true, recurses := true, apart := false }
def RxbufTwiceSaid : Prop := rxbufTwiceRow.holds Try.pinned (OpenSpec.ofChange rxbufTwiceSpec)

/-- ITS FALSE NEIGHBOUR: 'it returns false'. Refute it at one input. -/
def rxbufTwiceWrong : ChangeSpec := { name := "rxbufTwice", fn := fun _ => fun
  | [d] => { results := [.lit (.bool false)], args := [d] }
  | _ => none }
def RxbufTwiceWrongFalsely : Prop := rxbufTwiceRow.holds Try.pinned (OpenSpec.ofChange rxbufTwiceWrong)

/-- 'bowlinelaw24.RxbufMakes': WHATEVER THE INPUT: true; the input reads as it did. -/
def rxbufMakesSpec : ChangeSpec := { name := "rxbufMakes", fn := fun _ => fun
  | [d1, d2, d3, d4] => { results := [.lit (.bool true)], args := [d1, d2, d3, d4] }
  | _ => none }
def rxbufMakesRow : OpenClaim := { program := "ytdaipfmckonfpaa", sum := "f3de4c908ad8412ff05a3a35f17919564a864e7d80e0af35bdd334dde784dac7", func := "bowline/bowlinelaw24.RxbufMakes", spec := "rxbufMakes", unfollowed := true, recurses := true, apart := false }
def RxbufMakesSaid : Prop := rxbufMakesRow.holds Try.pinned (OpenSpec.ofChange rxbufMakesSpec)

/-- ITS FALSE NEIGHBOUR: 'it returns false'. Refute it at one input. -/
def rxbufMakesWrong : ChangeSpec := { name := "rxbufMakes", fn := fun _ => fun
  | [d1, d2, d3, d4] => { results := [.lit (.bool false)], args := [d1, d2, d3, d4] }
  | _ => none }
def RxbufMakesWrongFalsely : Prop := rxbufMakesRow.holds Try.pinned (OpenSpec.ofChange rxbufMakesWrong)

/-- 'bowlinelaw24.RxbufLives': WHATEVER THE INPUT: true; the input reads as it did. -/
def rxbufLivesSpec : ChangeSpec := { name := "rxbufLives", fn := fun _ => fun
  | [d] => { results := [.lit (.bool true)], args := [d] }
  | _ => none }
def rxbufLivesRow : OpenClaim := { program := "ytdaipfmckonfpaa", sum := "f3de4c908ad8412ff05a3a35f17919564a864e7d80e0af35bdd334dde784dac7", func := "bowline/bowlinelaw24.RxbufLives", spec := "rxbufLives", unfollowed := true, recurses := true, apart := false }
def RxbufLivesSaid : Prop := rxbufLivesRow.holds Try.pinned (OpenSpec.ofChange rxbufLivesSpec)

/-- ITS FALSE NEIGHBOUR: 'it returns false'. Refute it at one input. -/
def rxbufLivesWrong : ChangeSpec := { name := "rxbufLives", fn := fun _ => fun
  | [d] => { results := [.lit (.bool false)], args := [d] }
  | _ => none }
def RxbufLivesWrongFalsely : Prop := rxbufLivesRow.holds Try.pinned (OpenSpec.ofChange rxbufLivesWrong)

/- THE SECOND FORM. 'bulk': how many values and letters a reading holds, each counted each time it is reached (what is shared counts as often as it is met; a slice's spare places count too). A statement '..UptoSaid' is the law's where the arguments, and the package variables that the reading takes, are together of bulk at most 1048576: NARROWER than '..Said'. Prove '..Said' where nothing that the law and all that it calls make is longer than what came in: it says more and counts as full. Else prove '..UptoSaid'. A law counts once. -/
mutual
def uptoBulk {H : Type} : DataW H → Nat
  | .lit (.string bytes) => bytes.length + 1
  | .lit _ => 1
  | .nil => 1
  | .ptr d => uptoBulk d + 1
  | .slice elems spare => uptoBulkAll elems + uptoBulkAll spare + 1
  | .agg parts => uptoBulkAll parts + 1
  | .iface _ d => uptoBulk d + 1
  | .map entries => uptoBulkEntries entries + 1
  | .held _ => 1
def uptoBulkAll {H : Type} : List (DataW H) → Nat
  | [] => 0
  | d :: r => uptoBulk d + uptoBulkAll r
def uptoBulkEntries {H : Type} : List (Lit × DataW H) → Nat
  | [] => 0
  | x :: r => uptoBulkEntry x + uptoBulkEntries r
def uptoBulkEntry {H : Type} : Lit × DataW H → Nat
  | (.string bytes, d) => bytes.length + uptoBulk d + 1
  | (_, d) => uptoBulk d + 1
 end
def uptoSmall : (H : Type) → List (DataW H) → Bool := fun _ ds => decide (uptoBulkAll ds ≤ 1048576)
def OpenSpec.upto (s : _root_.Go.ChangeSpec) : _root_.Go.OpenSpec := { _root_.Go.OpenSpec.ofChange s with cond := some uptoSmall }

/-- 'bowlinelaw29.SplitShares', WHERE WHAT IT READS IS OF BULK AT MOST 1048576: true; the input reads as it did. -/
def splitSharesUptoRow : OpenClaim := { program := "ytdaipfmckonfpaa", sum := "f3de4c908ad8412ff05a3a35f17919564a864e7d80e0af35bdd334dde784dac7", func := "bowline/bowlinelaw29.SplitShares", spec := "splitShares", unfollowed := true, recurses := true, apart := false, narrowed := true }
def SplitSharesUptoSaid : Prop := splitSharesUptoRow.holds Try.pinned (OpenSpec.upto splitSharesSpec)

/-- 'bowlinelaw29.SplitAll', WHERE WHAT IT READS IS OF BULK AT MOST 1048576: true; the input reads as it did. -/
def splitAllUptoRow : OpenClaim := { program := "ytdaipfmckonfpaa", sum := "f3de4c908ad8412ff05a3a35f17919564a864e7d80e0af35bdd334dde784dac7", func := "bowline/bowlinelaw29.SplitAll", spec := "splitAll", unfollowed := true, recurses := true, apart := false, narrowed := true }
def SplitAllUptoSaid : Prop := splitAllUptoRow.holds Try.pinned (OpenSpec.upto splitAllSpec)

/-- 'bowlinelaw29.SplitRanks', WHERE WHAT IT READS IS OF BULK AT MOST 1048576: true; the input reads as it did. -/
def splitRanksUptoRow : OpenClaim := { program := "ytdaipfmckonfpaa", sum := "f3de4c908ad8412ff05a3a35f17919564a864e7d80e0af35bdd334dde784dac7", func := "bowline/bowlinelaw29.SplitRanks", spec := "splitRanks", unfollowed := true, recurses := true, apart := false, narrowed := true }
def SplitRanksUptoSaid : Prop := splitRanksUptoRow.holds Try.pinned (OpenSpec.upto splitRanksSpec)

/-- 'bowlinelaw30.MuxWrites', WHERE WHAT IT READS IS OF BULK AT MOST 1048576: true; the input reads as it did. -/
def muxWritesUptoRow : OpenClaim := { program := "ytdaipfmckonfpaa", sum := "f3de4c908ad8412ff05a3a35f17919564a864e7d80e0af35bdd334dde784dac7", func := "bowline/bowlinelaw30.MuxWrites", spec := "muxWrites", unfollowed := true, recurses := true, apart := false, narrowed := true }
def MuxWritesUptoSaid : Prop := muxWritesUptoRow.holds Try.pinned (OpenSpec.upto muxWritesSpec)

/-- 'bowlinelaw30.MuxBack', WHERE WHAT IT READS IS OF BULK AT MOST 1048576: true; the input reads as it did. -/
def muxBackUptoRow : OpenClaim := { program := "ytdaipfmckonfpaa", sum := "f3de4c908ad8412ff05a3a35f17919564a864e7d80e0af35bdd334dde784dac7", func := "bowline/bowlinelaw30.MuxBack", spec := "muxBack", unfollowed := true, recurses := true, apart := false, narrowed := true }
def MuxBackUptoSaid : Prop := muxBackUptoRow.holds Try.pinned (OpenSpec.upto muxBackSpec)

/-- 'bowlinelaw30.MuxTurned', WHERE WHAT IT READS IS OF BULK AT MOST 1048576: true; the input reads as it did. -/
def muxTurnedUptoRow : OpenClaim := { program := "ytdaipfmckonfpaa", sum := "f3de4c908ad8412ff05a3a35f17919564a864e7d80e0af35bdd334dde784dac7", func := "bowline/bowlinelaw30.MuxTurned", spec := "muxTurned", unfollowed := true, recurses := true, apart := false, narrowed := true }
def MuxTurnedUptoSaid : Prop := muxTurnedUptoRow.holds Try.pinned (OpenSpec.upto muxTurnedSpec)

/-- 'bowlinelaw30.MuxSizes', WHERE WHAT IT READS IS OF BULK AT MOST 1048576: true; the input reads as it did. -/
def muxSizesUptoRow : OpenClaim := { program := "ytdaipfmckonfpaa", sum := "f3de4c908ad8412ff05a3a35f17919564a864e7d80e0af35bdd334dde784dac7", func := "bowline/bowlinelaw30.MuxSizes", spec := "muxSizes", unfollowed := true, recurses := true, apart := false, narrowed := true }
def MuxSizesUptoSaid : Prop := muxSizesUptoRow.holds Try.pinned (OpenSpec.upto muxSizesSpec)

/-- 'bowlinelaw19.SentCounts', WHERE WHAT IT READS IS OF BULK AT MOST 1048576: true; the input reads as it did. -/
def sentCountsUptoRow : OpenClaim := { program := "ytdaipfmckonfpaa", sum := "f3de4c908ad8412ff05a3a35f17919564a864e7d80e0af35bdd334dde784dac7", func := "bowline/bowlinelaw19.SentCounts", spec := "sentCounts", unfollowed := true, recurses := true, apart := false, narrowed := true }
def SentCountsUptoSaid : Prop := sentCountsUptoRow.holds Try.pinned (OpenSpec.upto sentCountsSpec)

/-- 'bowlinelaw19.SentHalves', WHERE WHAT IT READS IS OF BULK AT MOST 1048576: true; the input reads as it did. -/
def sentHalvesUptoRow : OpenClaim := { program := "ytdaipfmckonfpaa", sum := "f3de4c908ad8412ff05a3a35f17919564a864e7d80e0af35bdd334dde784dac7", func := "bowline/bowlinelaw19.SentHalves", spec := "sentHalves", unfollowed := true, recurses := true, apart := false, narrowed := true }
def SentHalvesUptoSaid : Prop := sentHalvesUptoRow.holds Try.pinned (OpenSpec.upto sentHalvesSpec)

/-- 'bowlinelaw24.RxbufTwice', WHERE WHAT IT READS IS OF BULK AT MOST 1048576: true; the input reads as it did. -/
def rxbufTwiceUptoRow : OpenClaim := { program := "ytdaipfmckonfpaa", sum := "f3de4c908ad8412ff05a3a35f17919564a864e7d80e0af35bdd334dde784dac7", func := "bowline/bowlinelaw24.RxbufTwice", spec := "rxbufTwice", unfollowed := true, recurses := true, apart := false, narrowed := true }
def RxbufTwiceUptoSaid : Prop := rxbufTwiceUptoRow.holds Try.pinned (OpenSpec.upto rxbufTwiceSpec)

/-- 'bowlinelaw24.RxbufMakes', WHERE WHAT IT READS IS OF BULK AT MOST 1048576: true; the input reads as it did. -/
def rxbufMakesUptoRow : OpenClaim := { program := "ytdaipfmckonfpaa", sum := "f3de4c908ad8412ff05a3a35f17919564a864e7d80e0af35bdd334dde784dac7", func := "bowline/bowlinelaw24.RxbufMakes", spec := "rxbufMakes", unfollowed := true, recurses := true, apart := false, narrowed := true }
def RxbufMakesUptoSaid : Prop := rxbufMakesUptoRow.holds Try.pinned (OpenSpec.upto rxbufMakesSpec)

/-- 'bowlinelaw24.RxbufLives', WHERE WHAT IT READS IS OF BULK AT MOST 1048576: true; the input reads as it did. -/
def rxbufLivesUptoRow : OpenClaim := { program := "ytdaipfmckonfpaa", sum := "f3de4c908ad8412ff05a3a35f17919564a864e7d80e0af35bdd334dde784dac7", func := "bowline/bowlinelaw24.RxbufLives", spec := "rxbufLives", unfollowed := true, recurses := true, apart := false, narrowed := true }
def RxbufLivesUptoSaid : Prop := rxbufLivesUptoRow.holds Try.pinned (OpenSpec.upto rxbufLivesSpec)

end Rows
end Go.Proofs.Ytdaipfmckonfpaa
