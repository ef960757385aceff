/-
  No cell of these rows narrows 'for every input' (looked for: loops, veiled, ifaces, maps, wideKeys, modest, calm, conditions, laid).
  DERIVED. THE GIVEN ROWS OF THIS SEAT. 11 by the template 'for every input the law returns true; each argument reads behind the call as it read before'; 0 by the template 'total and deterministic' (their statements: YtdlgceddhlagnaaTotals.lean).
  GIVEN WITH THE SEED: the statements are not yours to turn. If you find one false, say at which input.
  Laid BY PROGRAM, IN A SANDBOX (cutbox-rows.mjs): the forced cells as the released guide's own fill.sh prints them over the translation fe085ac657875dc2… (all of the seat's roots in one cut). By AI agents, Wed Nov 11 2026. No macro, syntax, notation, axiom, sorry.
-/
import Derived.Test.YtdlgceddhlagnaaChecked
import GoSem.Claim
import GoSem.ClaimJoined
import GoSem.ClaimMapViews
import Derived.JoinedTies
import Derived.KernelRfl
namespace Go.Proofs.Ytdlgceddhlagnaa
/- THE CELL 'sum', in the pinned program and in every row, IS THE sha256 OF THE DUMP (.gsa) THAT YtdlgceddhlagnaaProg.lean LOADS. Nothing in Lean hashes anything: it is a label: what it is worth is what the hold of that sum in a sandbox is worth. -/
noncomputable def Try.pinned : Pinned := { name := "ytdlgceddhlagnaa", sum := "fe085ac657875dc2fcb1f2621e24a9480ff4f79fdb2faf2e3a8b72c65c0f3021", checked := Try.checked }
namespace Rows
def none {H : Type} : Left H := { results := [], args := [] }

/-- 'bowlinelaw09.UmdGrows': WHATEVER THE INPUT: true; the input reads as it did. -/
def umdGrowsSpec : ChangeSpec := { name := "umdGrows", fn := fun _ => fun
  | [d1, d2] => { results := [.lit (.bool true)], args := [d1, d2] }
  | _ => none }
def umdGrowsRow : OpenClaim := { program := "ytdlgceddhlagnaa", sum := "fe085ac657875dc2fcb1f2621e24a9480ff4f79fdb2faf2e3a8b72c65c0f3021", func := "bowline/bowlinelaw09.UmdGrows", spec := "umdGrows", unfollowed := true, recurses := true, apart := false }
def UmdGrowsSaid : Prop := umdGrowsRow.holds Try.pinned (OpenSpec.ofChange umdGrowsSpec)

/-- ITS FALSE NEIGHBOUR: 'it returns false'. Refute it at one input. -/
def umdGrowsWrong : ChangeSpec := { name := "umdGrows", fn := fun _ => fun
  | [d1, d2] => { results := [.lit (.bool false)], args := [d1, d2] }
  | _ => none }
def UmdGrowsWrongFalsely : Prop := umdGrowsRow.holds Try.pinned (OpenSpec.ofChange umdGrowsWrong)

/-- 'bowlinelaw10.AmdWrites': WHATEVER THE INPUT: true; the input reads as it did. -/
def amdWritesSpec : ChangeSpec := { name := "amdWrites", fn := fun _ => fun
  | [d1, d2, d3] => { results := [.lit (.bool true)], args := [d1, d2, d3] }
  | _ => none }
def amdWritesRow : OpenClaim := { program := "ytdlgceddhlagnaa", sum := "fe085ac657875dc2fcb1f2621e24a9480ff4f79fdb2faf2e3a8b72c65c0f3021", func := "bowline/bowlinelaw10.AmdWrites", spec := "amdWrites", unfollowed := true, recurses := true, apart := false }
def AmdWritesSaid : Prop := amdWritesRow.holds Try.pinned (OpenSpec.ofChange amdWritesSpec)

/-- ITS FALSE NEIGHBOUR: 'it returns false'. Refute it at one input. -/
def amdWritesWrong : ChangeSpec := { name := "amdWrites", fn := fun _ => fun
  | [d1, d2, d3] => { results := [.lit (.bool false)], args := [d1, d2, d3] }
  | _ => none }
def AmdWritesWrongFalsely : Prop := amdWritesRow.holds Try.pinned (OpenSpec.ofChange amdWritesWrong)

/-- 'bowlinelaw10.AmdReads': WHATEVER THE INPUT: true; the input reads as it did. -/
def amdReadsSpec : ChangeSpec := { name := "amdReads", fn := fun _ => fun
  | [d1, d2] => { results := [.lit (.bool true)], args := [d1, d2] }
  | _ => none }
def amdReadsRow : OpenClaim := { program := "ytdlgceddhlagnaa", sum := "fe085ac657875dc2fcb1f2621e24a9480ff4f79fdb2faf2e3a8b72c65c0f3021", func := "bowline/bowlinelaw10.AmdReads", spec := "amdReads", unfollowed := true, recurses := true, apart := false }
def AmdReadsSaid : Prop := amdReadsRow.holds Try.pinned (OpenSpec.ofChange amdReadsSpec)

/-- ITS FALSE NEIGHBOUR: 'it returns false'. Refute it at one input. -/
def amdReadsWrong : ChangeSpec := { name := "amdReads", fn := fun _ => fun
  | [d1, d2] => { results := [.lit (.bool false)], args := [d1, d2] }
  | _ => none }
def AmdReadsWrongFalsely : Prop := amdReadsRow.holds Try.pinned (OpenSpec.ofChange amdReadsWrong)

/-- 'bowlinelaw10.AmdBack': WHATEVER THE INPUT: true; the input reads as it did. -/
def amdBackSpec : ChangeSpec := { name := "amdBack", fn := fun _ => fun
  | [d1, d2, d3] => { results := [.lit (.bool true)], args := [d1, d2, d3] }
  | _ => none }
def amdBackRow : OpenClaim := { program := "ytdlgceddhlagnaa", sum := "fe085ac657875dc2fcb1f2621e24a9480ff4f79fdb2faf2e3a8b72c65c0f3021", func := "bowline/bowlinelaw10.AmdBack", spec := "amdBack", unfollowed := true, recurses := true, apart := false }
def AmdBackSaid : Prop := amdBackRow.holds Try.pinned (OpenSpec.ofChange amdBackSpec)

/-- ITS FALSE NEIGHBOUR: 'it returns false'. Refute it at one input. -/
def amdBackWrong : ChangeSpec := { name := "amdBack", fn := fun _ => fun
  | [d1, d2, d3] => { results := [.lit (.bool false)], args := [d1, d2, d3] }
  | _ => none }
def AmdBackWrongFalsely : Prop := amdBackRow.holds Try.pinned (OpenSpec.ofChange amdBackWrong)

/-- 'bowlinelaw10.AmdHeads': WHATEVER THE INPUT: true; the input reads as it did. -/
def amdHeadsSpec : ChangeSpec := { name := "amdHeads", fn := fun _ => fun
  | [d1, d2, d3] => { results := [.lit (.bool true)], args := [d1, d2, d3] }
  | _ => none }
def amdHeadsRow : OpenClaim := { program := "ytdlgceddhlagnaa", sum := "fe085ac657875dc2fcb1f2621e24a9480ff4f79fdb2faf2e3a8b72c65c0f3021", func := "bowline/bowlinelaw10.AmdHeads", spec := "amdHeads", unfollowed := true, recurses := true, apart := false }
def AmdHeadsSaid : Prop := amdHeadsRow.holds Try.pinned (OpenSpec.ofChange amdHeadsSpec)

/-- ITS FALSE NEIGHBOUR: 'it returns false'. Refute it at one input. -/
def amdHeadsWrong : ChangeSpec := { name := "amdHeads", fn := fun _ => fun
  | [d1, d2, d3] => { results := [.lit (.bool false)], args := [d1, d2, d3] }
  | _ => none }
def AmdHeadsWrongFalsely : Prop := amdHeadsRow.holds Try.pinned (OpenSpec.ofChange amdHeadsWrong)

/-- 'bowlinelaw11.StatusWrites': WHATEVER THE INPUT: true; the input reads as it did. -/
def statusWritesSpec : ChangeSpec := { name := "statusWrites", fn := fun _ => fun
  | [d1, d2, d3] => { results := [.lit (.bool true)], args := [d1, d2, d3] }
  | _ => none }
def statusWritesRow : OpenClaim := { program := "ytdlgceddhlagnaa", sum := "fe085ac657875dc2fcb1f2621e24a9480ff4f79fdb2faf2e3a8b72c65c0f3021", func := "bowline/bowlinelaw11.StatusWrites", spec := "statusWrites", apart := false }
def StatusWritesSaid : Prop := statusWritesRow.holds Try.pinned (OpenSpec.ofChange statusWritesSpec)

/-- ITS FALSE NEIGHBOUR: 'it returns false'. Refute it at one input. -/
def statusWritesWrong : ChangeSpec := { name := "statusWrites", fn := fun _ => fun
  | [d1, d2, d3] => { results := [.lit (.bool false)], args := [d1, d2, d3] }
  | _ => none }
def StatusWritesWrongFalsely : Prop := statusWritesRow.holds Try.pinned (OpenSpec.ofChange statusWritesWrong)

/-- 'bowlinelaw11.StatusReads': WHATEVER THE INPUT: true; the input reads as it did. -/
def statusReadsSpec : ChangeSpec := { name := "statusReads", fn := fun _ => fun
  | [d1, d2] => { results := [.lit (.bool true)], args := [d1, d2] }
  | _ => none }
def statusReadsRow : OpenClaim := { program := "ytdlgceddhlagnaa", sum := "fe085ac657875dc2fcb1f2621e24a9480ff4f79fdb2faf2e3a8b72c65c0f3021", func := "bowline/bowlinelaw11.StatusReads", spec := "statusReads", apart := false }
def StatusReadsSaid : Prop := statusReadsRow.holds Try.pinned (OpenSpec.ofChange statusReadsSpec)

/-- ITS FALSE NEIGHBOUR: 'it returns false'. Refute it at one input. -/
def statusReadsWrong : ChangeSpec := { name := "statusReads", fn := fun _ => fun
  | [d1, d2] => { results := [.lit (.bool false)], args := [d1, d2] }
  | _ => none }
def StatusReadsWrongFalsely : Prop := statusReadsRow.holds Try.pinned (OpenSpec.ofChange statusReadsWrong)

/-- 'bowlinelaw11.StatusBack': WHATEVER THE INPUT: true; the input reads as it did. -/
def statusBackSpec : ChangeSpec := { name := "statusBack", fn := fun _ => fun
  | [d1, d2, d3] => { results := [.lit (.bool true)], args := [d1, d2, d3] }
  | _ => none }
def statusBackRow : OpenClaim := { program := "ytdlgceddhlagnaa", sum := "fe085ac657875dc2fcb1f2621e24a9480ff4f79fdb2faf2e3a8b72c65c0f3021", func := "bowline/bowlinelaw11.StatusBack", spec := "statusBack", apart := false }
def StatusBackSaid : Prop := statusBackRow.holds Try.pinned (OpenSpec.ofChange statusBackSpec)

/-- ITS FALSE NEIGHBOUR: 'it returns false'. Refute it at one input. -/
def statusBackWrong : ChangeSpec := { name := "statusBack", fn := fun _ => fun
  | [d1, d2, d3] => { results := [.lit (.bool false)], args := [d1, d2, d3] }
  | _ => none }
def StatusBackWrongFalsely : Prop := statusBackRow.holds Try.pinned (OpenSpec.ofChange statusBackWrong)

/-- 'bowlinelaw11.StatusGrows': WHATEVER THE INPUT: true; the input reads as it did. -/
def statusGrowsSpec : ChangeSpec := { name := "statusGrows", fn := fun _ => fun
  | [d1, d2, d3] => { results := [.lit (.bool true)], args := [d1, d2, d3] }
  | _ => none }
def statusGrowsRow : OpenClaim := { program := "ytdlgceddhlagnaa", sum := "fe085ac657875dc2fcb1f2621e24a9480ff4f79fdb2faf2e3a8b72c65c0f3021", func := "bowline/bowlinelaw11.StatusGrows", spec := "statusGrows", apart := false }
def StatusGrowsSaid : Prop := statusGrowsRow.holds Try.pinned (OpenSpec.ofChange statusGrowsSpec)

/-- ITS FALSE NEIGHBOUR: 'it returns false'. Refute it at one input. -/
def statusGrowsWrong : ChangeSpec := { name := "statusGrows", fn := fun _ => fun
  | [d1, d2, d3] => { results := [.lit (.bool false)], args := [d1, d2, d3] }
  | _ => none }
def StatusGrowsWrongFalsely : Prop := statusGrowsRow.holds Try.pinned (OpenSpec.ofChange statusGrowsWrong)

/-- 'bowlinelaw12.PduConfigs': WHATEVER THE INPUT: true; the input reads as it did. -/
def pduConfigsSpec : ChangeSpec := { name := "pduConfigs", fn := fun _ => fun
  | [d1, d2] => { results := [.lit (.bool true)], args := [d1, d2] }
  | _ => none }
def pduConfigsRow : OpenClaim := { program := "ytdlgceddhlagnaa", sum := "fe085ac657875dc2fcb1f2621e24a9480ff4f79fdb2faf2e3a8b72c65c0f3021", func := "bowline/bowlinelaw12.PduConfigs", spec := "pduConfigs", unfollowed := true, recurses := true, apart := false }
def PduConfigsSaid : Prop := pduConfigsRow.holds Try.pinned (OpenSpec.ofChange pduConfigsSpec)

/-- ITS FALSE NEIGHBOUR: 'it returns false'. Refute it at one input. -/
def pduConfigsWrong : ChangeSpec := { name := "pduConfigs", fn := fun _ => fun
  | [d1, d2] => { results := [.lit (.bool false)], args := [d1, d2] }
  | _ => none }
def PduConfigsWrongFalsely : Prop := pduConfigsRow.holds Try.pinned (OpenSpec.ofChange pduConfigsWrong)

/-- 'bowlinelaw12.PduKinds': WHATEVER THE INPUT: true; the input reads as it did. -/
def pduKindsSpec : ChangeSpec := { name := "pduKinds", fn := fun _ => fun
  | [d1, d2] => { results := [.lit (.bool true)], args := [d1, d2] }
  | _ => none }
def pduKindsRow : OpenClaim := { program := "ytdlgceddhlagnaa", sum := "fe085ac657875dc2fcb1f2621e24a9480ff4f79fdb2faf2e3a8b72c65c0f3021", func := "bowline/bowlinelaw12.PduKinds", spec := "pduKinds", unfollowed := true, recurses := true, apart := false }
def PduKindsSaid : Prop := pduKindsRow.holds Try.pinned (OpenSpec.ofChange pduKindsSpec)

/-- ITS FALSE NEIGHBOUR: 'it returns false'. Refute it at one input. -/
def pduKindsWrong : ChangeSpec := { name := "pduKinds", fn := fun _ => fun
  | [d1, d2] => { results := [.lit (.bool false)], args := [d1, d2] }
  | _ => none }
def PduKindsWrongFalsely : Prop := pduKindsRow.holds Try.pinned (OpenSpec.ofChange pduKindsWrong)

/- THE SECOND FORM. 'bulk': how many values and letters a reading holds, each counted each time it is reached (what is shared counts as often as it is met; a slice's spare places count too). A statement '..UptoSaid' is the law's where the arguments, and the package variables that the reading takes, are together of bulk at most 1048576: NARROWER than '..Said'. Prove '..Said' where nothing that the law and all that it calls make is longer than what came in: it says more and counts as full. Else prove '..UptoSaid'. A law counts once. -/
mutual
def uptoBulk {H : Type} : DataW H → Nat
  | .lit (.string bytes) => bytes.length + 1
  | .lit _ => 1
  | .nil => 1
  | .ptr d => uptoBulk d + 1
  | .slice elems spare => uptoBulkAll elems + uptoBulkAll spare + 1
  | .agg parts => uptoBulkAll parts + 1
  | .iface _ d => uptoBulk d + 1
  | .map entries => uptoBulkEntries entries + 1
  | .held _ => 1
def uptoBulkAll {H : Type} : List (DataW H) → Nat
  | [] => 0
  | d :: r => uptoBulk d + uptoBulkAll r
def uptoBulkEntries {H : Type} : List (Lit × DataW H) → Nat
  | [] => 0
  | x :: r => uptoBulkEntry x + uptoBulkEntries r
def uptoBulkEntry {H : Type} : Lit × DataW H → Nat
  | (.string bytes, d) => bytes.length + uptoBulk d + 1
  | (_, d) => uptoBulk d + 1
 end
def uptoSmall : (H : Type) → List (DataW H) → Bool := fun _ ds => decide (uptoBulkAll ds ≤ 1048576)
def OpenSpec.upto (s : _root_.Go.ChangeSpec) : _root_.Go.OpenSpec := { _root_.Go.OpenSpec.ofChange s with cond := some uptoSmall }

/-- 'bowlinelaw09.UmdGrows', WHERE WHAT IT READS IS OF BULK AT MOST 1048576: true; the input reads as it did. -/
def umdGrowsUptoRow : OpenClaim := { program := "ytdlgceddhlagnaa", sum := "fe085ac657875dc2fcb1f2621e24a9480ff4f79fdb2faf2e3a8b72c65c0f3021", func := "bowline/bowlinelaw09.UmdGrows", spec := "umdGrows", unfollowed := true, recurses := true, apart := false, narrowed := true }
def UmdGrowsUptoSaid : Prop := umdGrowsUptoRow.holds Try.pinned (OpenSpec.upto umdGrowsSpec)

/-- 'bowlinelaw10.AmdWrites', WHERE WHAT IT READS IS OF BULK AT MOST 1048576: true; the input reads as it did. -/
def amdWritesUptoRow : OpenClaim := { program := "ytdlgceddhlagnaa", sum := "fe085ac657875dc2fcb1f2621e24a9480ff4f79fdb2faf2e3a8b72c65c0f3021", func := "bowline/bowlinelaw10.AmdWrites", spec := "amdWrites", unfollowed := true, recurses := true, apart := false, narrowed := true }
def AmdWritesUptoSaid : Prop := amdWritesUptoRow.holds Try.pinned (OpenSpec.upto amdWritesSpec)

/-- 'bowlinelaw10.AmdReads', WHERE WHAT IT READS IS OF BULK AT MOST 1048576: true; the input reads as it did. -/
def amdReadsUptoRow : OpenClaim := { program := "ytdlgceddhlagnaa", sum := "fe085ac657875dc2fcb1f2621e24a9480ff4f79fdb2faf2e3a8b72c65c0f3021", func := "bowline/bowlinelaw10.AmdReads", spec := "amdReads", unfollowed := true, recurses := true, apart := false, narrowed := true }
def AmdReadsUptoSaid : Prop := amdReadsUptoRow.holds Try.pinned (OpenSpec.upto amdReadsSpec)

/-- 'bowlinelaw10.AmdBack', WHERE WHAT IT READS IS OF BULK AT MOST 1048576: true; the input reads as it did. -/
def amdBackUptoRow : OpenClaim := { program := "ytdlgceddhlagnaa", sum := "fe085ac657875dc2fcb1f2621e24a9480ff4f79fdb2faf2e3a8b72c65c0f3021", func := "bowline/bowlinelaw10.AmdBack", spec := "amdBack", unfollowed := true, recurses := true, apart := false, narrowed := true }
def AmdBackUptoSaid : Prop := amdBackUptoRow.holds Try.pinned (OpenSpec.upto amdBackSpec)

/-- 'bowlinelaw10.AmdHeads', WHERE WHAT IT READS IS OF BULK AT MOST 1048576: true; the input reads as it did. -/
def amdHeadsUptoRow : OpenClaim := { program := "ytdlgceddhlagnaa", sum := "fe085ac657875dc2fcb1f2621e24a9480ff4f79fdb2faf2e3a8b72c65c0f3021", func := "bowline/bowlinelaw10.AmdHeads", spec := "amdHeads", unfollowed := true, recurses := true, apart := false, narrowed := true }
def AmdHeadsUptoSaid : Prop := amdHeadsUptoRow.holds Try.pinned (OpenSpec.upto amdHeadsSpec)

/-- 'bowlinelaw11.StatusWrites', WHERE WHAT IT READS IS OF BULK AT MOST 1048576: true; the input reads as it did. -/
def statusWritesUptoRow : OpenClaim := { program := "ytdlgceddhlagnaa", sum := "fe085ac657875dc2fcb1f2621e24a9480ff4f79fdb2faf2e3a8b72c65c0f3021", func := "bowline/bowlinelaw11.StatusWrites", spec := "statusWrites", apart := false, narrowed := true }
def StatusWritesUptoSaid : Prop := statusWritesUptoRow.holds Try.pinned (OpenSpec.upto statusWritesSpec)

/-- 'bowlinelaw11.StatusReads', WHERE WHAT IT READS IS OF BULK AT MOST 1048576: true; the input reads as it did. -/
def statusReadsUptoRow : OpenClaim := { program := "ytdlgceddhlagnaa", sum := "fe085ac657875dc2fcb1f2621e24a9480ff4f79fdb2faf2e3a8b72c65c0f3021", func := "bowline/bowlinelaw11.StatusReads", spec := "statusReads", apart := false, narrowed := true }
def StatusReadsUptoSaid : Prop := statusReadsUptoRow.holds Try.pinned (OpenSpec.upto statusReadsSpec)

/-- 'bowlinelaw11.StatusBack', WHERE WHAT IT READS IS OF BULK AT MOST 1048576: true; the input reads as it did. -/
def statusBackUptoRow : OpenClaim := { program := "ytdlgceddhlagnaa", sum := "fe085ac657875dc2fcb1f2621e24a9480ff4f79fdb2faf2e3a8b72c65c0f3021", func := "bowline/bowlinelaw11.StatusBack", spec := "statusBack", apart := false, narrowed := true }
def StatusBackUptoSaid : Prop := statusBackUptoRow.holds Try.pinned (OpenSpec.upto statusBackSpec)

/-- 'bowlinelaw11.StatusGrows', WHERE WHAT IT READS IS OF BULK AT MOST 1048576: true; the input reads as it did. -/
def statusGrowsUptoRow : OpenClaim := { program := "ytdlgceddhlagnaa", sum := "fe085ac657875dc2fcb1f2621e24a9480ff4f79fdb2faf2e3a8b72c65c0f3021", func := "bowline/bowlinelaw11.StatusGrows", spec := "statusGrows", apart := false, narrowed := true }
def StatusGrowsUptoSaid : Prop := statusGrowsUptoRow.holds Try.pinned (OpenSpec.upto statusGrowsSpec)

/-- 'bowlinelaw12.PduConfigs', WHERE WHAT IT READS IS OF BULK AT MOST 1048576: true; the input reads as it did. -/
def pduConfigsUptoRow : OpenClaim := { program := "ytdlgceddhlagnaa", sum := "fe085ac657875dc2fcb1f2621e24a9480ff4f79fdb2faf2e3a8b72c65c0f3021", func := "bowline/bowlinelaw12.PduConfigs", spec := "pduConfigs", unfollowed := true, recurses := true, apart := false, narrowed := true }
def PduConfigsUptoSaid : Prop := pduConfigsUptoRow.holds Try.pinned (OpenSpec.upto pduConfigsSpec)

/-- 'bowlinelaw12.PduKinds', WHERE WHAT IT READS IS OF BULK AT MOST 1048576: true; the input reads as it did. -/
def pduKindsUptoRow : OpenClaim := { program := "ytdlgceddhlagnaa", sum := "fe085ac657875dc2fcb1f2621e24a9480ff4f79fdb2faf2e3a8b72c65c0f3021", func := "bowline/bowlinelaw12.PduKinds", spec := "pduKinds", unfollowed := true, recurses := true, apart := false, narrowed := true }
def PduKindsUptoSaid : Prop := pduKindsUptoRow.holds Try.pinned (OpenSpec.upto pduKindsSpec)

end Rows
end Go.Proofs.Ytdlgceddhlagnaa
