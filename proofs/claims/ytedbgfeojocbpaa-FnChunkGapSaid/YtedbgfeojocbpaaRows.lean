/-
  No cell of these rows narrows 'for every input' (looked for: loops, veiled, ifaces, maps, wideKeys, modest, calm, conditions, laid).
  DERIVED. THE GIVEN ROWS OF THIS SEAT. 12 by the template 'for every input the law returns true; each argument reads behind the call as it read before'; 0 by the template 'total and deterministic' (their statements: YtedbgfeojocbpaaTotals.lean).
  GIVEN WITH THE SEED: the statements are not yours to turn. If you find one false, say at which input.
  Laid BY PROGRAM, IN A SANDBOX (cutbox-rows.mjs): the forced cells as the released guide's own fill.sh prints them over the translation f7ba141a6df0682e… (all of the seat's roots in one cut). By AI agents, Wed Nov 11 2026. No macro, syntax, notation, axiom, sorry.
-/
import Derived.Test.YtedbgfeojocbpaaChecked
import GoSem.Claim
import GoSem.ClaimJoined
import GoSem.ClaimMapViews
import Derived.JoinedTies
import Derived.KernelRfl
namespace Go.Proofs.Ytedbgfeojocbpaa
/- THE CELL 'sum', in the pinned program and in every row, IS THE sha256 OF THE DUMP (.gsa) THAT YtedbgfeojocbpaaProg.lean LOADS. Nothing in Lean hashes anything: it is a label: what it is worth is what the hold of that sum in a sandbox is worth. -/
noncomputable def Try.pinned : Pinned := { name := "ytedbgfeojocbpaa", sum := "f7ba141a6df0682e443a991539432bbd97574e1bed1e033f794a11c2b3cc62b1", checked := Try.checked }
namespace Rows
def none {H : Type} : Left H := { results := [], args := [] }

/-- 'laws.FnExactTransferNew': WHATEVER THE INPUT: true; the input reads as it did. -/
def fnExactTransferNewSpec : ChangeSpec := { name := "fnExactTransferNew", fn := fun _ => fun
  | [d] => { results := [.lit (.bool true)], args := [d] }
  | _ => none }
def fnExactTransferNewRow : OpenClaim := { program := "ytedbgfeojocbpaa", sum := "f7ba141a6df0682e443a991539432bbd97574e1bed1e033f794a11c2b3cc62b1", func := "loop.example/ringoverlay/laws.FnExactTransferNew", spec := "fnExactTransferNew", apart := false }
def FnExactTransferNewSaid : Prop := fnExactTransferNewRow.holds Try.pinned (OpenSpec.ofChange fnExactTransferNewSpec)

/-- ITS FALSE NEIGHBOUR: 'it returns false'. Refute it at one input. -/
def fnExactTransferNewWrong : ChangeSpec := { name := "fnExactTransferNew", fn := fun _ => fun
  | [d] => { results := [.lit (.bool false)], args := [d] }
  | _ => none }
def FnExactTransferNewWrongFalsely : Prop := fnExactTransferNewRow.holds Try.pinned (OpenSpec.ofChange fnExactTransferNewWrong)

/-- 'laws.FnExactTransferValid': WHATEVER THE INPUT: true; the input reads as it did. -/
def fnExactTransferValidSpec : ChangeSpec := { name := "fnExactTransferValid", fn := fun _ => fun
  | [d] => { results := [.lit (.bool true)], args := [d] }
  | _ => none }
def fnExactTransferValidRow : OpenClaim := { program := "ytedbgfeojocbpaa", sum := "f7ba141a6df0682e443a991539432bbd97574e1bed1e033f794a11c2b3cc62b1", func := "loop.example/ringoverlay/laws.FnExactTransferValid", spec := "fnExactTransferValid", apart := false }
def FnExactTransferValidSaid : Prop := fnExactTransferValidRow.holds Try.pinned (OpenSpec.ofChange fnExactTransferValidSpec)

/-- ITS FALSE NEIGHBOUR: 'it returns false'. Refute it at one input. -/
def fnExactTransferValidWrong : ChangeSpec := { name := "fnExactTransferValid", fn := fun _ => fun
  | [d] => { results := [.lit (.bool false)], args := [d] }
  | _ => none }
def FnExactTransferValidWrongFalsely : Prop := fnExactTransferValidRow.holds Try.pinned (OpenSpec.ofChange fnExactTransferValidWrong)

/-- 'laws.FnExactTransferAck': WHATEVER THE INPUT: true; the input reads as it did. -/
def fnExactTransferAckSpec : ChangeSpec := { name := "fnExactTransferAck", fn := fun _ => fun
  | [d1, d2] => { results := [.lit (.bool true)], args := [d1, d2] }
  | _ => none }
def fnExactTransferAckRow : OpenClaim := { program := "ytedbgfeojocbpaa", sum := "f7ba141a6df0682e443a991539432bbd97574e1bed1e033f794a11c2b3cc62b1", func := "loop.example/ringoverlay/laws.FnExactTransferAck", spec := "fnExactTransferAck", apart := false }
def FnExactTransferAckSaid : Prop := fnExactTransferAckRow.holds Try.pinned (OpenSpec.ofChange fnExactTransferAckSpec)

/-- ITS FALSE NEIGHBOUR: 'it returns false'. Refute it at one input. -/
def fnExactTransferAckWrong : ChangeSpec := { name := "fnExactTransferAck", fn := fun _ => fun
  | [d1, d2] => { results := [.lit (.bool false)], args := [d1, d2] }
  | _ => none }
def FnExactTransferAckWrongFalsely : Prop := fnExactTransferAckRow.holds Try.pinned (OpenSpec.ofChange fnExactTransferAckWrong)

/-- 'laws.FnExactTransferResume': WHATEVER THE INPUT: true; the input reads as it did. -/
def fnExactTransferResumeSpec : ChangeSpec := { name := "fnExactTransferResume", fn := fun _ => fun
  | [d] => { results := [.lit (.bool true)], args := [d] }
  | _ => none }
def fnExactTransferResumeRow : OpenClaim := { program := "ytedbgfeojocbpaa", sum := "f7ba141a6df0682e443a991539432bbd97574e1bed1e033f794a11c2b3cc62b1", func := "loop.example/ringoverlay/laws.FnExactTransferResume", spec := "fnExactTransferResume", apart := false }
def FnExactTransferResumeSaid : Prop := fnExactTransferResumeRow.holds Try.pinned (OpenSpec.ofChange fnExactTransferResumeSpec)

/-- ITS FALSE NEIGHBOUR: 'it returns false'. Refute it at one input. -/
def fnExactTransferResumeWrong : ChangeSpec := { name := "fnExactTransferResume", fn := fun _ => fun
  | [d] => { results := [.lit (.bool false)], args := [d] }
  | _ => none }
def FnExactTransferResumeWrongFalsely : Prop := fnExactTransferResumeRow.holds Try.pinned (OpenSpec.ofChange fnExactTransferResumeWrong)

/-- 'laws.FnExactChunkPut': WHATEVER THE INPUT: true; the input reads as it did. -/
def fnExactChunkPutSpec : ChangeSpec := { name := "fnExactChunkPut", fn := fun _ => fun
  | [d1, d2] => { results := [.lit (.bool true)], args := [d1, d2] }
  | _ => none }
def fnExactChunkPutRow : OpenClaim := { program := "ytedbgfeojocbpaa", sum := "f7ba141a6df0682e443a991539432bbd97574e1bed1e033f794a11c2b3cc62b1", func := "loop.example/ringoverlay/laws.FnExactChunkPut", spec := "fnExactChunkPut", apart := false }
def FnExactChunkPutSaid : Prop := fnExactChunkPutRow.holds Try.pinned (OpenSpec.ofChange fnExactChunkPutSpec)

/-- ITS FALSE NEIGHBOUR: 'it returns false'. Refute it at one input. -/
def fnExactChunkPutWrong : ChangeSpec := { name := "fnExactChunkPut", fn := fun _ => fun
  | [d1, d2] => { results := [.lit (.bool false)], args := [d1, d2] }
  | _ => none }
def FnExactChunkPutWrongFalsely : Prop := fnExactChunkPutRow.holds Try.pinned (OpenSpec.ofChange fnExactChunkPutWrong)

/-- 'laws.FnTransferNew': WHATEVER THE INPUT: true; the input reads as it did. -/
def fnTransferNewSpec : ChangeSpec := { name := "fnTransferNew", fn := fun _ => fun
  | [d] => { results := [.lit (.bool true)], args := [d] }
  | _ => none }
def fnTransferNewRow : OpenClaim := { program := "ytedbgfeojocbpaa", sum := "f7ba141a6df0682e443a991539432bbd97574e1bed1e033f794a11c2b3cc62b1", func := "loop.example/ringoverlay/laws.FnTransferNew", spec := "fnTransferNew", apart := false }
def FnTransferNewSaid : Prop := fnTransferNewRow.holds Try.pinned (OpenSpec.ofChange fnTransferNewSpec)

/-- ITS FALSE NEIGHBOUR: 'it returns false'. Refute it at one input. -/
def fnTransferNewWrong : ChangeSpec := { name := "fnTransferNew", fn := fun _ => fun
  | [d] => { results := [.lit (.bool false)], args := [d] }
  | _ => none }
def FnTransferNewWrongFalsely : Prop := fnTransferNewRow.holds Try.pinned (OpenSpec.ofChange fnTransferNewWrong)

/-- 'laws.FnTransferAck': WHATEVER THE INPUT: true; the input reads as it did. -/
def fnTransferAckSpec : ChangeSpec := { name := "fnTransferAck", fn := fun _ => fun
  | [d] => { results := [.lit (.bool true)], args := [d] }
  | _ => none }
def fnTransferAckRow : OpenClaim := { program := "ytedbgfeojocbpaa", sum := "f7ba141a6df0682e443a991539432bbd97574e1bed1e033f794a11c2b3cc62b1", func := "loop.example/ringoverlay/laws.FnTransferAck", spec := "fnTransferAck", apart := false }
def FnTransferAckSaid : Prop := fnTransferAckRow.holds Try.pinned (OpenSpec.ofChange fnTransferAckSpec)

/-- ITS FALSE NEIGHBOUR: 'it returns false'. Refute it at one input. -/
def fnTransferAckWrong : ChangeSpec := { name := "fnTransferAck", fn := fun _ => fun
  | [d] => { results := [.lit (.bool false)], args := [d] }
  | _ => none }
def FnTransferAckWrongFalsely : Prop := fnTransferAckRow.holds Try.pinned (OpenSpec.ofChange fnTransferAckWrong)

/-- 'laws.FnTransferResume': WHATEVER THE INPUT: true; the input reads as it did. -/
def fnTransferResumeSpec : ChangeSpec := { name := "fnTransferResume", fn := fun _ => fun
  | [d] => { results := [.lit (.bool true)], args := [d] }
  | _ => none }
def fnTransferResumeRow : OpenClaim := { program := "ytedbgfeojocbpaa", sum := "f7ba141a6df0682e443a991539432bbd97574e1bed1e033f794a11c2b3cc62b1", func := "loop.example/ringoverlay/laws.FnTransferResume", spec := "fnTransferResume", apart := false }
def FnTransferResumeSaid : Prop := fnTransferResumeRow.holds Try.pinned (OpenSpec.ofChange fnTransferResumeSpec)

/-- ITS FALSE NEIGHBOUR: 'it returns false'. Refute it at one input. -/
def fnTransferResumeWrong : ChangeSpec := { name := "fnTransferResume", fn := fun _ => fun
  | [d] => { results := [.lit (.bool false)], args := [d] }
  | _ => none }
def FnTransferResumeWrongFalsely : Prop := fnTransferResumeRow.holds Try.pinned (OpenSpec.ofChange fnTransferResumeWrong)

/-- 'laws.FnTransferValid': WHATEVER THE INPUT: true; the input reads as it did. -/
def fnTransferValidSpec : ChangeSpec := { name := "fnTransferValid", fn := fun _ => fun
  | [d] => { results := [.lit (.bool true)], args := [d] }
  | _ => none }
def fnTransferValidRow : OpenClaim := { program := "ytedbgfeojocbpaa", sum := "f7ba141a6df0682e443a991539432bbd97574e1bed1e033f794a11c2b3cc62b1", func := "loop.example/ringoverlay/laws.FnTransferValid", spec := "fnTransferValid", apart := false }
def FnTransferValidSaid : Prop := fnTransferValidRow.holds Try.pinned (OpenSpec.ofChange fnTransferValidSpec)

/-- ITS FALSE NEIGHBOUR: 'it returns false'. Refute it at one input. -/
def fnTransferValidWrong : ChangeSpec := { name := "fnTransferValid", fn := fun _ => fun
  | [d] => { results := [.lit (.bool false)], args := [d] }
  | _ => none }
def FnTransferValidWrongFalsely : Prop := fnTransferValidRow.holds Try.pinned (OpenSpec.ofChange fnTransferValidWrong)

/-- 'laws.FnChunkPut': WHATEVER THE INPUT: true; the input reads as it did. -/
def fnChunkPutSpec : ChangeSpec := { name := "fnChunkPut", fn := fun _ => fun
  | [d] => { results := [.lit (.bool true)], args := [d] }
  | _ => none }
def fnChunkPutRow : OpenClaim := { program := "ytedbgfeojocbpaa", sum := "f7ba141a6df0682e443a991539432bbd97574e1bed1e033f794a11c2b3cc62b1", func := "loop.example/ringoverlay/laws.FnChunkPut", spec := "fnChunkPut", apart := false }
def FnChunkPutSaid : Prop := fnChunkPutRow.holds Try.pinned (OpenSpec.ofChange fnChunkPutSpec)

/-- ITS FALSE NEIGHBOUR: 'it returns false'. Refute it at one input. -/
def fnChunkPutWrong : ChangeSpec := { name := "fnChunkPut", fn := fun _ => fun
  | [d] => { results := [.lit (.bool false)], args := [d] }
  | _ => none }
def FnChunkPutWrongFalsely : Prop := fnChunkPutRow.holds Try.pinned (OpenSpec.ofChange fnChunkPutWrong)

/-- 'laws.FnChunkTwice': WHATEVER THE INPUT: true; the input reads as it did. -/
def fnChunkTwiceSpec : ChangeSpec := { name := "fnChunkTwice", fn := fun _ => fun
  | [d] => { results := [.lit (.bool true)], args := [d] }
  | _ => none }
def fnChunkTwiceRow : OpenClaim := { program := "ytedbgfeojocbpaa", sum := "f7ba141a6df0682e443a991539432bbd97574e1bed1e033f794a11c2b3cc62b1", func := "loop.example/ringoverlay/laws.FnChunkTwice", spec := "fnChunkTwice", apart := false }
def FnChunkTwiceSaid : Prop := fnChunkTwiceRow.holds Try.pinned (OpenSpec.ofChange fnChunkTwiceSpec)

/-- ITS FALSE NEIGHBOUR: 'it returns false'. Refute it at one input. -/
def fnChunkTwiceWrong : ChangeSpec := { name := "fnChunkTwice", fn := fun _ => fun
  | [d] => { results := [.lit (.bool false)], args := [d] }
  | _ => none }
def FnChunkTwiceWrongFalsely : Prop := fnChunkTwiceRow.holds Try.pinned (OpenSpec.ofChange fnChunkTwiceWrong)

/-- 'laws.FnChunkGap': WHATEVER THE INPUT: true; the input reads as it did. -/
def fnChunkGapSpec : ChangeSpec := { name := "fnChunkGap", fn := fun _ => fun
  | [d] => { results := [.lit (.bool true)], args := [d] }
  | _ => none }
def fnChunkGapRow : OpenClaim := { program := "ytedbgfeojocbpaa", sum := "f7ba141a6df0682e443a991539432bbd97574e1bed1e033f794a11c2b3cc62b1", func := "loop.example/ringoverlay/laws.FnChunkGap", spec := "fnChunkGap", apart := false }
def FnChunkGapSaid : Prop := fnChunkGapRow.holds Try.pinned (OpenSpec.ofChange fnChunkGapSpec)

/-- ITS FALSE NEIGHBOUR: 'it returns false'. Refute it at one input. -/
def fnChunkGapWrong : ChangeSpec := { name := "fnChunkGap", fn := fun _ => fun
  | [d] => { results := [.lit (.bool false)], args := [d] }
  | _ => none }
def FnChunkGapWrongFalsely : Prop := fnChunkGapRow.holds Try.pinned (OpenSpec.ofChange fnChunkGapWrong)

/- THE SECOND FORM. 'bulk': how many values and letters a reading holds, each counted each time it is reached (what is shared counts as often as it is met; a slice's spare places count too). A statement '..UptoSaid' is the law's where the arguments, and the package variables that the reading takes, are together of bulk at most 1048576: NARROWER than '..Said'. Prove '..Said' where nothing that the law and all that it calls make is longer than what came in: it says more and counts as full. Else prove '..UptoSaid'. A law counts once. -/
mutual
def uptoBulk {H : Type} : DataW H → Nat
  | .lit (.string bytes) => bytes.length + 1
  | .lit _ => 1
  | .nil => 1
  | .ptr d => uptoBulk d + 1
  | .slice elems spare => uptoBulkAll elems + uptoBulkAll spare + 1
  | .agg parts => uptoBulkAll parts + 1
  | .iface _ d => uptoBulk d + 1
  | .map entries => uptoBulkEntries entries + 1
  | .held _ => 1
def uptoBulkAll {H : Type} : List (DataW H) → Nat
  | [] => 0
  | d :: r => uptoBulk d + uptoBulkAll r
def uptoBulkEntries {H : Type} : List (Lit × DataW H) → Nat
  | [] => 0
  | x :: r => uptoBulkEntry x + uptoBulkEntries r
def uptoBulkEntry {H : Type} : Lit × DataW H → Nat
  | (.string bytes, d) => bytes.length + uptoBulk d + 1
  | (_, d) => uptoBulk d + 1
 end
def uptoSmall : (H : Type) → List (DataW H) → Bool := fun _ ds => decide (uptoBulkAll ds ≤ 1048576)
def OpenSpec.upto (s : _root_.Go.ChangeSpec) : _root_.Go.OpenSpec := { _root_.Go.OpenSpec.ofChange s with cond := some uptoSmall }

/-- 'laws.FnExactTransferNew', WHERE WHAT IT READS IS OF BULK AT MOST 1048576: true; the input reads as it did. -/
def fnExactTransferNewUptoRow : OpenClaim := { program := "ytedbgfeojocbpaa", sum := "f7ba141a6df0682e443a991539432bbd97574e1bed1e033f794a11c2b3cc62b1", func := "loop.example/ringoverlay/laws.FnExactTransferNew", spec := "fnExactTransferNew", apart := false, narrowed := true }
def FnExactTransferNewUptoSaid : Prop := fnExactTransferNewUptoRow.holds Try.pinned (OpenSpec.upto fnExactTransferNewSpec)

/-- 'laws.FnExactTransferValid', WHERE WHAT IT READS IS OF BULK AT MOST 1048576: true; the input reads as it did. -/
def fnExactTransferValidUptoRow : OpenClaim := { program := "ytedbgfeojocbpaa", sum := "f7ba141a6df0682e443a991539432bbd97574e1bed1e033f794a11c2b3cc62b1", func := "loop.example/ringoverlay/laws.FnExactTransferValid", spec := "fnExactTransferValid", apart := false, narrowed := true }
def FnExactTransferValidUptoSaid : Prop := fnExactTransferValidUptoRow.holds Try.pinned (OpenSpec.upto fnExactTransferValidSpec)

/-- 'laws.FnExactTransferAck', WHERE WHAT IT READS IS OF BULK AT MOST 1048576: true; the input reads as it did. -/
def fnExactTransferAckUptoRow : OpenClaim := { program := "ytedbgfeojocbpaa", sum := "f7ba141a6df0682e443a991539432bbd97574e1bed1e033f794a11c2b3cc62b1", func := "loop.example/ringoverlay/laws.FnExactTransferAck", spec := "fnExactTransferAck", apart := false, narrowed := true }
def FnExactTransferAckUptoSaid : Prop := fnExactTransferAckUptoRow.holds Try.pinned (OpenSpec.upto fnExactTransferAckSpec)

/-- 'laws.FnExactTransferResume', WHERE WHAT IT READS IS OF BULK AT MOST 1048576: true; the input reads as it did. -/
def fnExactTransferResumeUptoRow : OpenClaim := { program := "ytedbgfeojocbpaa", sum := "f7ba141a6df0682e443a991539432bbd97574e1bed1e033f794a11c2b3cc62b1", func := "loop.example/ringoverlay/laws.FnExactTransferResume", spec := "fnExactTransferResume", apart := false, narrowed := true }
def FnExactTransferResumeUptoSaid : Prop := fnExactTransferResumeUptoRow.holds Try.pinned (OpenSpec.upto fnExactTransferResumeSpec)

/-- 'laws.FnExactChunkPut', WHERE WHAT IT READS IS OF BULK AT MOST 1048576: true; the input reads as it did. -/
def fnExactChunkPutUptoRow : OpenClaim := { program := "ytedbgfeojocbpaa", sum := "f7ba141a6df0682e443a991539432bbd97574e1bed1e033f794a11c2b3cc62b1", func := "loop.example/ringoverlay/laws.FnExactChunkPut", spec := "fnExactChunkPut", apart := false, narrowed := true }
def FnExactChunkPutUptoSaid : Prop := fnExactChunkPutUptoRow.holds Try.pinned (OpenSpec.upto fnExactChunkPutSpec)

/-- 'laws.FnTransferNew', WHERE WHAT IT READS IS OF BULK AT MOST 1048576: true; the input reads as it did. -/
def fnTransferNewUptoRow : OpenClaim := { program := "ytedbgfeojocbpaa", sum := "f7ba141a6df0682e443a991539432bbd97574e1bed1e033f794a11c2b3cc62b1", func := "loop.example/ringoverlay/laws.FnTransferNew", spec := "fnTransferNew", apart := false, narrowed := true }
def FnTransferNewUptoSaid : Prop := fnTransferNewUptoRow.holds Try.pinned (OpenSpec.upto fnTransferNewSpec)

/-- 'laws.FnTransferAck', WHERE WHAT IT READS IS OF BULK AT MOST 1048576: true; the input reads as it did. -/
def fnTransferAckUptoRow : OpenClaim := { program := "ytedbgfeojocbpaa", sum := "f7ba141a6df0682e443a991539432bbd97574e1bed1e033f794a11c2b3cc62b1", func := "loop.example/ringoverlay/laws.FnTransferAck", spec := "fnTransferAck", apart := false, narrowed := true }
def FnTransferAckUptoSaid : Prop := fnTransferAckUptoRow.holds Try.pinned (OpenSpec.upto fnTransferAckSpec)

/-- 'laws.FnTransferResume', WHERE WHAT IT READS IS OF BULK AT MOST 1048576: true; the input reads as it did. -/
def fnTransferResumeUptoRow : OpenClaim := { program := "ytedbgfeojocbpaa", sum := "f7ba141a6df0682e443a991539432bbd97574e1bed1e033f794a11c2b3cc62b1", func := "loop.example/ringoverlay/laws.FnTransferResume", spec := "fnTransferResume", apart := false, narrowed := true }
def FnTransferResumeUptoSaid : Prop := fnTransferResumeUptoRow.holds Try.pinned (OpenSpec.upto fnTransferResumeSpec)

/-- 'laws.FnTransferValid', WHERE WHAT IT READS IS OF BULK AT MOST 1048576: true; the input reads as it did. -/
def fnTransferValidUptoRow : OpenClaim := { program := "ytedbgfeojocbpaa", sum := "f7ba141a6df0682e443a991539432bbd97574e1bed1e033f794a11c2b3cc62b1", func := "loop.example/ringoverlay/laws.FnTransferValid", spec := "fnTransferValid", apart := false, narrowed := true }
def FnTransferValidUptoSaid : Prop := fnTransferValidUptoRow.holds Try.pinned (OpenSpec.upto fnTransferValidSpec)

/-- 'laws.FnChunkPut', WHERE WHAT IT READS IS OF BULK AT MOST 1048576: true; the input reads as it did. -/
def fnChunkPutUptoRow : OpenClaim := { program := "ytedbgfeojocbpaa", sum := "f7ba141a6df0682e443a991539432bbd97574e1bed1e033f794a11c2b3cc62b1", func := "loop.example/ringoverlay/laws.FnChunkPut", spec := "fnChunkPut", apart := false, narrowed := true }
def FnChunkPutUptoSaid : Prop := fnChunkPutUptoRow.holds Try.pinned (OpenSpec.upto fnChunkPutSpec)

/-- 'laws.FnChunkTwice', WHERE WHAT IT READS IS OF BULK AT MOST 1048576: true; the input reads as it did. -/
def fnChunkTwiceUptoRow : OpenClaim := { program := "ytedbgfeojocbpaa", sum := "f7ba141a6df0682e443a991539432bbd97574e1bed1e033f794a11c2b3cc62b1", func := "loop.example/ringoverlay/laws.FnChunkTwice", spec := "fnChunkTwice", apart := false, narrowed := true }
def FnChunkTwiceUptoSaid : Prop := fnChunkTwiceUptoRow.holds Try.pinned (OpenSpec.upto fnChunkTwiceSpec)

/-- 'laws.FnChunkGap', WHERE WHAT IT READS IS OF BULK AT MOST 1048576: true; the input reads as it did. -/
def fnChunkGapUptoRow : OpenClaim := { program := "ytedbgfeojocbpaa", sum := "f7ba141a6df0682e443a991539432bbd97574e1bed1e033f794a11c2b3cc62b1", func := "loop.example/ringoverlay/laws.FnChunkGap", spec := "fnChunkGap", apart := false, narrowed := true }
def FnChunkGapUptoSaid : Prop := fnChunkGapUptoRow.holds Try.pinned (OpenSpec.upto fnChunkGapSpec)

end Rows
end Go.Proofs.Ytedbgfeojocbpaa
