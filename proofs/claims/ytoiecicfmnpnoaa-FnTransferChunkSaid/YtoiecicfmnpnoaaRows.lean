/-
  No cell of these rows narrows 'for every input' (looked for: loops, veiled, ifaces, maps, wideKeys, modest, calm, conditions, laid).
  DERIVED. THE GIVEN ROWS OF THIS SEAT. 3 by the template 'for every input the law returns true; each argument reads behind the call as it read before'; 0 by the template 'total and deterministic' (their statements: YtoiecicfmnpnoaaTotals.lean).
  GIVEN WITH THE SEED: the statements are not yours to turn. If you find one false, say at which input.
  Laid BY PROGRAM, IN A SANDBOX (cutbox-rows.mjs): the forced cells as the released guide's own fill.sh prints them over the translation 20cb25b3af5f4a4f… (all of the seat's roots in one cut). By AI agents, Wed Nov 11 2026. No macro, syntax, notation, axiom, sorry.
-/
import Derived.Test.YtoiecicfmnpnoaaChecked
import GoSem.Claim
import GoSem.ClaimJoined
import GoSem.ClaimMapViews
import Derived.JoinedTies
import Derived.KernelRfl
namespace Go.Proofs.Ytoiecicfmnpnoaa
/- THE CELL 'sum', in the pinned program and in every row, IS THE sha256 OF THE DUMP (.gsa) THAT YtoiecicfmnpnoaaProg.lean LOADS. Nothing in Lean hashes anything: it is a label: what it is worth is what the hold of that sum in a sandbox is worth. -/
noncomputable def Try.pinned : Pinned := { name := "ytoiecicfmnpnoaa", sum := "20cb25b3af5f4a4fe06051133f468f60ce09dc2c0d21131df492f4fecb0230c3", checked := Try.checked }
namespace Rows
def none {H : Type} : Left H := { results := [], args := [] }

/-- 'laws.FnTransferChunk': WHATEVER THE INPUT: true; the input reads as it did. -/
def fnTransferChunkSpec : ChangeSpec := { name := "fnTransferChunk", fn := fun _ => fun
  | [d] => { results := [.lit (.bool true)], args := [d] }
  | _ => none }
def fnTransferChunkRow : OpenClaim := { program := "ytoiecicfmnpnoaa", sum := "20cb25b3af5f4a4fe06051133f468f60ce09dc2c0d21131df492f4fecb0230c3", func := "loop.example/ringoverlay/laws.FnTransferChunk", spec := "fnTransferChunk", apart := false }
def FnTransferChunkSaid : Prop := fnTransferChunkRow.holds Try.pinned (OpenSpec.ofChange fnTransferChunkSpec)

/-- ITS FALSE NEIGHBOUR: 'it returns false'. Refute it at one input. -/
def fnTransferChunkWrong : ChangeSpec := { name := "fnTransferChunk", fn := fun _ => fun
  | [d] => { results := [.lit (.bool false)], args := [d] }
  | _ => none }
def FnTransferChunkWrongFalsely : Prop := fnTransferChunkRow.holds Try.pinned (OpenSpec.ofChange fnTransferChunkWrong)

/-- 'laws.FnTransferWindow': WHATEVER THE INPUT: true; the input reads as it did. -/
def fnTransferWindowSpec : ChangeSpec := { name := "fnTransferWindow", fn := fun _ => fun
  | [d] => { results := [.lit (.bool true)], args := [d] }
  | _ => none }
def fnTransferWindowRow : OpenClaim := { program := "ytoiecicfmnpnoaa", sum := "20cb25b3af5f4a4fe06051133f468f60ce09dc2c0d21131df492f4fecb0230c3", func := "loop.example/ringoverlay/laws.FnTransferWindow", spec := "fnTransferWindow", apart := false }
def FnTransferWindowSaid : Prop := fnTransferWindowRow.holds Try.pinned (OpenSpec.ofChange fnTransferWindowSpec)

/-- ITS FALSE NEIGHBOUR: 'it returns false'. Refute it at one input. -/
def fnTransferWindowWrong : ChangeSpec := { name := "fnTransferWindow", fn := fun _ => fun
  | [d] => { results := [.lit (.bool false)], args := [d] }
  | _ => none }
def FnTransferWindowWrongFalsely : Prop := fnTransferWindowRow.holds Try.pinned (OpenSpec.ofChange fnTransferWindowWrong)

/-- 'laws.FnTransferNothing': WHATEVER THE INPUT: true; the input reads as it did. -/
def fnTransferNothingSpec : ChangeSpec := { name := "fnTransferNothing", fn := fun _ => fun
  | [d] => { results := [.lit (.bool true)], args := [d] }
  | _ => none }
def fnTransferNothingRow : OpenClaim := { program := "ytoiecicfmnpnoaa", sum := "20cb25b3af5f4a4fe06051133f468f60ce09dc2c0d21131df492f4fecb0230c3", func := "loop.example/ringoverlay/laws.FnTransferNothing", spec := "fnTransferNothing", apart := false }
def FnTransferNothingSaid : Prop := fnTransferNothingRow.holds Try.pinned (OpenSpec.ofChange fnTransferNothingSpec)

/-- ITS FALSE NEIGHBOUR: 'it returns false'. Refute it at one input. -/
def fnTransferNothingWrong : ChangeSpec := { name := "fnTransferNothing", fn := fun _ => fun
  | [d] => { results := [.lit (.bool false)], args := [d] }
  | _ => none }
def FnTransferNothingWrongFalsely : Prop := fnTransferNothingRow.holds Try.pinned (OpenSpec.ofChange fnTransferNothingWrong)

/- THE SECOND FORM. 'bulk': how many values and letters a reading holds, each counted each time it is reached (what is shared counts as often as it is met; a slice's spare places count too). A statement '..UptoSaid' is the law's where the arguments, and the package variables that the reading takes, are together of bulk at most 1048576: NARROWER than '..Said'. Prove '..Said' where nothing that the law and all that it calls make is longer than what came in: it says more and counts as full. Else prove '..UptoSaid'. A law counts once. -/
mutual
def uptoBulk {H : Type} : DataW H → Nat
  | .lit (.string bytes) => bytes.length + 1
  | .lit _ => 1
  | .nil => 1
  | .ptr d => uptoBulk d + 1
  | .slice elems spare => uptoBulkAll elems + uptoBulkAll spare + 1
  | .agg parts => uptoBulkAll parts + 1
  | .iface _ d => uptoBulk d + 1
  | .map entries => uptoBulkEntries entries + 1
  | .held _ => 1
def uptoBulkAll {H : Type} : List (DataW H) → Nat
  | [] => 0
  | d :: r => uptoBulk d + uptoBulkAll r
def uptoBulkEntries {H : Type} : List (Lit × DataW H) → Nat
  | [] => 0
  | x :: r => uptoBulkEntry x + uptoBulkEntries r
def uptoBulkEntry {H : Type} : Lit × DataW H → Nat
  | (.string bytes, d) => bytes.length + uptoBulk d + 1
  | (_, d) => uptoBulk d + 1
 end
def uptoSmall : (H : Type) → List (DataW H) → Bool := fun _ ds => decide (uptoBulkAll ds ≤ 1048576)
def OpenSpec.upto (s : _root_.Go.ChangeSpec) : _root_.Go.OpenSpec := { _root_.Go.OpenSpec.ofChange s with cond := some uptoSmall }

/-- 'laws.FnTransferChunk', WHERE WHAT IT READS IS OF BULK AT MOST 1048576: true; the input reads as it did. -/
def fnTransferChunkUptoRow : OpenClaim := { program := "ytoiecicfmnpnoaa", sum := "20cb25b3af5f4a4fe06051133f468f60ce09dc2c0d21131df492f4fecb0230c3", func := "loop.example/ringoverlay/laws.FnTransferChunk", spec := "fnTransferChunk", apart := false, narrowed := true }
def FnTransferChunkUptoSaid : Prop := fnTransferChunkUptoRow.holds Try.pinned (OpenSpec.upto fnTransferChunkSpec)

/-- 'laws.FnTransferWindow', WHERE WHAT IT READS IS OF BULK AT MOST 1048576: true; the input reads as it did. -/
def fnTransferWindowUptoRow : OpenClaim := { program := "ytoiecicfmnpnoaa", sum := "20cb25b3af5f4a4fe06051133f468f60ce09dc2c0d21131df492f4fecb0230c3", func := "loop.example/ringoverlay/laws.FnTransferWindow", spec := "fnTransferWindow", apart := false, narrowed := true }
def FnTransferWindowUptoSaid : Prop := fnTransferWindowUptoRow.holds Try.pinned (OpenSpec.upto fnTransferWindowSpec)

/-- 'laws.FnTransferNothing', WHERE WHAT IT READS IS OF BULK AT MOST 1048576: true; the input reads as it did. -/
def fnTransferNothingUptoRow : OpenClaim := { program := "ytoiecicfmnpnoaa", sum := "20cb25b3af5f4a4fe06051133f468f60ce09dc2c0d21131df492f4fecb0230c3", func := "loop.example/ringoverlay/laws.FnTransferNothing", spec := "fnTransferNothing", apart := false, narrowed := true }
def FnTransferNothingUptoSaid : Prop := fnTransferNothingUptoRow.holds Try.pinned (OpenSpec.upto fnTransferNothingSpec)

end Rows
end Go.Proofs.Ytoiecicfmnpnoaa
