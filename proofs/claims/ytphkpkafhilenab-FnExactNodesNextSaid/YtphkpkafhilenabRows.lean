/-
  No cell of these rows narrows 'for every input' (looked for: loops, veiled, ifaces, maps, wideKeys, modest, calm, conditions, laid).
  DERIVED. THE GIVEN ROWS OF THIS SEAT. 6 by the template 'for every input the law returns true; each argument reads behind the call as it read before'; 0 by the template 'total and deterministic' (their statements: YtphkpkafhilenabTotals.lean).
  GIVEN WITH THE SEED: the statements are not yours to turn. If you find one false, say at which input.
  Laid BY PROGRAM, IN A SANDBOX (cutbox-rows.mjs): the forced cells as the released guide's own fill.sh prints them over the translation 401aa8e7d88294e2… (all of the seat's roots in one cut). By AI agents, Wed Nov 11 2026. No macro, syntax, notation, axiom, sorry.
-/
import Derived.Test.YtphkpkafhilenabChecked
import GoSem.Claim
import GoSem.ClaimJoined
import GoSem.ClaimMapViews
import Derived.JoinedTies
import Derived.KernelRfl
namespace Go.Proofs.Ytphkpkafhilenab
/- THE CELL 'sum', in the pinned program and in every row, IS THE sha256 OF THE DUMP (.gsa) THAT YtphkpkafhilenabProg.lean LOADS. Nothing in Lean hashes anything: it is a label: what it is worth is what the hold of that sum in a sandbox is worth. -/
noncomputable def Try.pinned : Pinned := { name := "ytphkpkafhilenab", sum := "401aa8e7d88294e20e8e33c4c108032b5bf56725a60538ed331e619bb93a1c4f", checked := Try.checked }
namespace Rows
def none {H : Type} : Left H := { results := [], args := [] }

/-- 'laws.FnExactCircleBetween': WHATEVER THE INPUT: true; the input reads as it did. -/
def fnExactCircleBetweenSpec : ChangeSpec := { name := "fnExactCircleBetween", fn := fun _ => fun
  | [d1, d2, d3] => { results := [.lit (.bool true)], args := [d1, d2, d3] }
  | _ => none }
def fnExactCircleBetweenRow : OpenClaim := { program := "ytphkpkafhilenab", sum := "401aa8e7d88294e20e8e33c4c108032b5bf56725a60538ed331e619bb93a1c4f", func := "loop.example/ringoverlay/laws.FnExactCircleBetween", spec := "fnExactCircleBetween", apart := false }
def FnExactCircleBetweenSaid : Prop := fnExactCircleBetweenRow.holds Try.pinned (OpenSpec.ofChange fnExactCircleBetweenSpec)

/-- ITS FALSE NEIGHBOUR: 'it returns false'. Refute it at one input. -/
def fnExactCircleBetweenWrong : ChangeSpec := { name := "fnExactCircleBetween", fn := fun _ => fun
  | [d1, d2, d3] => { results := [.lit (.bool false)], args := [d1, d2, d3] }
  | _ => none }
def FnExactCircleBetweenWrongFalsely : Prop := fnExactCircleBetweenRow.holds Try.pinned (OpenSpec.ofChange fnExactCircleBetweenWrong)

/-- 'laws.FnExactCircleHolds': WHATEVER THE INPUT: true; the input reads as it did. -/
def fnExactCircleHoldsSpec : ChangeSpec := { name := "fnExactCircleHolds", fn := fun _ => fun
  | [d1, d2, d3] => { results := [.lit (.bool true)], args := [d1, d2, d3] }
  | _ => none }
def fnExactCircleHoldsRow : OpenClaim := { program := "ytphkpkafhilenab", sum := "401aa8e7d88294e20e8e33c4c108032b5bf56725a60538ed331e619bb93a1c4f", func := "loop.example/ringoverlay/laws.FnExactCircleHolds", spec := "fnExactCircleHolds", apart := false }
def FnExactCircleHoldsSaid : Prop := fnExactCircleHoldsRow.holds Try.pinned (OpenSpec.ofChange fnExactCircleHoldsSpec)

/-- ITS FALSE NEIGHBOUR: 'it returns false'. Refute it at one input. -/
def fnExactCircleHoldsWrong : ChangeSpec := { name := "fnExactCircleHolds", fn := fun _ => fun
  | [d1, d2, d3] => { results := [.lit (.bool false)], args := [d1, d2, d3] }
  | _ => none }
def FnExactCircleHoldsWrongFalsely : Prop := fnExactCircleHoldsRow.holds Try.pinned (OpenSpec.ofChange fnExactCircleHoldsWrong)

/-- 'laws.FnExactCircleDistance': WHATEVER THE INPUT: true; the input reads as it did. -/
def fnExactCircleDistanceSpec : ChangeSpec := { name := "fnExactCircleDistance", fn := fun _ => fun
  | [d1, d2] => { results := [.lit (.bool true)], args := [d1, d2] }
  | _ => none }
def fnExactCircleDistanceRow : OpenClaim := { program := "ytphkpkafhilenab", sum := "401aa8e7d88294e20e8e33c4c108032b5bf56725a60538ed331e619bb93a1c4f", func := "loop.example/ringoverlay/laws.FnExactCircleDistance", spec := "fnExactCircleDistance", apart := false }
def FnExactCircleDistanceSaid : Prop := fnExactCircleDistanceRow.holds Try.pinned (OpenSpec.ofChange fnExactCircleDistanceSpec)

/-- ITS FALSE NEIGHBOUR: 'it returns false'. Refute it at one input. -/
def fnExactCircleDistanceWrong : ChangeSpec := { name := "fnExactCircleDistance", fn := fun _ => fun
  | [d1, d2] => { results := [.lit (.bool false)], args := [d1, d2] }
  | _ => none }
def FnExactCircleDistanceWrongFalsely : Prop := fnExactCircleDistanceRow.holds Try.pinned (OpenSpec.ofChange fnExactCircleDistanceWrong)

/-- 'laws.FnExactNodesValid': WHATEVER THE INPUT: true; the input reads as it did. -/
def fnExactNodesValidSpec : ChangeSpec := { name := "fnExactNodesValid", fn := fun _ => fun
  | [d] => { results := [.lit (.bool true)], args := [d] }
  | _ => none }
def fnExactNodesValidRow : OpenClaim := { program := "ytphkpkafhilenab", sum := "401aa8e7d88294e20e8e33c4c108032b5bf56725a60538ed331e619bb93a1c4f", func := "loop.example/ringoverlay/laws.FnExactNodesValid", spec := "fnExactNodesValid", apart := false }
def FnExactNodesValidSaid : Prop := fnExactNodesValidRow.holds Try.pinned (OpenSpec.ofChange fnExactNodesValidSpec)

/-- ITS FALSE NEIGHBOUR: 'it returns false'. Refute it at one input. -/
def fnExactNodesValidWrong : ChangeSpec := { name := "fnExactNodesValid", fn := fun _ => fun
  | [d] => { results := [.lit (.bool false)], args := [d] }
  | _ => none }
def FnExactNodesValidWrongFalsely : Prop := fnExactNodesValidRow.holds Try.pinned (OpenSpec.ofChange fnExactNodesValidWrong)

/-- 'laws.FnExactNodesNext': WHATEVER THE INPUT: true; the input reads as it did. -/
def fnExactNodesNextSpec : ChangeSpec := { name := "fnExactNodesNext", fn := fun _ => fun
  | [d1, d2] => { results := [.lit (.bool true)], args := [d1, d2] }
  | _ => none }
def fnExactNodesNextRow : OpenClaim := { program := "ytphkpkafhilenab", sum := "401aa8e7d88294e20e8e33c4c108032b5bf56725a60538ed331e619bb93a1c4f", func := "loop.example/ringoverlay/laws.FnExactNodesNext", spec := "fnExactNodesNext", apart := false }
def FnExactNodesNextSaid : Prop := fnExactNodesNextRow.holds Try.pinned (OpenSpec.ofChange fnExactNodesNextSpec)

/-- ITS FALSE NEIGHBOUR: 'it returns false'. Refute it at one input. -/
def fnExactNodesNextWrong : ChangeSpec := { name := "fnExactNodesNext", fn := fun _ => fun
  | [d1, d2] => { results := [.lit (.bool false)], args := [d1, d2] }
  | _ => none }
def FnExactNodesNextWrongFalsely : Prop := fnExactNodesNextRow.holds Try.pinned (OpenSpec.ofChange fnExactNodesNextWrong)

/-- 'laws.FnExactNodesBefore': WHATEVER THE INPUT: true; the input reads as it did. -/
def fnExactNodesBeforeSpec : ChangeSpec := { name := "fnExactNodesBefore", fn := fun _ => fun
  | [d1, d2] => { results := [.lit (.bool true)], args := [d1, d2] }
  | _ => none }
def fnExactNodesBeforeRow : OpenClaim := { program := "ytphkpkafhilenab", sum := "401aa8e7d88294e20e8e33c4c108032b5bf56725a60538ed331e619bb93a1c4f", func := "loop.example/ringoverlay/laws.FnExactNodesBefore", spec := "fnExactNodesBefore", apart := false }
def FnExactNodesBeforeSaid : Prop := fnExactNodesBeforeRow.holds Try.pinned (OpenSpec.ofChange fnExactNodesBeforeSpec)

/-- ITS FALSE NEIGHBOUR: 'it returns false'. Refute it at one input. -/
def fnExactNodesBeforeWrong : ChangeSpec := { name := "fnExactNodesBefore", fn := fun _ => fun
  | [d1, d2] => { results := [.lit (.bool false)], args := [d1, d2] }
  | _ => none }
def FnExactNodesBeforeWrongFalsely : Prop := fnExactNodesBeforeRow.holds Try.pinned (OpenSpec.ofChange fnExactNodesBeforeWrong)

/- THE SECOND FORM. 'bulk': how many values and letters a reading holds, each counted each time it is reached (what is shared counts as often as it is met; a slice's spare places count too). A statement '..UptoSaid' is the law's where the arguments, and the package variables that the reading takes, are together of bulk at most 1048576: NARROWER than '..Said'. Prove '..Said' where nothing that the law and all that it calls make is longer than what came in: it says more and counts as full. Else prove '..UptoSaid'. A law counts once. -/
mutual
def uptoBulk {H : Type} : DataW H → Nat
  | .lit (.string bytes) => bytes.length + 1
  | .lit _ => 1
  | .nil => 1
  | .ptr d => uptoBulk d + 1
  | .slice elems spare => uptoBulkAll elems + uptoBulkAll spare + 1
  | .agg parts => uptoBulkAll parts + 1
  | .iface _ d => uptoBulk d + 1
  | .map entries => uptoBulkEntries entries + 1
  | .held _ => 1
def uptoBulkAll {H : Type} : List (DataW H) → Nat
  | [] => 0
  | d :: r => uptoBulk d + uptoBulkAll r
def uptoBulkEntries {H : Type} : List (Lit × DataW H) → Nat
  | [] => 0
  | x :: r => uptoBulkEntry x + uptoBulkEntries r
def uptoBulkEntry {H : Type} : Lit × DataW H → Nat
  | (.string bytes, d) => bytes.length + uptoBulk d + 1
  | (_, d) => uptoBulk d + 1
 end
def uptoSmall : (H : Type) → List (DataW H) → Bool := fun _ ds => decide (uptoBulkAll ds ≤ 1048576)
def OpenSpec.upto (s : _root_.Go.ChangeSpec) : _root_.Go.OpenSpec := { _root_.Go.OpenSpec.ofChange s with cond := some uptoSmall }

/-- 'laws.FnExactCircleBetween', WHERE WHAT IT READS IS OF BULK AT MOST 1048576: true; the input reads as it did. -/
def fnExactCircleBetweenUptoRow : OpenClaim := { program := "ytphkpkafhilenab", sum := "401aa8e7d88294e20e8e33c4c108032b5bf56725a60538ed331e619bb93a1c4f", func := "loop.example/ringoverlay/laws.FnExactCircleBetween", spec := "fnExactCircleBetween", apart := false, narrowed := true }
def FnExactCircleBetweenUptoSaid : Prop := fnExactCircleBetweenUptoRow.holds Try.pinned (OpenSpec.upto fnExactCircleBetweenSpec)

/-- 'laws.FnExactCircleHolds', WHERE WHAT IT READS IS OF BULK AT MOST 1048576: true; the input reads as it did. -/
def fnExactCircleHoldsUptoRow : OpenClaim := { program := "ytphkpkafhilenab", sum := "401aa8e7d88294e20e8e33c4c108032b5bf56725a60538ed331e619bb93a1c4f", func := "loop.example/ringoverlay/laws.FnExactCircleHolds", spec := "fnExactCircleHolds", apart := false, narrowed := true }
def FnExactCircleHoldsUptoSaid : Prop := fnExactCircleHoldsUptoRow.holds Try.pinned (OpenSpec.upto fnExactCircleHoldsSpec)

/-- 'laws.FnExactCircleDistance', WHERE WHAT IT READS IS OF BULK AT MOST 1048576: true; the input reads as it did. -/
def fnExactCircleDistanceUptoRow : OpenClaim := { program := "ytphkpkafhilenab", sum := "401aa8e7d88294e20e8e33c4c108032b5bf56725a60538ed331e619bb93a1c4f", func := "loop.example/ringoverlay/laws.FnExactCircleDistance", spec := "fnExactCircleDistance", apart := false, narrowed := true }
def FnExactCircleDistanceUptoSaid : Prop := fnExactCircleDistanceUptoRow.holds Try.pinned (OpenSpec.upto fnExactCircleDistanceSpec)

/-- 'laws.FnExactNodesValid', WHERE WHAT IT READS IS OF BULK AT MOST 1048576: true; the input reads as it did. -/
def fnExactNodesValidUptoRow : OpenClaim := { program := "ytphkpkafhilenab", sum := "401aa8e7d88294e20e8e33c4c108032b5bf56725a60538ed331e619bb93a1c4f", func := "loop.example/ringoverlay/laws.FnExactNodesValid", spec := "fnExactNodesValid", apart := false, narrowed := true }
def FnExactNodesValidUptoSaid : Prop := fnExactNodesValidUptoRow.holds Try.pinned (OpenSpec.upto fnExactNodesValidSpec)

/-- 'laws.FnExactNodesNext', WHERE WHAT IT READS IS OF BULK AT MOST 1048576: true; the input reads as it did. -/
def fnExactNodesNextUptoRow : OpenClaim := { program := "ytphkpkafhilenab", sum := "401aa8e7d88294e20e8e33c4c108032b5bf56725a60538ed331e619bb93a1c4f", func := "loop.example/ringoverlay/laws.FnExactNodesNext", spec := "fnExactNodesNext", apart := false, narrowed := true }
def FnExactNodesNextUptoSaid : Prop := fnExactNodesNextUptoRow.holds Try.pinned (OpenSpec.upto fnExactNodesNextSpec)

/-- 'laws.FnExactNodesBefore', WHERE WHAT IT READS IS OF BULK AT MOST 1048576: true; the input reads as it did. -/
def fnExactNodesBeforeUptoRow : OpenClaim := { program := "ytphkpkafhilenab", sum := "401aa8e7d88294e20e8e33c4c108032b5bf56725a60538ed331e619bb93a1c4f", func := "loop.example/ringoverlay/laws.FnExactNodesBefore", spec := "fnExactNodesBefore", apart := false, narrowed := true }
def FnExactNodesBeforeUptoSaid : Prop := fnExactNodesBeforeUptoRow.holds Try.pinned (OpenSpec.upto fnExactNodesBeforeSpec)

end Rows
end Go.Proofs.Ytphkpkafhilenab
