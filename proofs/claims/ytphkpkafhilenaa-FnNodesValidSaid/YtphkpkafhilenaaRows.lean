/-
  No cell of these rows narrows 'for every input' (looked for: loops, veiled, ifaces, maps, wideKeys, modest, calm, conditions, laid).
  DERIVED. THE GIVEN ROWS OF THIS SEAT. 12 by the template 'for every input the law returns true; each argument reads behind the call as it read before'; 0 by the template 'total and deterministic' (their statements: YtphkpkafhilenaaTotals.lean).
  GIVEN WITH THE SEED: the statements are not yours to turn. If you find one false, say at which input.
  Laid BY PROGRAM, IN A SANDBOX (cutbox-rows.mjs): the forced cells as the released guide's own fill.sh prints them over the translation 917441c2e10385b2… (all of the seat's roots in one cut). By AI agents, Wed Nov 11 2026. No macro, syntax, notation, axiom, sorry.
-/
import Derived.Test.YtphkpkafhilenaaChecked
import GoSem.Claim
import GoSem.ClaimJoined
import GoSem.ClaimMapViews
import Derived.JoinedTies
import Derived.KernelRfl
namespace Go.Proofs.Ytphkpkafhilenaa
/- THE CELL 'sum', in the pinned program and in every row, IS THE sha256 OF THE DUMP (.gsa) THAT YtphkpkafhilenaaProg.lean LOADS. Nothing in Lean hashes anything: it is a label: what it is worth is what the hold of that sum in a sandbox is worth. -/
noncomputable def Try.pinned : Pinned := { name := "ytphkpkafhilenaa", sum := "917441c2e10385b22c338993b9f951434a8970de6dbcef833c9354f35d68bfc1", checked := Try.checked }
namespace Rows
def none {H : Type} : Left H := { results := [], args := [] }

/-- 'laws.FnBetweenTurn': WHATEVER THE INPUT: true; the input reads as it did. -/
def fnBetweenTurnSpec : ChangeSpec := { name := "fnBetweenTurn", fn := fun _ => fun
  | [d1, d2] => { results := [.lit (.bool true)], args := [d1, d2] }
  | _ => none }
def fnBetweenTurnRow : OpenClaim := { program := "ytphkpkafhilenaa", sum := "917441c2e10385b22c338993b9f951434a8970de6dbcef833c9354f35d68bfc1", func := "loop.example/ringoverlay/laws.FnBetweenTurn", spec := "fnBetweenTurn", apart := false }
def FnBetweenTurnSaid : Prop := fnBetweenTurnRow.holds Try.pinned (OpenSpec.ofChange fnBetweenTurnSpec)

/-- ITS FALSE NEIGHBOUR: 'it returns false'. Refute it at one input. -/
def fnBetweenTurnWrong : ChangeSpec := { name := "fnBetweenTurn", fn := fun _ => fun
  | [d1, d2] => { results := [.lit (.bool false)], args := [d1, d2] }
  | _ => none }
def FnBetweenTurnWrongFalsely : Prop := fnBetweenTurnRow.holds Try.pinned (OpenSpec.ofChange fnBetweenTurnWrong)

/-- 'laws.FnBetweenOne': WHATEVER THE INPUT: true; the input reads as it did. -/
def fnBetweenOneSpec : ChangeSpec := { name := "fnBetweenOne", fn := fun _ => fun
  | [d] => { results := [.lit (.bool true)], args := [d] }
  | _ => none }
def fnBetweenOneRow : OpenClaim := { program := "ytphkpkafhilenaa", sum := "917441c2e10385b22c338993b9f951434a8970de6dbcef833c9354f35d68bfc1", func := "loop.example/ringoverlay/laws.FnBetweenOne", spec := "fnBetweenOne", apart := false }
def FnBetweenOneSaid : Prop := fnBetweenOneRow.holds Try.pinned (OpenSpec.ofChange fnBetweenOneSpec)

/-- ITS FALSE NEIGHBOUR: 'it returns false'. Refute it at one input. -/
def fnBetweenOneWrong : ChangeSpec := { name := "fnBetweenOne", fn := fun _ => fun
  | [d] => { results := [.lit (.bool false)], args := [d] }
  | _ => none }
def FnBetweenOneWrongFalsely : Prop := fnBetweenOneRow.holds Try.pinned (OpenSpec.ofChange fnBetweenOneWrong)

/-- 'laws.FnBetweenDistance': WHATEVER THE INPUT: true; the input reads as it did. -/
def fnBetweenDistanceSpec : ChangeSpec := { name := "fnBetweenDistance", fn := fun _ => fun
  | [d] => { results := [.lit (.bool true)], args := [d] }
  | _ => none }
def fnBetweenDistanceRow : OpenClaim := { program := "ytphkpkafhilenaa", sum := "917441c2e10385b22c338993b9f951434a8970de6dbcef833c9354f35d68bfc1", func := "loop.example/ringoverlay/laws.FnBetweenDistance", spec := "fnBetweenDistance", apart := false }
def FnBetweenDistanceSaid : Prop := fnBetweenDistanceRow.holds Try.pinned (OpenSpec.ofChange fnBetweenDistanceSpec)

/-- ITS FALSE NEIGHBOUR: 'it returns false'. Refute it at one input. -/
def fnBetweenDistanceWrong : ChangeSpec := { name := "fnBetweenDistance", fn := fun _ => fun
  | [d] => { results := [.lit (.bool false)], args := [d] }
  | _ => none }
def FnBetweenDistanceWrongFalsely : Prop := fnBetweenDistanceRow.holds Try.pinned (OpenSpec.ofChange fnBetweenDistanceWrong)

/-- 'laws.FnBetweenEnds': WHATEVER THE INPUT: true; the input reads as it did. -/
def fnBetweenEndsSpec : ChangeSpec := { name := "fnBetweenEnds", fn := fun _ => fun
  | [d] => { results := [.lit (.bool true)], args := [d] }
  | _ => none }
def fnBetweenEndsRow : OpenClaim := { program := "ytphkpkafhilenaa", sum := "917441c2e10385b22c338993b9f951434a8970de6dbcef833c9354f35d68bfc1", func := "loop.example/ringoverlay/laws.FnBetweenEnds", spec := "fnBetweenEnds", apart := false }
def FnBetweenEndsSaid : Prop := fnBetweenEndsRow.holds Try.pinned (OpenSpec.ofChange fnBetweenEndsSpec)

/-- ITS FALSE NEIGHBOUR: 'it returns false'. Refute it at one input. -/
def fnBetweenEndsWrong : ChangeSpec := { name := "fnBetweenEnds", fn := fun _ => fun
  | [d] => { results := [.lit (.bool false)], args := [d] }
  | _ => none }
def FnBetweenEndsWrongFalsely : Prop := fnBetweenEndsRow.holds Try.pinned (OpenSpec.ofChange fnBetweenEndsWrong)

/-- 'laws.FnHoldsDivide': WHATEVER THE INPUT: true; the input reads as it did. -/
def fnHoldsDivideSpec : ChangeSpec := { name := "fnHoldsDivide", fn := fun _ => fun
  | [d1, d2] => { results := [.lit (.bool true)], args := [d1, d2] }
  | _ => none }
def fnHoldsDivideRow : OpenClaim := { program := "ytphkpkafhilenaa", sum := "917441c2e10385b22c338993b9f951434a8970de6dbcef833c9354f35d68bfc1", func := "loop.example/ringoverlay/laws.FnHoldsDivide", spec := "fnHoldsDivide", apart := false }
def FnHoldsDivideSaid : Prop := fnHoldsDivideRow.holds Try.pinned (OpenSpec.ofChange fnHoldsDivideSpec)

/-- ITS FALSE NEIGHBOUR: 'it returns false'. Refute it at one input. -/
def fnHoldsDivideWrong : ChangeSpec := { name := "fnHoldsDivide", fn := fun _ => fun
  | [d1, d2] => { results := [.lit (.bool false)], args := [d1, d2] }
  | _ => none }
def FnHoldsDivideWrongFalsely : Prop := fnHoldsDivideRow.holds Try.pinned (OpenSpec.ofChange fnHoldsDivideWrong)

/-- 'laws.FnHoldsCount': WHATEVER THE INPUT: true; the input reads as it did. -/
def fnHoldsCountSpec : ChangeSpec := { name := "fnHoldsCount", fn := fun _ => fun
  | [d] => { results := [.lit (.bool true)], args := [d] }
  | _ => none }
def fnHoldsCountRow : OpenClaim := { program := "ytphkpkafhilenaa", sum := "917441c2e10385b22c338993b9f951434a8970de6dbcef833c9354f35d68bfc1", func := "loop.example/ringoverlay/laws.FnHoldsCount", spec := "fnHoldsCount", apart := false }
def FnHoldsCountSaid : Prop := fnHoldsCountRow.holds Try.pinned (OpenSpec.ofChange fnHoldsCountSpec)

/-- ITS FALSE NEIGHBOUR: 'it returns false'. Refute it at one input. -/
def fnHoldsCountWrong : ChangeSpec := { name := "fnHoldsCount", fn := fun _ => fun
  | [d] => { results := [.lit (.bool false)], args := [d] }
  | _ => none }
def FnHoldsCountWrongFalsely : Prop := fnHoldsCountRow.holds Try.pinned (OpenSpec.ofChange fnHoldsCountWrong)

/-- 'laws.FnDistanceBack': WHATEVER THE INPUT: true; the input reads as it did. -/
def fnDistanceBackSpec : ChangeSpec := { name := "fnDistanceBack", fn := fun _ => fun
  | [d] => { results := [.lit (.bool true)], args := [d] }
  | _ => none }
def fnDistanceBackRow : OpenClaim := { program := "ytphkpkafhilenaa", sum := "917441c2e10385b22c338993b9f951434a8970de6dbcef833c9354f35d68bfc1", func := "loop.example/ringoverlay/laws.FnDistanceBack", spec := "fnDistanceBack", apart := false }
def FnDistanceBackSaid : Prop := fnDistanceBackRow.holds Try.pinned (OpenSpec.ofChange fnDistanceBackSpec)

/-- ITS FALSE NEIGHBOUR: 'it returns false'. Refute it at one input. -/
def fnDistanceBackWrong : ChangeSpec := { name := "fnDistanceBack", fn := fun _ => fun
  | [d] => { results := [.lit (.bool false)], args := [d] }
  | _ => none }
def FnDistanceBackWrongFalsely : Prop := fnDistanceBackRow.holds Try.pinned (OpenSpec.ofChange fnDistanceBackWrong)

/-- 'laws.FnDistanceAdd': WHATEVER THE INPUT: true; the input reads as it did. -/
def fnDistanceAddSpec : ChangeSpec := { name := "fnDistanceAdd", fn := fun _ => fun
  | [d1, d2] => { results := [.lit (.bool true)], args := [d1, d2] }
  | _ => none }
def fnDistanceAddRow : OpenClaim := { program := "ytphkpkafhilenaa", sum := "917441c2e10385b22c338993b9f951434a8970de6dbcef833c9354f35d68bfc1", func := "loop.example/ringoverlay/laws.FnDistanceAdd", spec := "fnDistanceAdd", apart := false }
def FnDistanceAddSaid : Prop := fnDistanceAddRow.holds Try.pinned (OpenSpec.ofChange fnDistanceAddSpec)

/-- ITS FALSE NEIGHBOUR: 'it returns false'. Refute it at one input. -/
def fnDistanceAddWrong : ChangeSpec := { name := "fnDistanceAdd", fn := fun _ => fun
  | [d1, d2] => { results := [.lit (.bool false)], args := [d1, d2] }
  | _ => none }
def FnDistanceAddWrongFalsely : Prop := fnDistanceAddRow.holds Try.pinned (OpenSpec.ofChange fnDistanceAddWrong)

/-- 'laws.FnNodesNext': WHATEVER THE INPUT: true; the input reads as it did. -/
def fnNodesNextSpec : ChangeSpec := { name := "fnNodesNext", fn := fun _ => fun
  | [d] => { results := [.lit (.bool true)], args := [d] }
  | _ => none }
def fnNodesNextRow : OpenClaim := { program := "ytphkpkafhilenaa", sum := "917441c2e10385b22c338993b9f951434a8970de6dbcef833c9354f35d68bfc1", func := "loop.example/ringoverlay/laws.FnNodesNext", spec := "fnNodesNext", apart := false }
def FnNodesNextSaid : Prop := fnNodesNextRow.holds Try.pinned (OpenSpec.ofChange fnNodesNextSpec)

/-- ITS FALSE NEIGHBOUR: 'it returns false'. Refute it at one input. -/
def fnNodesNextWrong : ChangeSpec := { name := "fnNodesNext", fn := fun _ => fun
  | [d] => { results := [.lit (.bool false)], args := [d] }
  | _ => none }
def FnNodesNextWrongFalsely : Prop := fnNodesNextRow.holds Try.pinned (OpenSpec.ofChange fnNodesNextWrong)

/-- 'laws.FnNodesBefore': WHATEVER THE INPUT: true; the input reads as it did. -/
def fnNodesBeforeSpec : ChangeSpec := { name := "fnNodesBefore", fn := fun _ => fun
  | [d] => { results := [.lit (.bool true)], args := [d] }
  | _ => none }
def fnNodesBeforeRow : OpenClaim := { program := "ytphkpkafhilenaa", sum := "917441c2e10385b22c338993b9f951434a8970de6dbcef833c9354f35d68bfc1", func := "loop.example/ringoverlay/laws.FnNodesBefore", spec := "fnNodesBefore", apart := false }
def FnNodesBeforeSaid : Prop := fnNodesBeforeRow.holds Try.pinned (OpenSpec.ofChange fnNodesBeforeSpec)

/-- ITS FALSE NEIGHBOUR: 'it returns false'. Refute it at one input. -/
def fnNodesBeforeWrong : ChangeSpec := { name := "fnNodesBefore", fn := fun _ => fun
  | [d] => { results := [.lit (.bool false)], args := [d] }
  | _ => none }
def FnNodesBeforeWrongFalsely : Prop := fnNodesBeforeRow.holds Try.pinned (OpenSpec.ofChange fnNodesBeforeWrong)

/-- 'laws.FnNodesJoin': WHATEVER THE INPUT: true; the input reads as it did. -/
def fnNodesJoinSpec : ChangeSpec := { name := "fnNodesJoin", fn := fun _ => fun
  | [d1, d2] => { results := [.lit (.bool true)], args := [d1, d2] }
  | _ => none }
def fnNodesJoinRow : OpenClaim := { program := "ytphkpkafhilenaa", sum := "917441c2e10385b22c338993b9f951434a8970de6dbcef833c9354f35d68bfc1", func := "loop.example/ringoverlay/laws.FnNodesJoin", spec := "fnNodesJoin", apart := false }
def FnNodesJoinSaid : Prop := fnNodesJoinRow.holds Try.pinned (OpenSpec.ofChange fnNodesJoinSpec)

/-- ITS FALSE NEIGHBOUR: 'it returns false'. Refute it at one input. -/
def fnNodesJoinWrong : ChangeSpec := { name := "fnNodesJoin", fn := fun _ => fun
  | [d1, d2] => { results := [.lit (.bool false)], args := [d1, d2] }
  | _ => none }
def FnNodesJoinWrongFalsely : Prop := fnNodesJoinRow.holds Try.pinned (OpenSpec.ofChange fnNodesJoinWrong)

/-- 'laws.FnNodesValid': WHATEVER THE INPUT: true; the input reads as it did. -/
def fnNodesValidSpec : ChangeSpec := { name := "fnNodesValid", fn := fun _ => fun
  | [d1, d2] => { results := [.lit (.bool true)], args := [d1, d2] }
  | _ => none }
def fnNodesValidRow : OpenClaim := { program := "ytphkpkafhilenaa", sum := "917441c2e10385b22c338993b9f951434a8970de6dbcef833c9354f35d68bfc1", func := "loop.example/ringoverlay/laws.FnNodesValid", spec := "fnNodesValid", apart := false }
def FnNodesValidSaid : Prop := fnNodesValidRow.holds Try.pinned (OpenSpec.ofChange fnNodesValidSpec)

/-- ITS FALSE NEIGHBOUR: 'it returns false'. Refute it at one input. -/
def fnNodesValidWrong : ChangeSpec := { name := "fnNodesValid", fn := fun _ => fun
  | [d1, d2] => { results := [.lit (.bool false)], args := [d1, d2] }
  | _ => none }
def FnNodesValidWrongFalsely : Prop := fnNodesValidRow.holds Try.pinned (OpenSpec.ofChange fnNodesValidWrong)

/- THE SECOND FORM. 'bulk': how many values and letters a reading holds, each counted each time it is reached (what is shared counts as often as it is met; a slice's spare places count too). A statement '..UptoSaid' is the law's where the arguments, and the package variables that the reading takes, are together of bulk at most 1048576: NARROWER than '..Said'. Prove '..Said' where nothing that the law and all that it calls make is longer than what came in: it says more and counts as full. Else prove '..UptoSaid'. A law counts once. -/
mutual
def uptoBulk {H : Type} : DataW H → Nat
  | .lit (.string bytes) => bytes.length + 1
  | .lit _ => 1
  | .nil => 1
  | .ptr d => uptoBulk d + 1
  | .slice elems spare => uptoBulkAll elems + uptoBulkAll spare + 1
  | .agg parts => uptoBulkAll parts + 1
  | .iface _ d => uptoBulk d + 1
  | .map entries => uptoBulkEntries entries + 1
  | .held _ => 1
def uptoBulkAll {H : Type} : List (DataW H) → Nat
  | [] => 0
  | d :: r => uptoBulk d + uptoBulkAll r
def uptoBulkEntries {H : Type} : List (Lit × DataW H) → Nat
  | [] => 0
  | x :: r => uptoBulkEntry x + uptoBulkEntries r
def uptoBulkEntry {H : Type} : Lit × DataW H → Nat
  | (.string bytes, d) => bytes.length + uptoBulk d + 1
  | (_, d) => uptoBulk d + 1
 end
def uptoSmall : (H : Type) → List (DataW H) → Bool := fun _ ds => decide (uptoBulkAll ds ≤ 1048576)
def OpenSpec.upto (s : _root_.Go.ChangeSpec) : _root_.Go.OpenSpec := { _root_.Go.OpenSpec.ofChange s with cond := some uptoSmall }

/-- 'laws.FnBetweenTurn', WHERE WHAT IT READS IS OF BULK AT MOST 1048576: true; the input reads as it did. -/
def fnBetweenTurnUptoRow : OpenClaim := { program := "ytphkpkafhilenaa", sum := "917441c2e10385b22c338993b9f951434a8970de6dbcef833c9354f35d68bfc1", func := "loop.example/ringoverlay/laws.FnBetweenTurn", spec := "fnBetweenTurn", apart := false, narrowed := true }
def FnBetweenTurnUptoSaid : Prop := fnBetweenTurnUptoRow.holds Try.pinned (OpenSpec.upto fnBetweenTurnSpec)

/-- 'laws.FnBetweenOne', WHERE WHAT IT READS IS OF BULK AT MOST 1048576: true; the input reads as it did. -/
def fnBetweenOneUptoRow : OpenClaim := { program := "ytphkpkafhilenaa", sum := "917441c2e10385b22c338993b9f951434a8970de6dbcef833c9354f35d68bfc1", func := "loop.example/ringoverlay/laws.FnBetweenOne", spec := "fnBetweenOne", apart := false, narrowed := true }
def FnBetweenOneUptoSaid : Prop := fnBetweenOneUptoRow.holds Try.pinned (OpenSpec.upto fnBetweenOneSpec)

/-- 'laws.FnBetweenDistance', WHERE WHAT IT READS IS OF BULK AT MOST 1048576: true; the input reads as it did. -/
def fnBetweenDistanceUptoRow : OpenClaim := { program := "ytphkpkafhilenaa", sum := "917441c2e10385b22c338993b9f951434a8970de6dbcef833c9354f35d68bfc1", func := "loop.example/ringoverlay/laws.FnBetweenDistance", spec := "fnBetweenDistance", apart := false, narrowed := true }
def FnBetweenDistanceUptoSaid : Prop := fnBetweenDistanceUptoRow.holds Try.pinned (OpenSpec.upto fnBetweenDistanceSpec)

/-- 'laws.FnBetweenEnds', WHERE WHAT IT READS IS OF BULK AT MOST 1048576: true; the input reads as it did. -/
def fnBetweenEndsUptoRow : OpenClaim := { program := "ytphkpkafhilenaa", sum := "917441c2e10385b22c338993b9f951434a8970de6dbcef833c9354f35d68bfc1", func := "loop.example/ringoverlay/laws.FnBetweenEnds", spec := "fnBetweenEnds", apart := false, narrowed := true }
def FnBetweenEndsUptoSaid : Prop := fnBetweenEndsUptoRow.holds Try.pinned (OpenSpec.upto fnBetweenEndsSpec)

/-- 'laws.FnHoldsDivide', WHERE WHAT IT READS IS OF BULK AT MOST 1048576: true; the input reads as it did. -/
def fnHoldsDivideUptoRow : OpenClaim := { program := "ytphkpkafhilenaa", sum := "917441c2e10385b22c338993b9f951434a8970de6dbcef833c9354f35d68bfc1", func := "loop.example/ringoverlay/laws.FnHoldsDivide", spec := "fnHoldsDivide", apart := false, narrowed := true }
def FnHoldsDivideUptoSaid : Prop := fnHoldsDivideUptoRow.holds Try.pinned (OpenSpec.upto fnHoldsDivideSpec)

/-- 'laws.FnHoldsCount', WHERE WHAT IT READS IS OF BULK AT MOST 1048576: true; the input reads as it did. -/
def fnHoldsCountUptoRow : OpenClaim := { program := "ytphkpkafhilenaa", sum := "917441c2e10385b22c338993b9f951434a8970de6dbcef833c9354f35d68bfc1", func := "loop.example/ringoverlay/laws.FnHoldsCount", spec := "fnHoldsCount", apart := false, narrowed := true }
def FnHoldsCountUptoSaid : Prop := fnHoldsCountUptoRow.holds Try.pinned (OpenSpec.upto fnHoldsCountSpec)

/-- 'laws.FnDistanceBack', WHERE WHAT IT READS IS OF BULK AT MOST 1048576: true; the input reads as it did. -/
def fnDistanceBackUptoRow : OpenClaim := { program := "ytphkpkafhilenaa", sum := "917441c2e10385b22c338993b9f951434a8970de6dbcef833c9354f35d68bfc1", func := "loop.example/ringoverlay/laws.FnDistanceBack", spec := "fnDistanceBack", apart := false, narrowed := true }
def FnDistanceBackUptoSaid : Prop := fnDistanceBackUptoRow.holds Try.pinned (OpenSpec.upto fnDistanceBackSpec)

/-- 'laws.FnDistanceAdd', WHERE WHAT IT READS IS OF BULK AT MOST 1048576: true; the input reads as it did. -/
def fnDistanceAddUptoRow : OpenClaim := { program := "ytphkpkafhilenaa", sum := "917441c2e10385b22c338993b9f951434a8970de6dbcef833c9354f35d68bfc1", func := "loop.example/ringoverlay/laws.FnDistanceAdd", spec := "fnDistanceAdd", apart := false, narrowed := true }
def FnDistanceAddUptoSaid : Prop := fnDistanceAddUptoRow.holds Try.pinned (OpenSpec.upto fnDistanceAddSpec)

/-- 'laws.FnNodesNext', WHERE WHAT IT READS IS OF BULK AT MOST 1048576: true; the input reads as it did. -/
def fnNodesNextUptoRow : OpenClaim := { program := "ytphkpkafhilenaa", sum := "917441c2e10385b22c338993b9f951434a8970de6dbcef833c9354f35d68bfc1", func := "loop.example/ringoverlay/laws.FnNodesNext", spec := "fnNodesNext", apart := false, narrowed := true }
def FnNodesNextUptoSaid : Prop := fnNodesNextUptoRow.holds Try.pinned (OpenSpec.upto fnNodesNextSpec)

/-- 'laws.FnNodesBefore', WHERE WHAT IT READS IS OF BULK AT MOST 1048576: true; the input reads as it did. -/
def fnNodesBeforeUptoRow : OpenClaim := { program := "ytphkpkafhilenaa", sum := "917441c2e10385b22c338993b9f951434a8970de6dbcef833c9354f35d68bfc1", func := "loop.example/ringoverlay/laws.FnNodesBefore", spec := "fnNodesBefore", apart := false, narrowed := true }
def FnNodesBeforeUptoSaid : Prop := fnNodesBeforeUptoRow.holds Try.pinned (OpenSpec.upto fnNodesBeforeSpec)

/-- 'laws.FnNodesJoin', WHERE WHAT IT READS IS OF BULK AT MOST 1048576: true; the input reads as it did. -/
def fnNodesJoinUptoRow : OpenClaim := { program := "ytphkpkafhilenaa", sum := "917441c2e10385b22c338993b9f951434a8970de6dbcef833c9354f35d68bfc1", func := "loop.example/ringoverlay/laws.FnNodesJoin", spec := "fnNodesJoin", apart := false, narrowed := true }
def FnNodesJoinUptoSaid : Prop := fnNodesJoinUptoRow.holds Try.pinned (OpenSpec.upto fnNodesJoinSpec)

/-- 'laws.FnNodesValid', WHERE WHAT IT READS IS OF BULK AT MOST 1048576: true; the input reads as it did. -/
def fnNodesValidUptoRow : OpenClaim := { program := "ytphkpkafhilenaa", sum := "917441c2e10385b22c338993b9f951434a8970de6dbcef833c9354f35d68bfc1", func := "loop.example/ringoverlay/laws.FnNodesValid", spec := "fnNodesValid", apart := false, narrowed := true }
def FnNodesValidUptoSaid : Prop := fnNodesValidUptoRow.holds Try.pinned (OpenSpec.upto fnNodesValidSpec)

end Rows
end Go.Proofs.Ytphkpkafhilenaa
