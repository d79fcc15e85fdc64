/-
  No cell of these rows narrows 'for every input' (looked for: loops, veiled, ifaces, maps, wideKeys, modest, calm, conditions, laid).
  DERIVED. THE GIVEN ROWS OF THIS SEAT. 14 by the template 'for every input the law returns true; each argument reads behind the call as it read before'; 0 by the template 'total and deterministic' (their statements: YtidabcdaodlfeaaTotals.lean).
  GIVEN WITH THE SEED: the statements are not yours to turn. If you find one false, say at which input.
  Laid BY PROGRAM, IN A SANDBOX (cutbox-rows.mjs): the forced cells as the released guide's own fill.sh prints them over the translation 427bd406022f8248… (all of the seat's roots in one cut). By AI agents, Wed Nov 11 2026. No macro, syntax, notation, axiom, sorry.
-/
import Derived.Test.YtidabcdaodlfeaaChecked
import GoSem.Claim
import GoSem.ClaimJoined
import GoSem.ClaimMapViews
import Derived.JoinedTies
import Derived.KernelRfl
namespace Go.Proofs.Ytidabcdaodlfeaa
/- THE CELL 'sum', in the pinned program and in every row, IS THE sha256 OF THE DUMP (.gsa) THAT YtidabcdaodlfeaaProg.lean LOADS. Nothing in Lean hashes anything: it is a label: what it is worth is what the hold of that sum in a sandbox is worth. -/
noncomputable def Try.pinned : Pinned := { name := "ytidabcdaodlfeaa", sum := "427bd406022f8248658ee0a555a3feb2b90503566feb8b20706cbac559267e38", checked := Try.checked }
namespace Rows
def none {H : Type} : Left H := { results := [], args := [] }

/-- 'laws.FnTokensOf': WHATEVER THE INPUT: true; the input reads as it did. -/
def fnTokensOfSpec : ChangeSpec := { name := "fnTokensOf", fn := fun _ => fun
  | [d1, d2] => { results := [.lit (.bool true)], args := [d1, d2] }
  | _ => none }
def fnTokensOfRow : OpenClaim := { program := "ytidabcdaodlfeaa", sum := "427bd406022f8248658ee0a555a3feb2b90503566feb8b20706cbac559267e38", func := "loop.example/ringoverlay/laws.FnTokensOf", spec := "fnTokensOf", apart := false }
def FnTokensOfSaid : Prop := fnTokensOfRow.holds Try.pinned (OpenSpec.ofChange fnTokensOfSpec)

/-- ITS FALSE NEIGHBOUR: 'it returns false'. Refute it at one input. -/
def fnTokensOfWrong : ChangeSpec := { name := "fnTokensOf", fn := fun _ => fun
  | [d1, d2] => { results := [.lit (.bool false)], args := [d1, d2] }
  | _ => none }
def FnTokensOfWrongFalsely : Prop := fnTokensOfRow.holds Try.pinned (OpenSpec.ofChange fnTokensOfWrong)

/-- 'laws.FnTableTokens': WHATEVER THE INPUT: true; the input reads as it did. -/
def fnTableTokensSpec : ChangeSpec := { name := "fnTableTokens", fn := fun _ => fun
  | [d] => { results := [.lit (.bool true)], args := [d] }
  | _ => none }
def fnTableTokensRow : OpenClaim := { program := "ytidabcdaodlfeaa", sum := "427bd406022f8248658ee0a555a3feb2b90503566feb8b20706cbac559267e38", func := "loop.example/ringoverlay/laws.FnTableTokens", spec := "fnTableTokens", unfollowed := true, recurses := true, apart := false }
def FnTableTokensSaid : Prop := fnTableTokensRow.holds Try.pinned (OpenSpec.ofChange fnTableTokensSpec)

/-- ITS FALSE NEIGHBOUR: 'it returns false'. Refute it at one input. -/
def fnTableTokensWrong : ChangeSpec := { name := "fnTableTokens", fn := fun _ => fun
  | [d] => { results := [.lit (.bool false)], args := [d] }
  | _ => none }
def FnTableTokensWrongFalsely : Prop := fnTableTokensRow.holds Try.pinned (OpenSpec.ofChange fnTableTokensWrong)

/-- 'laws.FnPlaceOwner': WHATEVER THE INPUT: true; the input reads as it did. -/
def fnPlaceOwnerSpec : ChangeSpec := { name := "fnPlaceOwner", fn := fun _ => fun
  | [d] => { results := [.lit (.bool true)], args := [d] }
  | _ => none }
def fnPlaceOwnerRow : OpenClaim := { program := "ytidabcdaodlfeaa", sum := "427bd406022f8248658ee0a555a3feb2b90503566feb8b20706cbac559267e38", func := "loop.example/ringoverlay/laws.FnPlaceOwner", spec := "fnPlaceOwner", unfollowed := true, recurses := true, apart := false }
def FnPlaceOwnerSaid : Prop := fnPlaceOwnerRow.holds Try.pinned (OpenSpec.ofChange fnPlaceOwnerSpec)

/-- ITS FALSE NEIGHBOUR: 'it returns false'. Refute it at one input. -/
def fnPlaceOwnerWrong : ChangeSpec := { name := "fnPlaceOwner", fn := fun _ => fun
  | [d] => { results := [.lit (.bool false)], args := [d] }
  | _ => none }
def FnPlaceOwnerWrongFalsely : Prop := fnPlaceOwnerRow.holds Try.pinned (OpenSpec.ofChange fnPlaceOwnerWrong)

/-- 'laws.FnPlaceLoads': WHATEVER THE INPUT: true; the input reads as it did. -/
def fnPlaceLoadsSpec : ChangeSpec := { name := "fnPlaceLoads", fn := fun _ => fun
  | [d] => { results := [.lit (.bool true)], args := [d] }
  | _ => none }
def fnPlaceLoadsRow : OpenClaim := { program := "ytidabcdaodlfeaa", sum := "427bd406022f8248658ee0a555a3feb2b90503566feb8b20706cbac559267e38", func := "loop.example/ringoverlay/laws.FnPlaceLoads", spec := "fnPlaceLoads", unfollowed := true, recurses := true, apart := false }
def FnPlaceLoadsSaid : Prop := fnPlaceLoadsRow.holds Try.pinned (OpenSpec.ofChange fnPlaceLoadsSpec)

/-- ITS FALSE NEIGHBOUR: 'it returns false'. Refute it at one input. -/
def fnPlaceLoadsWrong : ChangeSpec := { name := "fnPlaceLoads", fn := fun _ => fun
  | [d] => { results := [.lit (.bool false)], args := [d] }
  | _ => none }
def FnPlaceLoadsWrongFalsely : Prop := fnPlaceLoadsRow.holds Try.pinned (OpenSpec.ofChange fnPlaceLoadsWrong)

/-- 'laws.FnPlaceRemove': WHATEVER THE INPUT: true; the input reads as it did. -/
def fnPlaceRemoveSpec : ChangeSpec := { name := "fnPlaceRemove", fn := fun _ => fun
  | [d1, d2] => { results := [.lit (.bool true)], args := [d1, d2] }
  | _ => none }
def fnPlaceRemoveRow : OpenClaim := { program := "ytidabcdaodlfeaa", sum := "427bd406022f8248658ee0a555a3feb2b90503566feb8b20706cbac559267e38", func := "loop.example/ringoverlay/laws.FnPlaceRemove", spec := "fnPlaceRemove", unfollowed := true, recurses := true, apart := false }
def FnPlaceRemoveSaid : Prop := fnPlaceRemoveRow.holds Try.pinned (OpenSpec.ofChange fnPlaceRemoveSpec)

/-- ITS FALSE NEIGHBOUR: 'it returns false'. Refute it at one input. -/
def fnPlaceRemoveWrong : ChangeSpec := { name := "fnPlaceRemove", fn := fun _ => fun
  | [d1, d2] => { results := [.lit (.bool false)], args := [d1, d2] }
  | _ => none }
def FnPlaceRemoveWrongFalsely : Prop := fnPlaceRemoveRow.holds Try.pinned (OpenSpec.ofChange fnPlaceRemoveWrong)

/-- 'laws.FnPlaceWeight': WHATEVER THE INPUT: true; the input reads as it did. -/
def fnPlaceWeightSpec : ChangeSpec := { name := "fnPlaceWeight", fn := fun _ => fun
  | [d1, d2] => { results := [.lit (.bool true)], args := [d1, d2] }
  | _ => none }
def fnPlaceWeightRow : OpenClaim := { program := "ytidabcdaodlfeaa", sum := "427bd406022f8248658ee0a555a3feb2b90503566feb8b20706cbac559267e38", func := "loop.example/ringoverlay/laws.FnPlaceWeight", spec := "fnPlaceWeight", unfollowed := true, recurses := true, apart := false }
def FnPlaceWeightSaid : Prop := fnPlaceWeightRow.holds Try.pinned (OpenSpec.ofChange fnPlaceWeightSpec)

/-- ITS FALSE NEIGHBOUR: 'it returns false'. Refute it at one input. -/
def fnPlaceWeightWrong : ChangeSpec := { name := "fnPlaceWeight", fn := fun _ => fun
  | [d1, d2] => { results := [.lit (.bool false)], args := [d1, d2] }
  | _ => none }
def FnPlaceWeightWrongFalsely : Prop := fnPlaceWeightRow.holds Try.pinned (OpenSpec.ofChange fnPlaceWeightWrong)

/-- 'laws.FnPlaceMoved': WHATEVER THE INPUT: true; the input reads as it did. -/
def fnPlaceMovedSpec : ChangeSpec := { name := "fnPlaceMoved", fn := fun _ => fun
  | [d] => { results := [.lit (.bool true)], args := [d] }
  | _ => none }
def fnPlaceMovedRow : OpenClaim := { program := "ytidabcdaodlfeaa", sum := "427bd406022f8248658ee0a555a3feb2b90503566feb8b20706cbac559267e38", func := "loop.example/ringoverlay/laws.FnPlaceMoved", spec := "fnPlaceMoved", unfollowed := true, recurses := true, apart := false }
def FnPlaceMovedSaid : Prop := fnPlaceMovedRow.holds Try.pinned (OpenSpec.ofChange fnPlaceMovedSpec)

/-- ITS FALSE NEIGHBOUR: 'it returns false'. Refute it at one input. -/
def fnPlaceMovedWrong : ChangeSpec := { name := "fnPlaceMoved", fn := fun _ => fun
  | [d] => { results := [.lit (.bool false)], args := [d] }
  | _ => none }
def FnPlaceMovedWrongFalsely : Prop := fnPlaceMovedRow.holds Try.pinned (OpenSpec.ofChange fnPlaceMovedWrong)

/-- 'laws.FnPlaceSingle': WHATEVER THE INPUT: true; the input reads as it did. -/
def fnPlaceSingleSpec : ChangeSpec := { name := "fnPlaceSingle", fn := fun _ => fun
  | [d] => { results := [.lit (.bool true)], args := [d] }
  | _ => none }
def fnPlaceSingleRow : OpenClaim := { program := "ytidabcdaodlfeaa", sum := "427bd406022f8248658ee0a555a3feb2b90503566feb8b20706cbac559267e38", func := "loop.example/ringoverlay/laws.FnPlaceSingle", spec := "fnPlaceSingle", unfollowed := true, recurses := true, apart := false }
def FnPlaceSingleSaid : Prop := fnPlaceSingleRow.holds Try.pinned (OpenSpec.ofChange fnPlaceSingleSpec)

/-- ITS FALSE NEIGHBOUR: 'it returns false'. Refute it at one input. -/
def fnPlaceSingleWrong : ChangeSpec := { name := "fnPlaceSingle", fn := fun _ => fun
  | [d] => { results := [.lit (.bool false)], args := [d] }
  | _ => none }
def FnPlaceSingleWrongFalsely : Prop := fnPlaceSingleRow.holds Try.pinned (OpenSpec.ofChange fnPlaceSingleWrong)

/-- 'laws.FnPlaceToken': WHATEVER THE INPUT: true; the input reads as it did. -/
def fnPlaceTokenSpec : ChangeSpec := { name := "fnPlaceToken", fn := fun _ => fun
  | [d] => { results := [.lit (.bool true)], args := [d] }
  | _ => none }
def fnPlaceTokenRow : OpenClaim := { program := "ytidabcdaodlfeaa", sum := "427bd406022f8248658ee0a555a3feb2b90503566feb8b20706cbac559267e38", func := "loop.example/ringoverlay/laws.FnPlaceToken", spec := "fnPlaceToken", unfollowed := true, recurses := true, apart := false }
def FnPlaceTokenSaid : Prop := fnPlaceTokenRow.holds Try.pinned (OpenSpec.ofChange fnPlaceTokenSpec)

/-- ITS FALSE NEIGHBOUR: 'it returns false'. Refute it at one input. -/
def fnPlaceTokenWrong : ChangeSpec := { name := "fnPlaceToken", fn := fun _ => fun
  | [d] => { results := [.lit (.bool false)], args := [d] }
  | _ => none }
def FnPlaceTokenWrongFalsely : Prop := fnPlaceTokenRow.holds Try.pinned (OpenSpec.ofChange fnPlaceTokenWrong)

/-- 'laws.FnExactTokensOf': WHATEVER THE INPUT: true; the input reads as it did. -/
def fnExactTokensOfSpec : ChangeSpec := { name := "fnExactTokensOf", fn := fun _ => fun
  | [d1, d2] => { results := [.lit (.bool true)], args := [d1, d2] }
  | _ => none }
def fnExactTokensOfRow : OpenClaim := { program := "ytidabcdaodlfeaa", sum := "427bd406022f8248658ee0a555a3feb2b90503566feb8b20706cbac559267e38", func := "loop.example/ringoverlay/laws.FnExactTokensOf", spec := "fnExactTokensOf", apart := false }
def FnExactTokensOfSaid : Prop := fnExactTokensOfRow.holds Try.pinned (OpenSpec.ofChange fnExactTokensOfSpec)

/-- ITS FALSE NEIGHBOUR: 'it returns false'. Refute it at one input. -/
def fnExactTokensOfWrong : ChangeSpec := { name := "fnExactTokensOf", fn := fun _ => fun
  | [d1, d2] => { results := [.lit (.bool false)], args := [d1, d2] }
  | _ => none }
def FnExactTokensOfWrongFalsely : Prop := fnExactTokensOfRow.holds Try.pinned (OpenSpec.ofChange fnExactTokensOfWrong)

/-- 'laws.FnExactPlaceTable': WHATEVER THE INPUT: true; the input reads as it did. -/
def fnExactPlaceTableSpec : ChangeSpec := { name := "fnExactPlaceTable", fn := fun _ => fun
  | [d1, d2] => { results := [.lit (.bool true)], args := [d1, d2] }
  | _ => none }
def fnExactPlaceTableRow : OpenClaim := { program := "ytidabcdaodlfeaa", sum := "427bd406022f8248658ee0a555a3feb2b90503566feb8b20706cbac559267e38", func := "loop.example/ringoverlay/laws.FnExactPlaceTable", spec := "fnExactPlaceTable", unfollowed := true, recurses := true, apart := false }
def FnExactPlaceTableSaid : Prop := fnExactPlaceTableRow.holds Try.pinned (OpenSpec.ofChange fnExactPlaceTableSpec)

/-- ITS FALSE NEIGHBOUR: 'it returns false'. Refute it at one input. -/
def fnExactPlaceTableWrong : ChangeSpec := { name := "fnExactPlaceTable", fn := fun _ => fun
  | [d1, d2] => { results := [.lit (.bool false)], args := [d1, d2] }
  | _ => none }
def FnExactPlaceTableWrongFalsely : Prop := fnExactPlaceTableRow.holds Try.pinned (OpenSpec.ofChange fnExactPlaceTableWrong)

/-- 'laws.FnExactPlaceOwner': WHATEVER THE INPUT: true; the input reads as it did. -/
def fnExactPlaceOwnerSpec : ChangeSpec := { name := "fnExactPlaceOwner", fn := fun _ => fun
  | [d1, d2] => { results := [.lit (.bool true)], args := [d1, d2] }
  | _ => none }
def fnExactPlaceOwnerRow : OpenClaim := { program := "ytidabcdaodlfeaa", sum := "427bd406022f8248658ee0a555a3feb2b90503566feb8b20706cbac559267e38", func := "loop.example/ringoverlay/laws.FnExactPlaceOwner", spec := "fnExactPlaceOwner", unfollowed := true, recurses := true, apart := false }
def FnExactPlaceOwnerSaid : Prop := fnExactPlaceOwnerRow.holds Try.pinned (OpenSpec.ofChange fnExactPlaceOwnerSpec)

/-- ITS FALSE NEIGHBOUR: 'it returns false'. Refute it at one input. -/
def fnExactPlaceOwnerWrong : ChangeSpec := { name := "fnExactPlaceOwner", fn := fun _ => fun
  | [d1, d2] => { results := [.lit (.bool false)], args := [d1, d2] }
  | _ => none }
def FnExactPlaceOwnerWrongFalsely : Prop := fnExactPlaceOwnerRow.holds Try.pinned (OpenSpec.ofChange fnExactPlaceOwnerWrong)

/-- 'laws.FnExactPlaceLoad': WHATEVER THE INPUT: true; the input reads as it did. -/
def fnExactPlaceLoadSpec : ChangeSpec := { name := "fnExactPlaceLoad", fn := fun _ => fun
  | [d1, d2] => { results := [.lit (.bool true)], args := [d1, d2] }
  | _ => none }
def fnExactPlaceLoadRow : OpenClaim := { program := "ytidabcdaodlfeaa", sum := "427bd406022f8248658ee0a555a3feb2b90503566feb8b20706cbac559267e38", func := "loop.example/ringoverlay/laws.FnExactPlaceLoad", spec := "fnExactPlaceLoad", unfollowed := true, recurses := true, apart := false }
def FnExactPlaceLoadSaid : Prop := fnExactPlaceLoadRow.holds Try.pinned (OpenSpec.ofChange fnExactPlaceLoadSpec)

/-- ITS FALSE NEIGHBOUR: 'it returns false'. Refute it at one input. -/
def fnExactPlaceLoadWrong : ChangeSpec := { name := "fnExactPlaceLoad", fn := fun _ => fun
  | [d1, d2] => { results := [.lit (.bool false)], args := [d1, d2] }
  | _ => none }
def FnExactPlaceLoadWrongFalsely : Prop := fnExactPlaceLoadRow.holds Try.pinned (OpenSpec.ofChange fnExactPlaceLoadWrong)

/-- 'laws.FnExactPlaceMoved': WHATEVER THE INPUT: true; the input reads as it did. -/
def fnExactPlaceMovedSpec : ChangeSpec := { name := "fnExactPlaceMoved", fn := fun _ => fun
  | [d1, d2] => { results := [.lit (.bool true)], args := [d1, d2] }
  | _ => none }
def fnExactPlaceMovedRow : OpenClaim := { program := "ytidabcdaodlfeaa", sum := "427bd406022f8248658ee0a555a3feb2b90503566feb8b20706cbac559267e38", func := "loop.example/ringoverlay/laws.FnExactPlaceMoved", spec := "fnExactPlaceMoved", unfollowed := true, recurses := true, apart := false }
def FnExactPlaceMovedSaid : Prop := fnExactPlaceMovedRow.holds Try.pinned (OpenSpec.ofChange fnExactPlaceMovedSpec)

/-- ITS FALSE NEIGHBOUR: 'it returns false'. Refute it at one input. -/
def fnExactPlaceMovedWrong : ChangeSpec := { name := "fnExactPlaceMoved", fn := fun _ => fun
  | [d1, d2] => { results := [.lit (.bool false)], args := [d1, d2] }
  | _ => none }
def FnExactPlaceMovedWrongFalsely : Prop := fnExactPlaceMovedRow.holds Try.pinned (OpenSpec.ofChange fnExactPlaceMovedWrong)

/- THE SECOND FORM. 'bulk': how many values and letters a reading holds, each counted each time it is reached (what is shared counts as often as it is met; a slice's spare places count too). A statement '..UptoSaid' is the law's where the arguments, and the package variables that the reading takes, are together of bulk at most 1048576: NARROWER than '..Said'. Prove '..Said' where nothing that the law and all that it calls make is longer than what came in: it says more and counts as full. Else prove '..UptoSaid'. A law counts once. -/
mutual
def uptoBulk {H : Type} : DataW H → Nat
  | .lit (.string bytes) => bytes.length + 1
  | .lit _ => 1
  | .nil => 1
  | .ptr d => uptoBulk d + 1
  | .slice elems spare => uptoBulkAll elems + uptoBulkAll spare + 1
  | .agg parts => uptoBulkAll parts + 1
  | .iface _ d => uptoBulk d + 1
  | .map entries => uptoBulkEntries entries + 1
  | .held _ => 1
def uptoBulkAll {H : Type} : List (DataW H) → Nat
  | [] => 0
  | d :: r => uptoBulk d + uptoBulkAll r
def uptoBulkEntries {H : Type} : List (Lit × DataW H) → Nat
  | [] => 0
  | x :: r => uptoBulkEntry x + uptoBulkEntries r
def uptoBulkEntry {H : Type} : Lit × DataW H → Nat
  | (.string bytes, d) => bytes.length + uptoBulk d + 1
  | (_, d) => uptoBulk d + 1
 end
def uptoSmall : (H : Type) → List (DataW H) → Bool := fun _ ds => decide (uptoBulkAll ds ≤ 1048576)
def OpenSpec.upto (s : _root_.Go.ChangeSpec) : _root_.Go.OpenSpec := { _root_.Go.OpenSpec.ofChange s with cond := some uptoSmall }

/-- 'laws.FnTokensOf', WHERE WHAT IT READS IS OF BULK AT MOST 1048576: true; the input reads as it did. -/
def fnTokensOfUptoRow : OpenClaim := { program := "ytidabcdaodlfeaa", sum := "427bd406022f8248658ee0a555a3feb2b90503566feb8b20706cbac559267e38", func := "loop.example/ringoverlay/laws.FnTokensOf", spec := "fnTokensOf", apart := false, narrowed := true }
def FnTokensOfUptoSaid : Prop := fnTokensOfUptoRow.holds Try.pinned (OpenSpec.upto fnTokensOfSpec)

/-- 'laws.FnTableTokens', WHERE WHAT IT READS IS OF BULK AT MOST 1048576: true; the input reads as it did. -/
def fnTableTokensUptoRow : OpenClaim := { program := "ytidabcdaodlfeaa", sum := "427bd406022f8248658ee0a555a3feb2b90503566feb8b20706cbac559267e38", func := "loop.example/ringoverlay/laws.FnTableTokens", spec := "fnTableTokens", unfollowed := true, recurses := true, apart := false, narrowed := true }
def FnTableTokensUptoSaid : Prop := fnTableTokensUptoRow.holds Try.pinned (OpenSpec.upto fnTableTokensSpec)

/-- 'laws.FnPlaceOwner', WHERE WHAT IT READS IS OF BULK AT MOST 1048576: true; the input reads as it did. -/
def fnPlaceOwnerUptoRow : OpenClaim := { program := "ytidabcdaodlfeaa", sum := "427bd406022f8248658ee0a555a3feb2b90503566feb8b20706cbac559267e38", func := "loop.example/ringoverlay/laws.FnPlaceOwner", spec := "fnPlaceOwner", unfollowed := true, recurses := true, apart := false, narrowed := true }
def FnPlaceOwnerUptoSaid : Prop := fnPlaceOwnerUptoRow.holds Try.pinned (OpenSpec.upto fnPlaceOwnerSpec)

/-- 'laws.FnPlaceLoads', WHERE WHAT IT READS IS OF BULK AT MOST 1048576: true; the input reads as it did. -/
def fnPlaceLoadsUptoRow : OpenClaim := { program := "ytidabcdaodlfeaa", sum := "427bd406022f8248658ee0a555a3feb2b90503566feb8b20706cbac559267e38", func := "loop.example/ringoverlay/laws.FnPlaceLoads", spec := "fnPlaceLoads", unfollowed := true, recurses := true, apart := false, narrowed := true }
def FnPlaceLoadsUptoSaid : Prop := fnPlaceLoadsUptoRow.holds Try.pinned (OpenSpec.upto fnPlaceLoadsSpec)

/-- 'laws.FnPlaceRemove', WHERE WHAT IT READS IS OF BULK AT MOST 1048576: true; the input reads as it did. -/
def fnPlaceRemoveUptoRow : OpenClaim := { program := "ytidabcdaodlfeaa", sum := "427bd406022f8248658ee0a555a3feb2b90503566feb8b20706cbac559267e38", func := "loop.example/ringoverlay/laws.FnPlaceRemove", spec := "fnPlaceRemove", unfollowed := true, recurses := true, apart := false, narrowed := true }
def FnPlaceRemoveUptoSaid : Prop := fnPlaceRemoveUptoRow.holds Try.pinned (OpenSpec.upto fnPlaceRemoveSpec)

/-- 'laws.FnPlaceWeight', WHERE WHAT IT READS IS OF BULK AT MOST 1048576: true; the input reads as it did. -/
def fnPlaceWeightUptoRow : OpenClaim := { program := "ytidabcdaodlfeaa", sum := "427bd406022f8248658ee0a555a3feb2b90503566feb8b20706cbac559267e38", func := "loop.example/ringoverlay/laws.FnPlaceWeight", spec := "fnPlaceWeight", unfollowed := true, recurses := true, apart := false, narrowed := true }
def FnPlaceWeightUptoSaid : Prop := fnPlaceWeightUptoRow.holds Try.pinned (OpenSpec.upto fnPlaceWeightSpec)

/-- 'laws.FnPlaceMoved', WHERE WHAT IT READS IS OF BULK AT MOST 1048576: true; the input reads as it did. -/
def fnPlaceMovedUptoRow : OpenClaim := { program := "ytidabcdaodlfeaa", sum := "427bd406022f8248658ee0a555a3feb2b90503566feb8b20706cbac559267e38", func := "loop.example/ringoverlay/laws.FnPlaceMoved", spec := "fnPlaceMoved", unfollowed := true, recurses := true, apart := false, narrowed := true }
def FnPlaceMovedUptoSaid : Prop := fnPlaceMovedUptoRow.holds Try.pinned (OpenSpec.upto fnPlaceMovedSpec)

/-- 'laws.FnPlaceSingle', WHERE WHAT IT READS IS OF BULK AT MOST 1048576: true; the input reads as it did. -/
def fnPlaceSingleUptoRow : OpenClaim := { program := "ytidabcdaodlfeaa", sum := "427bd406022f8248658ee0a555a3feb2b90503566feb8b20706cbac559267e38", func := "loop.example/ringoverlay/laws.FnPlaceSingle", spec := "fnPlaceSingle", unfollowed := true, recurses := true, apart := false, narrowed := true }
def FnPlaceSingleUptoSaid : Prop := fnPlaceSingleUptoRow.holds Try.pinned (OpenSpec.upto fnPlaceSingleSpec)

/-- 'laws.FnPlaceToken', WHERE WHAT IT READS IS OF BULK AT MOST 1048576: true; the input reads as it did. -/
def fnPlaceTokenUptoRow : OpenClaim := { program := "ytidabcdaodlfeaa", sum := "427bd406022f8248658ee0a555a3feb2b90503566feb8b20706cbac559267e38", func := "loop.example/ringoverlay/laws.FnPlaceToken", spec := "fnPlaceToken", unfollowed := true, recurses := true, apart := false, narrowed := true }
def FnPlaceTokenUptoSaid : Prop := fnPlaceTokenUptoRow.holds Try.pinned (OpenSpec.upto fnPlaceTokenSpec)

/-- 'laws.FnExactTokensOf', WHERE WHAT IT READS IS OF BULK AT MOST 1048576: true; the input reads as it did. -/
def fnExactTokensOfUptoRow : OpenClaim := { program := "ytidabcdaodlfeaa", sum := "427bd406022f8248658ee0a555a3feb2b90503566feb8b20706cbac559267e38", func := "loop.example/ringoverlay/laws.FnExactTokensOf", spec := "fnExactTokensOf", apart := false, narrowed := true }
def FnExactTokensOfUptoSaid : Prop := fnExactTokensOfUptoRow.holds Try.pinned (OpenSpec.upto fnExactTokensOfSpec)

/-- 'laws.FnExactPlaceTable', WHERE WHAT IT READS IS OF BULK AT MOST 1048576: true; the input reads as it did. -/
def fnExactPlaceTableUptoRow : OpenClaim := { program := "ytidabcdaodlfeaa", sum := "427bd406022f8248658ee0a555a3feb2b90503566feb8b20706cbac559267e38", func := "loop.example/ringoverlay/laws.FnExactPlaceTable", spec := "fnExactPlaceTable", unfollowed := true, recurses := true, apart := false, narrowed := true }
def FnExactPlaceTableUptoSaid : Prop := fnExactPlaceTableUptoRow.holds Try.pinned (OpenSpec.upto fnExactPlaceTableSpec)

/-- 'laws.FnExactPlaceOwner', WHERE WHAT IT READS IS OF BULK AT MOST 1048576: true; the input reads as it did. -/
def fnExactPlaceOwnerUptoRow : OpenClaim := { program := "ytidabcdaodlfeaa", sum := "427bd406022f8248658ee0a555a3feb2b90503566feb8b20706cbac559267e38", func := "loop.example/ringoverlay/laws.FnExactPlaceOwner", spec := "fnExactPlaceOwner", unfollowed := true, recurses := true, apart := false, narrowed := true }
def FnExactPlaceOwnerUptoSaid : Prop := fnExactPlaceOwnerUptoRow.holds Try.pinned (OpenSpec.upto fnExactPlaceOwnerSpec)

/-- 'laws.FnExactPlaceLoad', WHERE WHAT IT READS IS OF BULK AT MOST 1048576: true; the input reads as it did. -/
def fnExactPlaceLoadUptoRow : OpenClaim := { program := "ytidabcdaodlfeaa", sum := "427bd406022f8248658ee0a555a3feb2b90503566feb8b20706cbac559267e38", func := "loop.example/ringoverlay/laws.FnExactPlaceLoad", spec := "fnExactPlaceLoad", unfollowed := true, recurses := true, apart := false, narrowed := true }
def FnExactPlaceLoadUptoSaid : Prop := fnExactPlaceLoadUptoRow.holds Try.pinned (OpenSpec.upto fnExactPlaceLoadSpec)

/-- 'laws.FnExactPlaceMoved', WHERE WHAT IT READS IS OF BULK AT MOST 1048576: true; the input reads as it did. -/
def fnExactPlaceMovedUptoRow : OpenClaim := { program := "ytidabcdaodlfeaa", sum := "427bd406022f8248658ee0a555a3feb2b90503566feb8b20706cbac559267e38", func := "loop.example/ringoverlay/laws.FnExactPlaceMoved", spec := "fnExactPlaceMoved", unfollowed := true, recurses := true, apart := false, narrowed := true }
def FnExactPlaceMovedUptoSaid : Prop := fnExactPlaceMovedUptoRow.holds Try.pinned (OpenSpec.upto fnExactPlaceMovedSpec)

end Rows
end Go.Proofs.Ytidabcdaodlfeaa
