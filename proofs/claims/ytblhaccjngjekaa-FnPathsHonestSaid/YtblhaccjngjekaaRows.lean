/-
  No cell of these rows narrows 'for every input' (looked for: loops, veiled, ifaces, maps, wideKeys, modest, calm, conditions, laid).
  DERIVED. THE GIVEN ROWS OF THIS SEAT. 14 by the template 'for every input the law returns true; each argument reads behind the call as it read before'; 0 by the template 'total and deterministic' (their statements: YtblhaccjngjekaaTotals.lean).
  GIVEN WITH THE SEED: the statements are not yours to turn. If you find one false, say at which input.
  Laid BY PROGRAM, IN A SANDBOX (cutbox-rows.mjs): the forced cells as the released guide's own fill.sh prints them over the translation 5411d91cbe6f1be6… (all of the seat's roots in one cut). By AI agents, Wed Nov 11 2026. No macro, syntax, notation, axiom, sorry.
-/
import Derived.Test.YtblhaccjngjekaaChecked
import GoSem.Claim
import GoSem.ClaimJoined
import GoSem.ClaimMapViews
import Derived.JoinedTies
import Derived.KernelRfl
namespace Go.Proofs.Ytblhaccjngjekaa
/- THE CELL 'sum', in the pinned program and in every row, IS THE sha256 OF THE DUMP (.gsa) THAT YtblhaccjngjekaaProg.lean LOADS. Nothing in Lean hashes anything: it is a label: what it is worth is what the hold of that sum in a sandbox is worth. -/
noncomputable def Try.pinned : Pinned := { name := "ytblhaccjngjekaa", sum := "5411d91cbe6f1be6e8931a30f5dd4d590495ceb041afda6274f0c4126bb8a893", checked := Try.checked }
namespace Rows
def none {H : Type} : Left H := { results := [], args := [] }

/-- 'laws.FnPuzzleHash': WHATEVER THE INPUT: true; the input reads as it did. -/
def fnPuzzleHashSpec : ChangeSpec := { name := "fnPuzzleHash", fn := fun _ => fun
  | [d] => { results := [.lit (.bool true)], args := [d] }
  | _ => none }
def fnPuzzleHashRow : OpenClaim := { program := "ytblhaccjngjekaa", sum := "5411d91cbe6f1be6e8931a30f5dd4d590495ceb041afda6274f0c4126bb8a893", func := "loop.example/ringoverlay/laws.FnPuzzleHash", spec := "fnPuzzleHash", apart := false }
def FnPuzzleHashSaid : Prop := fnPuzzleHashRow.holds Try.pinned (OpenSpec.ofChange fnPuzzleHashSpec)

/-- ITS FALSE NEIGHBOUR: 'it returns false'. Refute it at one input. -/
def fnPuzzleHashWrong : ChangeSpec := { name := "fnPuzzleHash", fn := fun _ => fun
  | [d] => { results := [.lit (.bool false)], args := [d] }
  | _ => none }
def FnPuzzleHashWrongFalsely : Prop := fnPuzzleHashRow.holds Try.pinned (OpenSpec.ofChange fnPuzzleHashWrong)

/-- 'laws.FnPuzzleEasier': WHATEVER THE INPUT: true; the input reads as it did. -/
def fnPuzzleEasierSpec : ChangeSpec := { name := "fnPuzzleEasier", fn := fun _ => fun
  | [d] => { results := [.lit (.bool true)], args := [d] }
  | _ => none }
def fnPuzzleEasierRow : OpenClaim := { program := "ytblhaccjngjekaa", sum := "5411d91cbe6f1be6e8931a30f5dd4d590495ceb041afda6274f0c4126bb8a893", func := "loop.example/ringoverlay/laws.FnPuzzleEasier", spec := "fnPuzzleEasier", unfollowed := true, recurses := true, apart := false }
def FnPuzzleEasierSaid : Prop := fnPuzzleEasierRow.holds Try.pinned (OpenSpec.ofChange fnPuzzleEasierSpec)

/-- ITS FALSE NEIGHBOUR: 'it returns false'. Refute it at one input. -/
def fnPuzzleEasierWrong : ChangeSpec := { name := "fnPuzzleEasier", fn := fun _ => fun
  | [d] => { results := [.lit (.bool false)], args := [d] }
  | _ => none }
def FnPuzzleEasierWrongFalsely : Prop := fnPuzzleEasierRow.holds Try.pinned (OpenSpec.ofChange fnPuzzleEasierWrong)

/-- 'laws.FnPuzzleSolve': WHATEVER THE INPUT: true; the input reads as it did. -/
def fnPuzzleSolveSpec : ChangeSpec := { name := "fnPuzzleSolve", fn := fun _ => fun
  | [d] => { results := [.lit (.bool true)], args := [d] }
  | _ => none }
def fnPuzzleSolveRow : OpenClaim := { program := "ytblhaccjngjekaa", sum := "5411d91cbe6f1be6e8931a30f5dd4d590495ceb041afda6274f0c4126bb8a893", func := "loop.example/ringoverlay/laws.FnPuzzleSolve", spec := "fnPuzzleSolve", unfollowed := true, recurses := true, apart := false }
def FnPuzzleSolveSaid : Prop := fnPuzzleSolveRow.holds Try.pinned (OpenSpec.ofChange fnPuzzleSolveSpec)

/-- ITS FALSE NEIGHBOUR: 'it returns false'. Refute it at one input. -/
def fnPuzzleSolveWrong : ChangeSpec := { name := "fnPuzzleSolve", fn := fun _ => fun
  | [d] => { results := [.lit (.bool false)], args := [d] }
  | _ => none }
def FnPuzzleSolveWrongFalsely : Prop := fnPuzzleSolveRow.holds Try.pinned (OpenSpec.ofChange fnPuzzleSolveWrong)

/-- 'laws.FnPuzzleFree': WHATEVER THE INPUT: true; the input reads as it did. -/
def fnPuzzleFreeSpec : ChangeSpec := { name := "fnPuzzleFree", fn := fun _ => fun
  | [d] => { results := [.lit (.bool true)], args := [d] }
  | _ => none }
def fnPuzzleFreeRow : OpenClaim := { program := "ytblhaccjngjekaa", sum := "5411d91cbe6f1be6e8931a30f5dd4d590495ceb041afda6274f0c4126bb8a893", func := "loop.example/ringoverlay/laws.FnPuzzleFree", spec := "fnPuzzleFree", apart := false }
def FnPuzzleFreeSaid : Prop := fnPuzzleFreeRow.holds Try.pinned (OpenSpec.ofChange fnPuzzleFreeSpec)

/-- ITS FALSE NEIGHBOUR: 'it returns false'. Refute it at one input. -/
def fnPuzzleFreeWrong : ChangeSpec := { name := "fnPuzzleFree", fn := fun _ => fun
  | [d] => { results := [.lit (.bool false)], args := [d] }
  | _ => none }
def FnPuzzleFreeWrongFalsely : Prop := fnPuzzleFreeRow.holds Try.pinned (OpenSpec.ofChange fnPuzzleFreeWrong)

/-- 'laws.FnPathsDisjoint': WHATEVER THE INPUT: true; the input reads as it did. -/
def fnPathsDisjointSpec : ChangeSpec := { name := "fnPathsDisjoint", fn := fun _ => fun
  | [d1, d2] => { results := [.lit (.bool true)], args := [d1, d2] }
  | _ => none }
def fnPathsDisjointRow : OpenClaim := { program := "ytblhaccjngjekaa", sum := "5411d91cbe6f1be6e8931a30f5dd4d590495ceb041afda6274f0c4126bb8a893", func := "loop.example/ringoverlay/laws.FnPathsDisjoint", spec := "fnPathsDisjoint", unfollowed := true, recurses := true, apart := false }
def FnPathsDisjointSaid : Prop := fnPathsDisjointRow.holds Try.pinned (OpenSpec.ofChange fnPathsDisjointSpec)

/-- ITS FALSE NEIGHBOUR: 'it returns false'. Refute it at one input. -/
def fnPathsDisjointWrong : ChangeSpec := { name := "fnPathsDisjoint", fn := fun _ => fun
  | [d1, d2] => { results := [.lit (.bool false)], args := [d1, d2] }
  | _ => none }
def FnPathsDisjointWrongFalsely : Prop := fnPathsDisjointRow.holds Try.pinned (OpenSpec.ofChange fnPathsDisjointWrong)

/-- 'laws.FnPathsAnswer': WHATEVER THE INPUT: true; the input reads as it did. -/
def fnPathsAnswerSpec : ChangeSpec := { name := "fnPathsAnswer", fn := fun _ => fun
  | [d] => { results := [.lit (.bool true)], args := [d] }
  | _ => none }
def fnPathsAnswerRow : OpenClaim := { program := "ytblhaccjngjekaa", sum := "5411d91cbe6f1be6e8931a30f5dd4d590495ceb041afda6274f0c4126bb8a893", func := "loop.example/ringoverlay/laws.FnPathsAnswer", spec := "fnPathsAnswer", apart := false }
def FnPathsAnswerSaid : Prop := fnPathsAnswerRow.holds Try.pinned (OpenSpec.ofChange fnPathsAnswerSpec)

/-- ITS FALSE NEIGHBOUR: 'it returns false'. Refute it at one input. -/
def fnPathsAnswerWrong : ChangeSpec := { name := "fnPathsAnswer", fn := fun _ => fun
  | [d] => { results := [.lit (.bool false)], args := [d] }
  | _ => none }
def FnPathsAnswerWrongFalsely : Prop := fnPathsAnswerRow.holds Try.pinned (OpenSpec.ofChange fnPathsAnswerWrong)

/-- 'laws.FnPathsHonest': WHATEVER THE INPUT: true; the input reads as it did. -/
def fnPathsHonestSpec : ChangeSpec := { name := "fnPathsHonest", fn := fun _ => fun
  | [d] => { results := [.lit (.bool true)], args := [d] }
  | _ => none }
def fnPathsHonestRow : OpenClaim := { program := "ytblhaccjngjekaa", sum := "5411d91cbe6f1be6e8931a30f5dd4d590495ceb041afda6274f0c4126bb8a893", func := "loop.example/ringoverlay/laws.FnPathsHonest", spec := "fnPathsHonest", unfollowed := true, recurses := true, apart := false }
def FnPathsHonestSaid : Prop := fnPathsHonestRow.holds Try.pinned (OpenSpec.ofChange fnPathsHonestSpec)

/-- ITS FALSE NEIGHBOUR: 'it returns false'. Refute it at one input. -/
def fnPathsHonestWrong : ChangeSpec := { name := "fnPathsHonest", fn := fun _ => fun
  | [d] => { results := [.lit (.bool false)], args := [d] }
  | _ => none }
def FnPathsHonestWrongFalsely : Prop := fnPathsHonestRow.holds Try.pinned (OpenSpec.ofChange fnPathsHonestWrong)

/-- 'laws.FnPathsOutvote': WHATEVER THE INPUT: true; the input reads as it did. -/
def fnPathsOutvoteSpec : ChangeSpec := { name := "fnPathsOutvote", fn := fun _ => fun
  | [d1, d2] => { results := [.lit (.bool true)], args := [d1, d2] }
  | _ => none }
def fnPathsOutvoteRow : OpenClaim := { program := "ytblhaccjngjekaa", sum := "5411d91cbe6f1be6e8931a30f5dd4d590495ceb041afda6274f0c4126bb8a893", func := "loop.example/ringoverlay/laws.FnPathsOutvote", spec := "fnPathsOutvote", unfollowed := true, recurses := true, apart := false }
def FnPathsOutvoteSaid : Prop := fnPathsOutvoteRow.holds Try.pinned (OpenSpec.ofChange fnPathsOutvoteSpec)

/-- ITS FALSE NEIGHBOUR: 'it returns false'. Refute it at one input. -/
def fnPathsOutvoteWrong : ChangeSpec := { name := "fnPathsOutvote", fn := fun _ => fun
  | [d1, d2] => { results := [.lit (.bool false)], args := [d1, d2] }
  | _ => none }
def FnPathsOutvoteWrongFalsely : Prop := fnPathsOutvoteRow.holds Try.pinned (OpenSpec.ofChange fnPathsOutvoteWrong)

/-- 'laws.FnExactPuzzleHash': WHATEVER THE INPUT: true; the input reads as it did. -/
def fnExactPuzzleHashSpec : ChangeSpec := { name := "fnExactPuzzleHash", fn := fun _ => fun
  | [d1, d2] => { results := [.lit (.bool true)], args := [d1, d2] }
  | _ => none }
def fnExactPuzzleHashRow : OpenClaim := { program := "ytblhaccjngjekaa", sum := "5411d91cbe6f1be6e8931a30f5dd4d590495ceb041afda6274f0c4126bb8a893", func := "loop.example/ringoverlay/laws.FnExactPuzzleHash", spec := "fnExactPuzzleHash", apart := false }
def FnExactPuzzleHashSaid : Prop := fnExactPuzzleHashRow.holds Try.pinned (OpenSpec.ofChange fnExactPuzzleHashSpec)

/-- ITS FALSE NEIGHBOUR: 'it returns false'. Refute it at one input. -/
def fnExactPuzzleHashWrong : ChangeSpec := { name := "fnExactPuzzleHash", fn := fun _ => fun
  | [d1, d2] => { results := [.lit (.bool false)], args := [d1, d2] }
  | _ => none }
def FnExactPuzzleHashWrongFalsely : Prop := fnExactPuzzleHashRow.holds Try.pinned (OpenSpec.ofChange fnExactPuzzleHashWrong)

/-- 'laws.FnExactPuzzleOk': WHATEVER THE INPUT: true; the input reads as it did. -/
def fnExactPuzzleOkSpec : ChangeSpec := { name := "fnExactPuzzleOk", fn := fun _ => fun
  | [d1, d2, d3] => { results := [.lit (.bool true)], args := [d1, d2, d3] }
  | _ => none }
def fnExactPuzzleOkRow : OpenClaim := { program := "ytblhaccjngjekaa", sum := "5411d91cbe6f1be6e8931a30f5dd4d590495ceb041afda6274f0c4126bb8a893", func := "loop.example/ringoverlay/laws.FnExactPuzzleOk", spec := "fnExactPuzzleOk", unfollowed := true, recurses := true, apart := false }
def FnExactPuzzleOkSaid : Prop := fnExactPuzzleOkRow.holds Try.pinned (OpenSpec.ofChange fnExactPuzzleOkSpec)

/-- ITS FALSE NEIGHBOUR: 'it returns false'. Refute it at one input. -/
def fnExactPuzzleOkWrong : ChangeSpec := { name := "fnExactPuzzleOk", fn := fun _ => fun
  | [d1, d2, d3] => { results := [.lit (.bool false)], args := [d1, d2, d3] }
  | _ => none }
def FnExactPuzzleOkWrongFalsely : Prop := fnExactPuzzleOkRow.holds Try.pinned (OpenSpec.ofChange fnExactPuzzleOkWrong)

/-- 'laws.FnExactPuzzleSolve': WHATEVER THE INPUT: true; the input reads as it did. -/
def fnExactPuzzleSolveSpec : ChangeSpec := { name := "fnExactPuzzleSolve", fn := fun _ => fun
  | [d1, d2] => { results := [.lit (.bool true)], args := [d1, d2] }
  | _ => none }
def fnExactPuzzleSolveRow : OpenClaim := { program := "ytblhaccjngjekaa", sum := "5411d91cbe6f1be6e8931a30f5dd4d590495ceb041afda6274f0c4126bb8a893", func := "loop.example/ringoverlay/laws.FnExactPuzzleSolve", spec := "fnExactPuzzleSolve", apart := false }
def FnExactPuzzleSolveSaid : Prop := fnExactPuzzleSolveRow.holds Try.pinned (OpenSpec.ofChange fnExactPuzzleSolveSpec)

/-- ITS FALSE NEIGHBOUR: 'it returns false'. Refute it at one input. -/
def fnExactPuzzleSolveWrong : ChangeSpec := { name := "fnExactPuzzleSolve", fn := fun _ => fun
  | [d1, d2] => { results := [.lit (.bool false)], args := [d1, d2] }
  | _ => none }
def FnExactPuzzleSolveWrongFalsely : Prop := fnExactPuzzleSolveRow.holds Try.pinned (OpenSpec.ofChange fnExactPuzzleSolveWrong)

/-- 'laws.FnExactPathsDisjoint': WHATEVER THE INPUT: true; the input reads as it did. -/
def fnExactPathsDisjointSpec : ChangeSpec := { name := "fnExactPathsDisjoint", fn := fun _ => fun
  | [d] => { results := [.lit (.bool true)], args := [d] }
  | _ => none }
def fnExactPathsDisjointRow : OpenClaim := { program := "ytblhaccjngjekaa", sum := "5411d91cbe6f1be6e8931a30f5dd4d590495ceb041afda6274f0c4126bb8a893", func := "loop.example/ringoverlay/laws.FnExactPathsDisjoint", spec := "fnExactPathsDisjoint", unfollowed := true, recurses := true, apart := false }
def FnExactPathsDisjointSaid : Prop := fnExactPathsDisjointRow.holds Try.pinned (OpenSpec.ofChange fnExactPathsDisjointSpec)

/-- ITS FALSE NEIGHBOUR: 'it returns false'. Refute it at one input. -/
def fnExactPathsDisjointWrong : ChangeSpec := { name := "fnExactPathsDisjoint", fn := fun _ => fun
  | [d] => { results := [.lit (.bool false)], args := [d] }
  | _ => none }
def FnExactPathsDisjointWrongFalsely : Prop := fnExactPathsDisjointRow.holds Try.pinned (OpenSpec.ofChange fnExactPathsDisjointWrong)

/-- 'laws.FnExactPathsAnswer': WHATEVER THE INPUT: true; the input reads as it did. -/
def fnExactPathsAnswerSpec : ChangeSpec := { name := "fnExactPathsAnswer", fn := fun _ => fun
  | [d] => { results := [.lit (.bool true)], args := [d] }
  | _ => none }
def fnExactPathsAnswerRow : OpenClaim := { program := "ytblhaccjngjekaa", sum := "5411d91cbe6f1be6e8931a30f5dd4d590495ceb041afda6274f0c4126bb8a893", func := "loop.example/ringoverlay/laws.FnExactPathsAnswer", spec := "fnExactPathsAnswer", apart := false }
def FnExactPathsAnswerSaid : Prop := fnExactPathsAnswerRow.holds Try.pinned (OpenSpec.ofChange fnExactPathsAnswerSpec)

/-- ITS FALSE NEIGHBOUR: 'it returns false'. Refute it at one input. -/
def fnExactPathsAnswerWrong : ChangeSpec := { name := "fnExactPathsAnswer", fn := fun _ => fun
  | [d] => { results := [.lit (.bool false)], args := [d] }
  | _ => none }
def FnExactPathsAnswerWrongFalsely : Prop := fnExactPathsAnswerRow.holds Try.pinned (OpenSpec.ofChange fnExactPathsAnswerWrong)

/-- 'laws.FnExactPathsHonest': WHATEVER THE INPUT: true; the input reads as it did. -/
def fnExactPathsHonestSpec : ChangeSpec := { name := "fnExactPathsHonest", fn := fun _ => fun
  | [d1, d2] => { results := [.lit (.bool true)], args := [d1, d2] }
  | _ => none }
def fnExactPathsHonestRow : OpenClaim := { program := "ytblhaccjngjekaa", sum := "5411d91cbe6f1be6e8931a30f5dd4d590495ceb041afda6274f0c4126bb8a893", func := "loop.example/ringoverlay/laws.FnExactPathsHonest", spec := "fnExactPathsHonest", unfollowed := true, recurses := true, apart := false }
def FnExactPathsHonestSaid : Prop := fnExactPathsHonestRow.holds Try.pinned (OpenSpec.ofChange fnExactPathsHonestSpec)

/-- ITS FALSE NEIGHBOUR: 'it returns false'. Refute it at one input. -/
def fnExactPathsHonestWrong : ChangeSpec := { name := "fnExactPathsHonest", fn := fun _ => fun
  | [d1, d2] => { results := [.lit (.bool false)], args := [d1, d2] }
  | _ => none }
def FnExactPathsHonestWrongFalsely : Prop := fnExactPathsHonestRow.holds Try.pinned (OpenSpec.ofChange fnExactPathsHonestWrong)

/- THE SECOND FORM. 'bulk': how many values and letters a reading holds, each counted each time it is reached (what is shared counts as often as it is met; a slice's spare places count too). A statement '..UptoSaid' is the law's where the arguments, and the package variables that the reading takes, are together of bulk at most 1048576: NARROWER than '..Said'. Prove '..Said' where nothing that the law and all that it calls make is longer than what came in: it says more and counts as full. Else prove '..UptoSaid'. A law counts once. -/
mutual
def uptoBulk {H : Type} : DataW H → Nat
  | .lit (.string bytes) => bytes.length + 1
  | .lit _ => 1
  | .nil => 1
  | .ptr d => uptoBulk d + 1
  | .slice elems spare => uptoBulkAll elems + uptoBulkAll spare + 1
  | .agg parts => uptoBulkAll parts + 1
  | .iface _ d => uptoBulk d + 1
  | .map entries => uptoBulkEntries entries + 1
  | .held _ => 1
def uptoBulkAll {H : Type} : List (DataW H) → Nat
  | [] => 0
  | d :: r => uptoBulk d + uptoBulkAll r
def uptoBulkEntries {H : Type} : List (Lit × DataW H) → Nat
  | [] => 0
  | x :: r => uptoBulkEntry x + uptoBulkEntries r
def uptoBulkEntry {H : Type} : Lit × DataW H → Nat
  | (.string bytes, d) => bytes.length + uptoBulk d + 1
  | (_, d) => uptoBulk d + 1
 end
def uptoSmall : (H : Type) → List (DataW H) → Bool := fun _ ds => decide (uptoBulkAll ds ≤ 1048576)
def OpenSpec.upto (s : _root_.Go.ChangeSpec) : _root_.Go.OpenSpec := { _root_.Go.OpenSpec.ofChange s with cond := some uptoSmall }

/-- 'laws.FnPuzzleHash', WHERE WHAT IT READS IS OF BULK AT MOST 1048576: true; the input reads as it did. -/
def fnPuzzleHashUptoRow : OpenClaim := { program := "ytblhaccjngjekaa", sum := "5411d91cbe6f1be6e8931a30f5dd4d590495ceb041afda6274f0c4126bb8a893", func := "loop.example/ringoverlay/laws.FnPuzzleHash", spec := "fnPuzzleHash", apart := false, narrowed := true }
def FnPuzzleHashUptoSaid : Prop := fnPuzzleHashUptoRow.holds Try.pinned (OpenSpec.upto fnPuzzleHashSpec)

/-- 'laws.FnPuzzleEasier', WHERE WHAT IT READS IS OF BULK AT MOST 1048576: true; the input reads as it did. -/
def fnPuzzleEasierUptoRow : OpenClaim := { program := "ytblhaccjngjekaa", sum := "5411d91cbe6f1be6e8931a30f5dd4d590495ceb041afda6274f0c4126bb8a893", func := "loop.example/ringoverlay/laws.FnPuzzleEasier", spec := "fnPuzzleEasier", unfollowed := true, recurses := true, apart := false, narrowed := true }
def FnPuzzleEasierUptoSaid : Prop := fnPuzzleEasierUptoRow.holds Try.pinned (OpenSpec.upto fnPuzzleEasierSpec)

/-- 'laws.FnPuzzleSolve', WHERE WHAT IT READS IS OF BULK AT MOST 1048576: true; the input reads as it did. -/
def fnPuzzleSolveUptoRow : OpenClaim := { program := "ytblhaccjngjekaa", sum := "5411d91cbe6f1be6e8931a30f5dd4d590495ceb041afda6274f0c4126bb8a893", func := "loop.example/ringoverlay/laws.FnPuzzleSolve", spec := "fnPuzzleSolve", unfollowed := true, recurses := true, apart := false, narrowed := true }
def FnPuzzleSolveUptoSaid : Prop := fnPuzzleSolveUptoRow.holds Try.pinned (OpenSpec.upto fnPuzzleSolveSpec)

/-- 'laws.FnPuzzleFree', WHERE WHAT IT READS IS OF BULK AT MOST 1048576: true; the input reads as it did. -/
def fnPuzzleFreeUptoRow : OpenClaim := { program := "ytblhaccjngjekaa", sum := "5411d91cbe6f1be6e8931a30f5dd4d590495ceb041afda6274f0c4126bb8a893", func := "loop.example/ringoverlay/laws.FnPuzzleFree", spec := "fnPuzzleFree", apart := false, narrowed := true }
def FnPuzzleFreeUptoSaid : Prop := fnPuzzleFreeUptoRow.holds Try.pinned (OpenSpec.upto fnPuzzleFreeSpec)

/-- 'laws.FnPathsDisjoint', WHERE WHAT IT READS IS OF BULK AT MOST 1048576: true; the input reads as it did. -/
def fnPathsDisjointUptoRow : OpenClaim := { program := "ytblhaccjngjekaa", sum := "5411d91cbe6f1be6e8931a30f5dd4d590495ceb041afda6274f0c4126bb8a893", func := "loop.example/ringoverlay/laws.FnPathsDisjoint", spec := "fnPathsDisjoint", unfollowed := true, recurses := true, apart := false, narrowed := true }
def FnPathsDisjointUptoSaid : Prop := fnPathsDisjointUptoRow.holds Try.pinned (OpenSpec.upto fnPathsDisjointSpec)

/-- 'laws.FnPathsAnswer', WHERE WHAT IT READS IS OF BULK AT MOST 1048576: true; the input reads as it did. -/
def fnPathsAnswerUptoRow : OpenClaim := { program := "ytblhaccjngjekaa", sum := "5411d91cbe6f1be6e8931a30f5dd4d590495ceb041afda6274f0c4126bb8a893", func := "loop.example/ringoverlay/laws.FnPathsAnswer", spec := "fnPathsAnswer", apart := false, narrowed := true }
def FnPathsAnswerUptoSaid : Prop := fnPathsAnswerUptoRow.holds Try.pinned (OpenSpec.upto fnPathsAnswerSpec)

/-- 'laws.FnPathsHonest', WHERE WHAT IT READS IS OF BULK AT MOST 1048576: true; the input reads as it did. -/
def fnPathsHonestUptoRow : OpenClaim := { program := "ytblhaccjngjekaa", sum := "5411d91cbe6f1be6e8931a30f5dd4d590495ceb041afda6274f0c4126bb8a893", func := "loop.example/ringoverlay/laws.FnPathsHonest", spec := "fnPathsHonest", unfollowed := true, recurses := true, apart := false, narrowed := true }
def FnPathsHonestUptoSaid : Prop := fnPathsHonestUptoRow.holds Try.pinned (OpenSpec.upto fnPathsHonestSpec)

/-- 'laws.FnPathsOutvote', WHERE WHAT IT READS IS OF BULK AT MOST 1048576: true; the input reads as it did. -/
def fnPathsOutvoteUptoRow : OpenClaim := { program := "ytblhaccjngjekaa", sum := "5411d91cbe6f1be6e8931a30f5dd4d590495ceb041afda6274f0c4126bb8a893", func := "loop.example/ringoverlay/laws.FnPathsOutvote", spec := "fnPathsOutvote", unfollowed := true, recurses := true, apart := false, narrowed := true }
def FnPathsOutvoteUptoSaid : Prop := fnPathsOutvoteUptoRow.holds Try.pinned (OpenSpec.upto fnPathsOutvoteSpec)

/-- 'laws.FnExactPuzzleHash', WHERE WHAT IT READS IS OF BULK AT MOST 1048576: true; the input reads as it did. -/
def fnExactPuzzleHashUptoRow : OpenClaim := { program := "ytblhaccjngjekaa", sum := "5411d91cbe6f1be6e8931a30f5dd4d590495ceb041afda6274f0c4126bb8a893", func := "loop.example/ringoverlay/laws.FnExactPuzzleHash", spec := "fnExactPuzzleHash", apart := false, narrowed := true }
def FnExactPuzzleHashUptoSaid : Prop := fnExactPuzzleHashUptoRow.holds Try.pinned (OpenSpec.upto fnExactPuzzleHashSpec)

/-- 'laws.FnExactPuzzleOk', WHERE WHAT IT READS IS OF BULK AT MOST 1048576: true; the input reads as it did. -/
def fnExactPuzzleOkUptoRow : OpenClaim := { program := "ytblhaccjngjekaa", sum := "5411d91cbe6f1be6e8931a30f5dd4d590495ceb041afda6274f0c4126bb8a893", func := "loop.example/ringoverlay/laws.FnExactPuzzleOk", spec := "fnExactPuzzleOk", unfollowed := true, recurses := true, apart := false, narrowed := true }
def FnExactPuzzleOkUptoSaid : Prop := fnExactPuzzleOkUptoRow.holds Try.pinned (OpenSpec.upto fnExactPuzzleOkSpec)

/-- 'laws.FnExactPuzzleSolve', WHERE WHAT IT READS IS OF BULK AT MOST 1048576: true; the input reads as it did. -/
def fnExactPuzzleSolveUptoRow : OpenClaim := { program := "ytblhaccjngjekaa", sum := "5411d91cbe6f1be6e8931a30f5dd4d590495ceb041afda6274f0c4126bb8a893", func := "loop.example/ringoverlay/laws.FnExactPuzzleSolve", spec := "fnExactPuzzleSolve", apart := false, narrowed := true }
def FnExactPuzzleSolveUptoSaid : Prop := fnExactPuzzleSolveUptoRow.holds Try.pinned (OpenSpec.upto fnExactPuzzleSolveSpec)

/-- 'laws.FnExactPathsDisjoint', WHERE WHAT IT READS IS OF BULK AT MOST 1048576: true; the input reads as it did. -/
def fnExactPathsDisjointUptoRow : OpenClaim := { program := "ytblhaccjngjekaa", sum := "5411d91cbe6f1be6e8931a30f5dd4d590495ceb041afda6274f0c4126bb8a893", func := "loop.example/ringoverlay/laws.FnExactPathsDisjoint", spec := "fnExactPathsDisjoint", unfollowed := true, recurses := true, apart := false, narrowed := true }
def FnExactPathsDisjointUptoSaid : Prop := fnExactPathsDisjointUptoRow.holds Try.pinned (OpenSpec.upto fnExactPathsDisjointSpec)

/-- 'laws.FnExactPathsAnswer', WHERE WHAT IT READS IS OF BULK AT MOST 1048576: true; the input reads as it did. -/
def fnExactPathsAnswerUptoRow : OpenClaim := { program := "ytblhaccjngjekaa", sum := "5411d91cbe6f1be6e8931a30f5dd4d590495ceb041afda6274f0c4126bb8a893", func := "loop.example/ringoverlay/laws.FnExactPathsAnswer", spec := "fnExactPathsAnswer", apart := false, narrowed := true }
def FnExactPathsAnswerUptoSaid : Prop := fnExactPathsAnswerUptoRow.holds Try.pinned (OpenSpec.upto fnExactPathsAnswerSpec)

/-- 'laws.FnExactPathsHonest', WHERE WHAT IT READS IS OF BULK AT MOST 1048576: true; the input reads as it did. -/
def fnExactPathsHonestUptoRow : OpenClaim := { program := "ytblhaccjngjekaa", sum := "5411d91cbe6f1be6e8931a30f5dd4d590495ceb041afda6274f0c4126bb8a893", func := "loop.example/ringoverlay/laws.FnExactPathsHonest", spec := "fnExactPathsHonest", unfollowed := true, recurses := true, apart := false, narrowed := true }
def FnExactPathsHonestUptoSaid : Prop := fnExactPathsHonestUptoRow.holds Try.pinned (OpenSpec.upto fnExactPathsHonestSpec)

end Rows
end Go.Proofs.Ytblhaccjngjekaa
