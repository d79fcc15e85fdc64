/-
  No cell of these rows narrows 'for every input' (looked for: loops, veiled, ifaces, maps, wideKeys, modest, calm, conditions, laid).
  DERIVED. THE GIVEN ROWS OF THIS SEAT. 12 by the template 'for every input the law returns true; each argument reads behind the call as it read before'; 0 by the template 'total and deterministic' (their statements: YtenhaccdiamagaaTotals.lean).
  GIVEN WITH THE SEED: the statements are not yours to turn. If you find one false, say at which input.
  Laid BY PROGRAM, IN A SANDBOX (cutbox-rows.mjs): the forced cells as the released guide's own fill.sh prints them over the translation 605906c4dc648f3d… (all of the seat's roots in one cut). By AI agents, Wed Nov 11 2026. No macro, syntax, notation, axiom, sorry.
-/
import Derived.Test.YtenhaccdiamagaaChecked
import GoSem.Claim
import GoSem.ClaimJoined
import GoSem.ClaimMapViews
import Derived.JoinedTies
import Derived.KernelRfl
namespace Go.Proofs.Ytenhaccdiamagaa
/- THE CELL 'sum', in the pinned program and in every row, IS THE sha256 OF THE DUMP (.gsa) THAT YtenhaccdiamagaaProg.lean LOADS. Nothing in Lean hashes anything: it is a label: what it is worth is what the hold of that sum in a sandbox is worth. -/
noncomputable def Try.pinned : Pinned := { name := "ytenhaccdiamagaa", sum := "605906c4dc648f3daf8b2fa391a64a14565350d5ac8a9ca40d567e337595b7a0", checked := Try.checked }
namespace Rows
def none {H : Type} : Left H := { results := [], args := [] }

/-- 'laws.FnScanStep': WHATEVER THE INPUT: true; the input reads as it did. -/
def fnScanStepSpec : ChangeSpec := { name := "fnScanStep", fn := fun _ => fun
  | [d] => { results := [.lit (.bool true)], args := [d] }
  | _ => none }
def fnScanStepRow : OpenClaim := { program := "ytenhaccdiamagaa", sum := "605906c4dc648f3daf8b2fa391a64a14565350d5ac8a9ca40d567e337595b7a0", func := "loop.example/ringoverlay/laws.FnScanStep", spec := "fnScanStep", unfollowed := true, recurses := true, apart := false }
def FnScanStepSaid : Prop := fnScanStepRow.holds Try.pinned (OpenSpec.ofChange fnScanStepSpec)

/-- ITS FALSE NEIGHBOUR: 'it returns false'. Refute it at one input. -/
def fnScanStepWrong : ChangeSpec := { name := "fnScanStep", fn := fun _ => fun
  | [d] => { results := [.lit (.bool false)], args := [d] }
  | _ => none }
def FnScanStepWrongFalsely : Prop := fnScanStepRow.holds Try.pinned (OpenSpec.ofChange fnScanStepWrong)

/-- 'laws.FnScanStepKeys': WHATEVER THE INPUT: true; the input reads as it did. -/
def fnScanStepKeysSpec : ChangeSpec := { name := "fnScanStepKeys", fn := fun _ => fun
  | [d] => { results := [.lit (.bool true)], args := [d] }
  | _ => none }
def fnScanStepKeysRow : OpenClaim := { program := "ytenhaccdiamagaa", sum := "605906c4dc648f3daf8b2fa391a64a14565350d5ac8a9ca40d567e337595b7a0", func := "loop.example/ringoverlay/laws.FnScanStepKeys", spec := "fnScanStepKeys", unfollowed := true, recurses := true, apart := false }
def FnScanStepKeysSaid : Prop := fnScanStepKeysRow.holds Try.pinned (OpenSpec.ofChange fnScanStepKeysSpec)

/-- ITS FALSE NEIGHBOUR: 'it returns false'. Refute it at one input. -/
def fnScanStepKeysWrong : ChangeSpec := { name := "fnScanStepKeys", fn := fun _ => fun
  | [d] => { results := [.lit (.bool false)], args := [d] }
  | _ => none }
def FnScanStepKeysWrongFalsely : Prop := fnScanStepKeysRow.holds Try.pinned (OpenSpec.ofChange fnScanStepKeysWrong)

/-- 'laws.FnScanStepOne': WHATEVER THE INPUT: true; the input reads as it did. -/
def fnScanStepOneSpec : ChangeSpec := { name := "fnScanStepOne", fn := fun _ => fun
  | [d] => { results := [.lit (.bool true)], args := [d] }
  | _ => none }
def fnScanStepOneRow : OpenClaim := { program := "ytenhaccdiamagaa", sum := "605906c4dc648f3daf8b2fa391a64a14565350d5ac8a9ca40d567e337595b7a0", func := "loop.example/ringoverlay/laws.FnScanStepOne", spec := "fnScanStepOne", unfollowed := true, recurses := true, apart := false }
def FnScanStepOneSaid : Prop := fnScanStepOneRow.holds Try.pinned (OpenSpec.ofChange fnScanStepOneSpec)

/-- ITS FALSE NEIGHBOUR: 'it returns false'. Refute it at one input. -/
def fnScanStepOneWrong : ChangeSpec := { name := "fnScanStepOne", fn := fun _ => fun
  | [d] => { results := [.lit (.bool false)], args := [d] }
  | _ => none }
def FnScanStepOneWrongFalsely : Prop := fnScanStepOneRow.holds Try.pinned (OpenSpec.ofChange fnScanStepOneWrong)

/-- 'laws.FnScanDone': WHATEVER THE INPUT: true; the input reads as it did. -/
def fnScanDoneSpec : ChangeSpec := { name := "fnScanDone", fn := fun _ => fun
  | [d1, d2] => { results := [.lit (.bool true)], args := [d1, d2] }
  | _ => none }
def fnScanDoneRow : OpenClaim := { program := "ytenhaccdiamagaa", sum := "605906c4dc648f3daf8b2fa391a64a14565350d5ac8a9ca40d567e337595b7a0", func := "loop.example/ringoverlay/laws.FnScanDone", spec := "fnScanDone", unfollowed := true, recurses := true, apart := false }
def FnScanDoneSaid : Prop := fnScanDoneRow.holds Try.pinned (OpenSpec.ofChange fnScanDoneSpec)

/-- ITS FALSE NEIGHBOUR: 'it returns false'. Refute it at one input. -/
def fnScanDoneWrong : ChangeSpec := { name := "fnScanDone", fn := fun _ => fun
  | [d1, d2] => { results := [.lit (.bool false)], args := [d1, d2] }
  | _ => none }
def FnScanDoneWrongFalsely : Prop := fnScanDoneRow.holds Try.pinned (OpenSpec.ofChange fnScanDoneWrong)

/-- 'laws.FnScanAll': WHATEVER THE INPUT: true; the input reads as it did. -/
def fnScanAllSpec : ChangeSpec := { name := "fnScanAll", fn := fun _ => fun
  | [d] => { results := [.lit (.bool true)], args := [d] }
  | _ => none }
def fnScanAllRow : OpenClaim := { program := "ytenhaccdiamagaa", sum := "605906c4dc648f3daf8b2fa391a64a14565350d5ac8a9ca40d567e337595b7a0", func := "loop.example/ringoverlay/laws.FnScanAll", spec := "fnScanAll", unfollowed := true, recurses := true, apart := false }
def FnScanAllSaid : Prop := fnScanAllRow.holds Try.pinned (OpenSpec.ofChange fnScanAllSpec)

/-- ITS FALSE NEIGHBOUR: 'it returns false'. Refute it at one input. -/
def fnScanAllWrong : ChangeSpec := { name := "fnScanAll", fn := fun _ => fun
  | [d] => { results := [.lit (.bool false)], args := [d] }
  | _ => none }
def FnScanAllWrongFalsely : Prop := fnScanAllRow.holds Try.pinned (OpenSpec.ofChange fnScanAllWrong)

/-- 'laws.FnScanSteps': WHATEVER THE INPUT: true; the input reads as it did. -/
def fnScanStepsSpec : ChangeSpec := { name := "fnScanSteps", fn := fun _ => fun
  | [d] => { results := [.lit (.bool true)], args := [d] }
  | _ => none }
def fnScanStepsRow : OpenClaim := { program := "ytenhaccdiamagaa", sum := "605906c4dc648f3daf8b2fa391a64a14565350d5ac8a9ca40d567e337595b7a0", func := "loop.example/ringoverlay/laws.FnScanSteps", spec := "fnScanSteps", unfollowed := true, recurses := true, apart := false }
def FnScanStepsSaid : Prop := fnScanStepsRow.holds Try.pinned (OpenSpec.ofChange fnScanStepsSpec)

/-- ITS FALSE NEIGHBOUR: 'it returns false'. Refute it at one input. -/
def fnScanStepsWrong : ChangeSpec := { name := "fnScanSteps", fn := fun _ => fun
  | [d] => { results := [.lit (.bool false)], args := [d] }
  | _ => none }
def FnScanStepsWrongFalsely : Prop := fnScanStepsRow.holds Try.pinned (OpenSpec.ofChange fnScanStepsWrong)

/-- 'laws.FnScanMoves': WHATEVER THE INPUT: true; the input reads as it did. -/
def fnScanMovesSpec : ChangeSpec := { name := "fnScanMoves", fn := fun _ => fun
  | [d1, d2] => { results := [.lit (.bool true)], args := [d1, d2] }
  | _ => none }
def fnScanMovesRow : OpenClaim := { program := "ytenhaccdiamagaa", sum := "605906c4dc648f3daf8b2fa391a64a14565350d5ac8a9ca40d567e337595b7a0", func := "loop.example/ringoverlay/laws.FnScanMoves", spec := "fnScanMoves", unfollowed := true, recurses := true, apart := false }
def FnScanMovesSaid : Prop := fnScanMovesRow.holds Try.pinned (OpenSpec.ofChange fnScanMovesSpec)

/-- ITS FALSE NEIGHBOUR: 'it returns false'. Refute it at one input. -/
def fnScanMovesWrong : ChangeSpec := { name := "fnScanMoves", fn := fun _ => fun
  | [d1, d2] => { results := [.lit (.bool false)], args := [d1, d2] }
  | _ => none }
def FnScanMovesWrongFalsely : Prop := fnScanMovesRow.holds Try.pinned (OpenSpec.ofChange fnScanMovesWrong)

/-- 'laws.FnScanValid': WHATEVER THE INPUT: true; the input reads as it did. -/
def fnScanValidSpec : ChangeSpec := { name := "fnScanValid", fn := fun _ => fun
  | [d] => { results := [.lit (.bool true)], args := [d] }
  | _ => none }
def fnScanValidRow : OpenClaim := { program := "ytenhaccdiamagaa", sum := "605906c4dc648f3daf8b2fa391a64a14565350d5ac8a9ca40d567e337595b7a0", func := "loop.example/ringoverlay/laws.FnScanValid", spec := "fnScanValid", apart := false }
def FnScanValidSaid : Prop := fnScanValidRow.holds Try.pinned (OpenSpec.ofChange fnScanValidSpec)

/-- ITS FALSE NEIGHBOUR: 'it returns false'. Refute it at one input. -/
def fnScanValidWrong : ChangeSpec := { name := "fnScanValid", fn := fun _ => fun
  | [d] => { results := [.lit (.bool false)], args := [d] }
  | _ => none }
def FnScanValidWrongFalsely : Prop := fnScanValidRow.holds Try.pinned (OpenSpec.ofChange fnScanValidWrong)

/-- 'laws.FnExactScanValid': WHATEVER THE INPUT: true; the input reads as it did. -/
def fnExactScanValidSpec : ChangeSpec := { name := "fnExactScanValid", fn := fun _ => fun
  | [d] => { results := [.lit (.bool true)], args := [d] }
  | _ => none }
def fnExactScanValidRow : OpenClaim := { program := "ytenhaccdiamagaa", sum := "605906c4dc648f3daf8b2fa391a64a14565350d5ac8a9ca40d567e337595b7a0", func := "loop.example/ringoverlay/laws.FnExactScanValid", spec := "fnExactScanValid", apart := false }
def FnExactScanValidSaid : Prop := fnExactScanValidRow.holds Try.pinned (OpenSpec.ofChange fnExactScanValidSpec)

/-- ITS FALSE NEIGHBOUR: 'it returns false'. Refute it at one input. -/
def fnExactScanValidWrong : ChangeSpec := { name := "fnExactScanValid", fn := fun _ => fun
  | [d] => { results := [.lit (.bool false)], args := [d] }
  | _ => none }
def FnExactScanValidWrongFalsely : Prop := fnExactScanValidRow.holds Try.pinned (OpenSpec.ofChange fnExactScanValidWrong)

/-- 'laws.FnExactScanDone': WHATEVER THE INPUT: true; the input reads as it did. -/
def fnExactScanDoneSpec : ChangeSpec := { name := "fnExactScanDone", fn := fun _ => fun
  | [d] => { results := [.lit (.bool true)], args := [d] }
  | _ => none }
def fnExactScanDoneRow : OpenClaim := { program := "ytenhaccdiamagaa", sum := "605906c4dc648f3daf8b2fa391a64a14565350d5ac8a9ca40d567e337595b7a0", func := "loop.example/ringoverlay/laws.FnExactScanDone", spec := "fnExactScanDone", apart := false }
def FnExactScanDoneSaid : Prop := fnExactScanDoneRow.holds Try.pinned (OpenSpec.ofChange fnExactScanDoneSpec)

/-- ITS FALSE NEIGHBOUR: 'it returns false'. Refute it at one input. -/
def fnExactScanDoneWrong : ChangeSpec := { name := "fnExactScanDone", fn := fun _ => fun
  | [d] => { results := [.lit (.bool false)], args := [d] }
  | _ => none }
def FnExactScanDoneWrongFalsely : Prop := fnExactScanDoneRow.holds Try.pinned (OpenSpec.ofChange fnExactScanDoneWrong)

/-- 'laws.FnExactScanStep': WHATEVER THE INPUT: true; the input reads as it did. -/
def fnExactScanStepSpec : ChangeSpec := { name := "fnExactScanStep", fn := fun _ => fun
  | [d1, d2, d3] => { results := [.lit (.bool true)], args := [d1, d2, d3] }
  | _ => none }
def fnExactScanStepRow : OpenClaim := { program := "ytenhaccdiamagaa", sum := "605906c4dc648f3daf8b2fa391a64a14565350d5ac8a9ca40d567e337595b7a0", func := "loop.example/ringoverlay/laws.FnExactScanStep", spec := "fnExactScanStep", unfollowed := true, recurses := true, apart := false }
def FnExactScanStepSaid : Prop := fnExactScanStepRow.holds Try.pinned (OpenSpec.ofChange fnExactScanStepSpec)

/-- ITS FALSE NEIGHBOUR: 'it returns false'. Refute it at one input. -/
def fnExactScanStepWrong : ChangeSpec := { name := "fnExactScanStep", fn := fun _ => fun
  | [d1, d2, d3] => { results := [.lit (.bool false)], args := [d1, d2, d3] }
  | _ => none }
def FnExactScanStepWrongFalsely : Prop := fnExactScanStepRow.holds Try.pinned (OpenSpec.ofChange fnExactScanStepWrong)

/-- 'laws.FnExactScanAll': WHATEVER THE INPUT: true; the input reads as it did. -/
def fnExactScanAllSpec : ChangeSpec := { name := "fnExactScanAll", fn := fun _ => fun
  | [d1, d2] => { results := [.lit (.bool true)], args := [d1, d2] }
  | _ => none }
def fnExactScanAllRow : OpenClaim := { program := "ytenhaccdiamagaa", sum := "605906c4dc648f3daf8b2fa391a64a14565350d5ac8a9ca40d567e337595b7a0", func := "loop.example/ringoverlay/laws.FnExactScanAll", spec := "fnExactScanAll", unfollowed := true, recurses := true, apart := false }
def FnExactScanAllSaid : Prop := fnExactScanAllRow.holds Try.pinned (OpenSpec.ofChange fnExactScanAllSpec)

/-- ITS FALSE NEIGHBOUR: 'it returns false'. Refute it at one input. -/
def fnExactScanAllWrong : ChangeSpec := { name := "fnExactScanAll", fn := fun _ => fun
  | [d1, d2] => { results := [.lit (.bool false)], args := [d1, d2] }
  | _ => none }
def FnExactScanAllWrongFalsely : Prop := fnExactScanAllRow.holds Try.pinned (OpenSpec.ofChange fnExactScanAllWrong)

/- THE SECOND FORM. 'bulk': how many values and letters a reading holds, each counted each time it is reached (what is shared counts as often as it is met; a slice's spare places count too). A statement '..UptoSaid' is the law's where the arguments, and the package variables that the reading takes, are together of bulk at most 1048576: NARROWER than '..Said'. Prove '..Said' where nothing that the law and all that it calls make is longer than what came in: it says more and counts as full. Else prove '..UptoSaid'. A law counts once. -/
mutual
def uptoBulk {H : Type} : DataW H → Nat
  | .lit (.string bytes) => bytes.length + 1
  | .lit _ => 1
  | .nil => 1
  | .ptr d => uptoBulk d + 1
  | .slice elems spare => uptoBulkAll elems + uptoBulkAll spare + 1
  | .agg parts => uptoBulkAll parts + 1
  | .iface _ d => uptoBulk d + 1
  | .map entries => uptoBulkEntries entries + 1
  | .held _ => 1
def uptoBulkAll {H : Type} : List (DataW H) → Nat
  | [] => 0
  | d :: r => uptoBulk d + uptoBulkAll r
def uptoBulkEntries {H : Type} : List (Lit × DataW H) → Nat
  | [] => 0
  | x :: r => uptoBulkEntry x + uptoBulkEntries r
def uptoBulkEntry {H : Type} : Lit × DataW H → Nat
  | (.string bytes, d) => bytes.length + uptoBulk d + 1
  | (_, d) => uptoBulk d + 1
 end
def uptoSmall : (H : Type) → List (DataW H) → Bool := fun _ ds => decide (uptoBulkAll ds ≤ 1048576)
def OpenSpec.upto (s : _root_.Go.ChangeSpec) : _root_.Go.OpenSpec := { _root_.Go.OpenSpec.ofChange s with cond := some uptoSmall }

/-- 'laws.FnScanStep', WHERE WHAT IT READS IS OF BULK AT MOST 1048576: true; the input reads as it did. -/
def fnScanStepUptoRow : OpenClaim := { program := "ytenhaccdiamagaa", sum := "605906c4dc648f3daf8b2fa391a64a14565350d5ac8a9ca40d567e337595b7a0", func := "loop.example/ringoverlay/laws.FnScanStep", spec := "fnScanStep", unfollowed := true, recurses := true, apart := false, narrowed := true }
def FnScanStepUptoSaid : Prop := fnScanStepUptoRow.holds Try.pinned (OpenSpec.upto fnScanStepSpec)

/-- 'laws.FnScanStepKeys', WHERE WHAT IT READS IS OF BULK AT MOST 1048576: true; the input reads as it did. -/
def fnScanStepKeysUptoRow : OpenClaim := { program := "ytenhaccdiamagaa", sum := "605906c4dc648f3daf8b2fa391a64a14565350d5ac8a9ca40d567e337595b7a0", func := "loop.example/ringoverlay/laws.FnScanStepKeys", spec := "fnScanStepKeys", unfollowed := true, recurses := true, apart := false, narrowed := true }
def FnScanStepKeysUptoSaid : Prop := fnScanStepKeysUptoRow.holds Try.pinned (OpenSpec.upto fnScanStepKeysSpec)

/-- 'laws.FnScanStepOne', WHERE WHAT IT READS IS OF BULK AT MOST 1048576: true; the input reads as it did. -/
def fnScanStepOneUptoRow : OpenClaim := { program := "ytenhaccdiamagaa", sum := "605906c4dc648f3daf8b2fa391a64a14565350d5ac8a9ca40d567e337595b7a0", func := "loop.example/ringoverlay/laws.FnScanStepOne", spec := "fnScanStepOne", unfollowed := true, recurses := true, apart := false, narrowed := true }
def FnScanStepOneUptoSaid : Prop := fnScanStepOneUptoRow.holds Try.pinned (OpenSpec.upto fnScanStepOneSpec)

/-- 'laws.FnScanDone', WHERE WHAT IT READS IS OF BULK AT MOST 1048576: true; the input reads as it did. -/
def fnScanDoneUptoRow : OpenClaim := { program := "ytenhaccdiamagaa", sum := "605906c4dc648f3daf8b2fa391a64a14565350d5ac8a9ca40d567e337595b7a0", func := "loop.example/ringoverlay/laws.FnScanDone", spec := "fnScanDone", unfollowed := true, recurses := true, apart := false, narrowed := true }
def FnScanDoneUptoSaid : Prop := fnScanDoneUptoRow.holds Try.pinned (OpenSpec.upto fnScanDoneSpec)

/-- 'laws.FnScanAll', WHERE WHAT IT READS IS OF BULK AT MOST 1048576: true; the input reads as it did. -/
def fnScanAllUptoRow : OpenClaim := { program := "ytenhaccdiamagaa", sum := "605906c4dc648f3daf8b2fa391a64a14565350d5ac8a9ca40d567e337595b7a0", func := "loop.example/ringoverlay/laws.FnScanAll", spec := "fnScanAll", unfollowed := true, recurses := true, apart := false, narrowed := true }
def FnScanAllUptoSaid : Prop := fnScanAllUptoRow.holds Try.pinned (OpenSpec.upto fnScanAllSpec)

/-- 'laws.FnScanSteps', WHERE WHAT IT READS IS OF BULK AT MOST 1048576: true; the input reads as it did. -/
def fnScanStepsUptoRow : OpenClaim := { program := "ytenhaccdiamagaa", sum := "605906c4dc648f3daf8b2fa391a64a14565350d5ac8a9ca40d567e337595b7a0", func := "loop.example/ringoverlay/laws.FnScanSteps", spec := "fnScanSteps", unfollowed := true, recurses := true, apart := false, narrowed := true }
def FnScanStepsUptoSaid : Prop := fnScanStepsUptoRow.holds Try.pinned (OpenSpec.upto fnScanStepsSpec)

/-- 'laws.FnScanMoves', WHERE WHAT IT READS IS OF BULK AT MOST 1048576: true; the input reads as it did. -/
def fnScanMovesUptoRow : OpenClaim := { program := "ytenhaccdiamagaa", sum := "605906c4dc648f3daf8b2fa391a64a14565350d5ac8a9ca40d567e337595b7a0", func := "loop.example/ringoverlay/laws.FnScanMoves", spec := "fnScanMoves", unfollowed := true, recurses := true, apart := false, narrowed := true }
def FnScanMovesUptoSaid : Prop := fnScanMovesUptoRow.holds Try.pinned (OpenSpec.upto fnScanMovesSpec)

/-- 'laws.FnScanValid', WHERE WHAT IT READS IS OF BULK AT MOST 1048576: true; the input reads as it did. -/
def fnScanValidUptoRow : OpenClaim := { program := "ytenhaccdiamagaa", sum := "605906c4dc648f3daf8b2fa391a64a14565350d5ac8a9ca40d567e337595b7a0", func := "loop.example/ringoverlay/laws.FnScanValid", spec := "fnScanValid", apart := false, narrowed := true }
def FnScanValidUptoSaid : Prop := fnScanValidUptoRow.holds Try.pinned (OpenSpec.upto fnScanValidSpec)

/-- 'laws.FnExactScanValid', WHERE WHAT IT READS IS OF BULK AT MOST 1048576: true; the input reads as it did. -/
def fnExactScanValidUptoRow : OpenClaim := { program := "ytenhaccdiamagaa", sum := "605906c4dc648f3daf8b2fa391a64a14565350d5ac8a9ca40d567e337595b7a0", func := "loop.example/ringoverlay/laws.FnExactScanValid", spec := "fnExactScanValid", apart := false, narrowed := true }
def FnExactScanValidUptoSaid : Prop := fnExactScanValidUptoRow.holds Try.pinned (OpenSpec.upto fnExactScanValidSpec)

/-- 'laws.FnExactScanDone', WHERE WHAT IT READS IS OF BULK AT MOST 1048576: true; the input reads as it did. -/
def fnExactScanDoneUptoRow : OpenClaim := { program := "ytenhaccdiamagaa", sum := "605906c4dc648f3daf8b2fa391a64a14565350d5ac8a9ca40d567e337595b7a0", func := "loop.example/ringoverlay/laws.FnExactScanDone", spec := "fnExactScanDone", apart := false, narrowed := true }
def FnExactScanDoneUptoSaid : Prop := fnExactScanDoneUptoRow.holds Try.pinned (OpenSpec.upto fnExactScanDoneSpec)

/-- 'laws.FnExactScanStep', WHERE WHAT IT READS IS OF BULK AT MOST 1048576: true; the input reads as it did. -/
def fnExactScanStepUptoRow : OpenClaim := { program := "ytenhaccdiamagaa", sum := "605906c4dc648f3daf8b2fa391a64a14565350d5ac8a9ca40d567e337595b7a0", func := "loop.example/ringoverlay/laws.FnExactScanStep", spec := "fnExactScanStep", unfollowed := true, recurses := true, apart := false, narrowed := true }
def FnExactScanStepUptoSaid : Prop := fnExactScanStepUptoRow.holds Try.pinned (OpenSpec.upto fnExactScanStepSpec)

/-- 'laws.FnExactScanAll', WHERE WHAT IT READS IS OF BULK AT MOST 1048576: true; the input reads as it did. -/
def fnExactScanAllUptoRow : OpenClaim := { program := "ytenhaccdiamagaa", sum := "605906c4dc648f3daf8b2fa391a64a14565350d5ac8a9ca40d567e337595b7a0", func := "loop.example/ringoverlay/laws.FnExactScanAll", spec := "fnExactScanAll", unfollowed := true, recurses := true, apart := false, narrowed := true }
def FnExactScanAllUptoSaid : Prop := fnExactScanAllUptoRow.holds Try.pinned (OpenSpec.upto fnExactScanAllSpec)

end Rows
end Go.Proofs.Ytenhaccdiamagaa
