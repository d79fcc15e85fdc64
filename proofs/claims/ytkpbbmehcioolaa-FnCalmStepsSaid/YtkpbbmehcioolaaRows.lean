/-
  No cell of these rows narrows 'for every input' (looked for: loops, veiled, ifaces, maps, wideKeys, modest, calm, conditions, laid).
  DERIVED. THE GIVEN ROWS OF THIS SEAT. 6 by the template 'for every input the law returns true; each argument reads behind the call as it read before'; 0 by the template 'total and deterministic' (their statements: YtkpbbmehcioolaaTotals.lean).
  GIVEN WITH THE SEED: the statements are not yours to turn. If you find one false, say at which input.
  Laid BY PROGRAM, IN A SANDBOX (cutbox-rows.mjs): the forced cells as the released guide's own fill.sh prints them over the translation 0b190c9f9be7691b… (all of the seat's roots in one cut). By AI agents, Wed Nov 11 2026. No macro, syntax, notation, axiom, sorry.
-/
import Derived.Test.YtkpbbmehcioolaaChecked
import GoSem.Claim
import GoSem.ClaimJoined
import GoSem.ClaimMapViews
import Derived.JoinedTies
import Derived.KernelRfl
namespace Go.Proofs.Ytkpbbmehcioolaa
/- THE CELL 'sum', in the pinned program and in every row, IS THE sha256 OF THE DUMP (.gsa) THAT YtkpbbmehcioolaaProg.lean LOADS. Nothing in Lean hashes anything: it is a label: what it is worth is what the hold of that sum in a sandbox is worth. -/
noncomputable def Try.pinned : Pinned := { name := "ytkpbbmehcioolaa", sum := "0b190c9f9be7691b3933fb9e7bd552b323ec20126bdbac2623338fede8ab77d5", checked := Try.checked }
namespace Rows
def none {H : Type} : Left H := { results := [], args := [] }

/-- 'laws.FnAdopt': WHATEVER THE INPUT: true; the input reads as it did. -/
def fnAdoptSpec : ChangeSpec := { name := "fnAdopt", fn := fun _ => fun
  | [d] => { results := [.lit (.bool true)], args := [d] }
  | _ => none }
def fnAdoptRow : OpenClaim := { program := "ytkpbbmehcioolaa", sum := "0b190c9f9be7691b3933fb9e7bd552b323ec20126bdbac2623338fede8ab77d5", func := "loop.example/ringoverlay/laws.FnAdopt", spec := "fnAdopt", inPlace := ["slices.overlaps[*loop.example/ringoverlay/impl.peer]"], unfollowed := true, recurses := true, apart := false }
def FnAdoptSaid : Prop := fnAdoptRow.holds Try.pinned (OpenSpec.ofChange fnAdoptSpec)

/-- ITS FALSE NEIGHBOUR: 'it returns false'. Refute it at one input. -/
def fnAdoptWrong : ChangeSpec := { name := "fnAdopt", fn := fun _ => fun
  | [d] => { results := [.lit (.bool false)], args := [d] }
  | _ => none }
def FnAdoptWrongFalsely : Prop := fnAdoptRow.holds Try.pinned (OpenSpec.ofChange fnAdoptWrong)

/-- 'laws.FnCloser': WHATEVER THE INPUT: true; the input reads as it did. -/
def fnCloserSpec : ChangeSpec := { name := "fnCloser", fn := fun _ => fun
  | [d] => { results := [.lit (.bool true)], args := [d] }
  | _ => none }
def fnCloserRow : OpenClaim := { program := "ytkpbbmehcioolaa", sum := "0b190c9f9be7691b3933fb9e7bd552b323ec20126bdbac2623338fede8ab77d5", func := "loop.example/ringoverlay/laws.FnCloser", spec := "fnCloser", inPlace := ["slices.overlaps[*loop.example/ringoverlay/impl.peer]"], unfollowed := true, recurses := true, apart := false }
def FnCloserSaid : Prop := fnCloserRow.holds Try.pinned (OpenSpec.ofChange fnCloserSpec)

/-- ITS FALSE NEIGHBOUR: 'it returns false'. Refute it at one input. -/
def fnCloserWrong : ChangeSpec := { name := "fnCloser", fn := fun _ => fun
  | [d] => { results := [.lit (.bool false)], args := [d] }
  | _ => none }
def FnCloserWrongFalsely : Prop := fnCloserRow.holds Try.pinned (OpenSpec.ofChange fnCloserWrong)

/-- 'laws.FnNotify': WHATEVER THE INPUT: true; the input reads as it did. -/
def fnNotifySpec : ChangeSpec := { name := "fnNotify", fn := fun _ => fun
  | [d] => { results := [.lit (.bool true)], args := [d] }
  | _ => none }
def fnNotifyRow : OpenClaim := { program := "ytkpbbmehcioolaa", sum := "0b190c9f9be7691b3933fb9e7bd552b323ec20126bdbac2623338fede8ab77d5", func := "loop.example/ringoverlay/laws.FnNotify", spec := "fnNotify", inPlace := ["slices.overlaps[*loop.example/ringoverlay/impl.peer]"], unfollowed := true, recurses := true, apart := false }
def FnNotifySaid : Prop := fnNotifyRow.holds Try.pinned (OpenSpec.ofChange fnNotifySpec)

/-- ITS FALSE NEIGHBOUR: 'it returns false'. Refute it at one input. -/
def fnNotifyWrong : ChangeSpec := { name := "fnNotify", fn := fun _ => fun
  | [d] => { results := [.lit (.bool false)], args := [d] }
  | _ => none }
def FnNotifyWrongFalsely : Prop := fnNotifyRow.holds Try.pinned (OpenSpec.ofChange fnNotifyWrong)

/-- 'laws.FnRound': WHATEVER THE INPUT: true; the input reads as it did. -/
def fnRoundSpec : ChangeSpec := { name := "fnRound", fn := fun _ => fun
  | [d] => { results := [.lit (.bool true)], args := [d] }
  | _ => none }
def fnRoundRow : OpenClaim := { program := "ytkpbbmehcioolaa", sum := "0b190c9f9be7691b3933fb9e7bd552b323ec20126bdbac2623338fede8ab77d5", func := "loop.example/ringoverlay/laws.FnRound", spec := "fnRound", inPlace := ["slices.overlaps[*loop.example/ringoverlay/impl.peer]"], unfollowed := true, recurses := true, apart := false }
def FnRoundSaid : Prop := fnRoundRow.holds Try.pinned (OpenSpec.ofChange fnRoundSpec)

/-- ITS FALSE NEIGHBOUR: 'it returns false'. Refute it at one input. -/
def fnRoundWrong : ChangeSpec := { name := "fnRound", fn := fun _ => fun
  | [d] => { results := [.lit (.bool false)], args := [d] }
  | _ => none }
def FnRoundWrongFalsely : Prop := fnRoundRow.holds Try.pinned (OpenSpec.ofChange fnRoundWrong)

/-- 'laws.FnCalm': WHATEVER THE INPUT: true; the input reads as it did. -/
def fnCalmSpec : ChangeSpec := { name := "fnCalm", fn := fun _ => fun
  | [d] => { results := [.lit (.bool true)], args := [d] }
  | _ => none }
def fnCalmRow : OpenClaim := { program := "ytkpbbmehcioolaa", sum := "0b190c9f9be7691b3933fb9e7bd552b323ec20126bdbac2623338fede8ab77d5", func := "loop.example/ringoverlay/laws.FnCalm", spec := "fnCalm", apart := false }
def FnCalmSaid : Prop := fnCalmRow.holds Try.pinned (OpenSpec.ofChange fnCalmSpec)

/-- ITS FALSE NEIGHBOUR: 'it returns false'. Refute it at one input. -/
def fnCalmWrong : ChangeSpec := { name := "fnCalm", fn := fun _ => fun
  | [d] => { results := [.lit (.bool false)], args := [d] }
  | _ => none }
def FnCalmWrongFalsely : Prop := fnCalmRow.holds Try.pinned (OpenSpec.ofChange fnCalmWrong)

/-- 'laws.FnCalmSteps': WHATEVER THE INPUT: true; the input reads as it did. -/
def fnCalmStepsSpec : ChangeSpec := { name := "fnCalmSteps", fn := fun _ => fun
  | [d1, d2] => { results := [.lit (.bool true)], args := [d1, d2] }
  | _ => none }
def fnCalmStepsRow : OpenClaim := { program := "ytkpbbmehcioolaa", sum := "0b190c9f9be7691b3933fb9e7bd552b323ec20126bdbac2623338fede8ab77d5", func := "loop.example/ringoverlay/laws.FnCalmSteps", spec := "fnCalmSteps", inPlace := ["slices.overlaps[*loop.example/ringoverlay/impl.peer]"], unfollowed := true, recurses := true, apart := false }
def FnCalmStepsSaid : Prop := fnCalmStepsRow.holds Try.pinned (OpenSpec.ofChange fnCalmStepsSpec)

/-- ITS FALSE NEIGHBOUR: 'it returns false'. Refute it at one input. -/
def fnCalmStepsWrong : ChangeSpec := { name := "fnCalmSteps", fn := fun _ => fun
  | [d1, d2] => { results := [.lit (.bool false)], args := [d1, d2] }
  | _ => none }
def FnCalmStepsWrongFalsely : Prop := fnCalmStepsRow.holds Try.pinned (OpenSpec.ofChange fnCalmStepsWrong)

/- THE SECOND FORM. 'bulk': how many values and letters a reading holds, each counted each time it is reached (what is shared counts as often as it is met; a slice's spare places count too). A statement '..UptoSaid' is the law's where the arguments, and the package variables that the reading takes, are together of bulk at most 1048576: NARROWER than '..Said'. Prove '..Said' where nothing that the law and all that it calls make is longer than what came in: it says more and counts as full. Else prove '..UptoSaid'. A law counts once. -/
mutual
def uptoBulk {H : Type} : DataW H → Nat
  | .lit (.string bytes) => bytes.length + 1
  | .lit _ => 1
  | .nil => 1
  | .ptr d => uptoBulk d + 1
  | .slice elems spare => uptoBulkAll elems + uptoBulkAll spare + 1
  | .agg parts => uptoBulkAll parts + 1
  | .iface _ d => uptoBulk d + 1
  | .map entries => uptoBulkEntries entries + 1
  | .held _ => 1
def uptoBulkAll {H : Type} : List (DataW H) → Nat
  | [] => 0
  | d :: r => uptoBulk d + uptoBulkAll r
def uptoBulkEntries {H : Type} : List (Lit × DataW H) → Nat
  | [] => 0
  | x :: r => uptoBulkEntry x + uptoBulkEntries r
def uptoBulkEntry {H : Type} : Lit × DataW H → Nat
  | (.string bytes, d) => bytes.length + uptoBulk d + 1
  | (_, d) => uptoBulk d + 1
 end
def uptoSmall : (H : Type) → List (DataW H) → Bool := fun _ ds => decide (uptoBulkAll ds ≤ 1048576)
def OpenSpec.upto (s : _root_.Go.ChangeSpec) : _root_.Go.OpenSpec := { _root_.Go.OpenSpec.ofChange s with cond := some uptoSmall }

/-- 'laws.FnAdopt', WHERE WHAT IT READS IS OF BULK AT MOST 1048576: true; the input reads as it did. -/
def fnAdoptUptoRow : OpenClaim := { program := "ytkpbbmehcioolaa", sum := "0b190c9f9be7691b3933fb9e7bd552b323ec20126bdbac2623338fede8ab77d5", func := "loop.example/ringoverlay/laws.FnAdopt", spec := "fnAdopt", inPlace := ["slices.overlaps[*loop.example/ringoverlay/impl.peer]"], unfollowed := true, recurses := true, apart := false, narrowed := true }
def FnAdoptUptoSaid : Prop := fnAdoptUptoRow.holds Try.pinned (OpenSpec.upto fnAdoptSpec)

/-- 'laws.FnCloser', WHERE WHAT IT READS IS OF BULK AT MOST 1048576: true; the input reads as it did. -/
def fnCloserUptoRow : OpenClaim := { program := "ytkpbbmehcioolaa", sum := "0b190c9f9be7691b3933fb9e7bd552b323ec20126bdbac2623338fede8ab77d5", func := "loop.example/ringoverlay/laws.FnCloser", spec := "fnCloser", inPlace := ["slices.overlaps[*loop.example/ringoverlay/impl.peer]"], unfollowed := true, recurses := true, apart := false, narrowed := true }
def FnCloserUptoSaid : Prop := fnCloserUptoRow.holds Try.pinned (OpenSpec.upto fnCloserSpec)

/-- 'laws.FnNotify', WHERE WHAT IT READS IS OF BULK AT MOST 1048576: true; the input reads as it did. -/
def fnNotifyUptoRow : OpenClaim := { program := "ytkpbbmehcioolaa", sum := "0b190c9f9be7691b3933fb9e7bd552b323ec20126bdbac2623338fede8ab77d5", func := "loop.example/ringoverlay/laws.FnNotify", spec := "fnNotify", inPlace := ["slices.overlaps[*loop.example/ringoverlay/impl.peer]"], unfollowed := true, recurses := true, apart := false, narrowed := true }
def FnNotifyUptoSaid : Prop := fnNotifyUptoRow.holds Try.pinned (OpenSpec.upto fnNotifySpec)

/-- 'laws.FnRound', WHERE WHAT IT READS IS OF BULK AT MOST 1048576: true; the input reads as it did. -/
def fnRoundUptoRow : OpenClaim := { program := "ytkpbbmehcioolaa", sum := "0b190c9f9be7691b3933fb9e7bd552b323ec20126bdbac2623338fede8ab77d5", func := "loop.example/ringoverlay/laws.FnRound", spec := "fnRound", inPlace := ["slices.overlaps[*loop.example/ringoverlay/impl.peer]"], unfollowed := true, recurses := true, apart := false, narrowed := true }
def FnRoundUptoSaid : Prop := fnRoundUptoRow.holds Try.pinned (OpenSpec.upto fnRoundSpec)

/-- 'laws.FnCalm', WHERE WHAT IT READS IS OF BULK AT MOST 1048576: true; the input reads as it did. -/
def fnCalmUptoRow : OpenClaim := { program := "ytkpbbmehcioolaa", sum := "0b190c9f9be7691b3933fb9e7bd552b323ec20126bdbac2623338fede8ab77d5", func := "loop.example/ringoverlay/laws.FnCalm", spec := "fnCalm", apart := false, narrowed := true }
def FnCalmUptoSaid : Prop := fnCalmUptoRow.holds Try.pinned (OpenSpec.upto fnCalmSpec)

/-- 'laws.FnCalmSteps', WHERE WHAT IT READS IS OF BULK AT MOST 1048576: true; the input reads as it did. -/
def fnCalmStepsUptoRow : OpenClaim := { program := "ytkpbbmehcioolaa", sum := "0b190c9f9be7691b3933fb9e7bd552b323ec20126bdbac2623338fede8ab77d5", func := "loop.example/ringoverlay/laws.FnCalmSteps", spec := "fnCalmSteps", inPlace := ["slices.overlaps[*loop.example/ringoverlay/impl.peer]"], unfollowed := true, recurses := true, apart := false, narrowed := true }
def FnCalmStepsUptoSaid : Prop := fnCalmStepsUptoRow.holds Try.pinned (OpenSpec.upto fnCalmStepsSpec)

end Rows
end Go.Proofs.Ytkpbbmehcioolaa
