/-
  NARROWER THAN 'FOR EVERY INPUT', by the rows' own cells (each row's printed sentence says how): FnExactLeaseHand: ifaces, laid · FnExactLeaseTake: ifaces, laid · FnHandKeys: ifaces, laid · FnHandOwner: ifaces, laid · FnHandRefused: ifaces, laid.
  DERIVED. THE GIVEN ROWS OF THIS SEAT. 5 by the template 'for every input the law returns true; each argument reads behind the call as it read before'; 0 by the template 'total and deterministic' (their statements: YtoaamamconcieaaDoorTotals.lean).
  GIVEN WITH THE SEED: the statements are not yours to turn. If you find one false, say at which input.
  Laid BY PROGRAM, IN A SANDBOX (cutbox-rows.mjs): the forced cells as the released guide's own fill.sh prints them over the translation 63ba1d3bf0972133… (all of the seat's roots in one cut). By AI agents, Wed Nov 11 2026. No macro, syntax, notation, axiom, sorry.
-/
import Derived.Test.YtoaamamconcieaaDoorChecked
import GoSem.Claim
import GoSem.ClaimJoined
import GoSem.ClaimMapViews
import Derived.JoinedTies
import Derived.KernelRfl
namespace Go.Proofs.YtoaamamconcieaaDoor
/- THE CELL 'sum', in the pinned program and in every row, IS THE sha256 OF THE DUMP (.gsa) THAT YtoaamamconcieaaDoorProg.lean LOADS. Nothing in Lean hashes anything: it is a label: what it is worth is what the hold of that sum in a sandbox is worth. -/
noncomputable def Tryd.pinned : Pinned := { name := "ytoaamamconcieaadoor", sum := "63ba1d3bf0972133ef747ca223ea9a7db40bfb9b019429e2ab2c43f50302f26f", checked := Tryd.checked }
namespace Rows
def none {H : Type} : Left H := { results := [], args := [] }

/- WHAT THE LISTED PACKAGE-LEVEL VARIABLES READ AS WHEN THE CALL BEGINS. Each datum BY PROGRAM (the guide's laid-datum.mjs) off the statement by which the dump's own 'gosem.cut.vars' lays the variable. In a bare row this is a premise. The card (YtoaamamconcieaaDoorCards.lean) ties it to the program's text. -/
def laid_loop_example_ringoverlay_impl_errLeaseInvalid {H : Type} : DataW H := .iface "*errors.errorString" (.ptr (.agg [.lit (.string [108, 101, 97, 115, 101, 115, 32, 97, 114, 101, 32, 105, 110, 118, 97, 108, 105, 100, 32, 111, 114, 32, 97, 110, 111, 116, 104, 101, 114, 32, 97, 114, 103, 117, 109, 101, 110, 116, 32, 105, 115, 32, 111, 117, 116, 32, 111, 102, 32, 114, 97, 110, 103, 101])]))
def laid_loop_example_ringoverlay_impl_errLeaseRefused {H : Type} : DataW H := .iface "*errors.errorString" (.ptr (.agg [.lit (.string [111, 112, 101, 114, 97, 116, 105, 111, 110, 32, 111, 110, 32, 97, 32, 108, 101, 97, 115, 101, 32, 105, 115, 32, 114, 101, 102, 117, 115, 101, 100])]))

/-- 'laws.FnExactLeaseHand': WHATEVER THE INPUT: true; the input reads as it did. -/
def fnExactLeaseHandSpec : ChangeSpec := { name := "fnExactLeaseHand", vars := ["loop.example/ringoverlay/impl.errLeaseInvalid", "loop.example/ringoverlay/impl.errLeaseRefused"], fn := fun _ => fun
  | [d1, d2, d3, d4, d5, g1, g2] => { results := [.lit (.bool true)], args := [d1, d2, d3, d4, d5], vars := [g1, g2] }
  | _ => none }
def fnExactLeaseHandRow : OpenClaim := { program := "ytoaamamconcieaadoor", sum := "63ba1d3bf0972133ef747ca223ea9a7db40bfb9b019429e2ab2c43f50302f26f", func := "loop.example/ringoverlay/laws.FnExactLeaseHand", spec := "fnExactLeaseHand", inPlace := ["slices.overlaps[loop.example/ringoverlay/impl.Lease]", "internal/reflectlite.TypeOf"], unfollowed := true, recurses := true, named := ["loop.example/ringoverlay/impl.errLeaseInvalid", "loop.example/ringoverlay/impl.errLeaseRefused"], ifaces := true, apart := false, laid := [("loop.example/ringoverlay/impl.errLeaseInvalid", laid_loop_example_ringoverlay_impl_errLeaseInvalid), ("loop.example/ringoverlay/impl.errLeaseRefused", laid_loop_example_ringoverlay_impl_errLeaseRefused)] }
def FnExactLeaseHandSaid : Prop := fnExactLeaseHandRow.holds Tryd.pinned (OpenSpec.ofChange fnExactLeaseHandSpec)

/-- ITS FALSE NEIGHBOUR: 'it returns false'. Refute it at one input. -/
def fnExactLeaseHandWrong : ChangeSpec := { name := "fnExactLeaseHand", vars := ["loop.example/ringoverlay/impl.errLeaseInvalid", "loop.example/ringoverlay/impl.errLeaseRefused"], fn := fun _ => fun
  | [d1, d2, d3, d4, d5, g1, g2] => { results := [.lit (.bool false)], args := [d1, d2, d3, d4, d5], vars := [g1, g2] }
  | _ => none }
def FnExactLeaseHandWrongFalsely : Prop := fnExactLeaseHandRow.holds Tryd.pinned (OpenSpec.ofChange fnExactLeaseHandWrong)

/-- 'laws.FnExactLeaseTake': WHATEVER THE INPUT: true; the input reads as it did. -/
def fnExactLeaseTakeSpec : ChangeSpec := { name := "fnExactLeaseTake", vars := ["loop.example/ringoverlay/impl.errLeaseInvalid", "loop.example/ringoverlay/impl.errLeaseRefused"], fn := fun _ => fun
  | [d1, d2, d3, d4, d5, g1, g2] => { results := [.lit (.bool true)], args := [d1, d2, d3, d4, d5], vars := [g1, g2] }
  | _ => none }
def fnExactLeaseTakeRow : OpenClaim := { program := "ytoaamamconcieaadoor", sum := "63ba1d3bf0972133ef747ca223ea9a7db40bfb9b019429e2ab2c43f50302f26f", func := "loop.example/ringoverlay/laws.FnExactLeaseTake", spec := "fnExactLeaseTake", inPlace := ["internal/reflectlite.TypeOf"], unfollowed := true, recurses := true, named := ["loop.example/ringoverlay/impl.errLeaseInvalid", "loop.example/ringoverlay/impl.errLeaseRefused"], ifaces := true, apart := false, laid := [("loop.example/ringoverlay/impl.errLeaseInvalid", laid_loop_example_ringoverlay_impl_errLeaseInvalid), ("loop.example/ringoverlay/impl.errLeaseRefused", laid_loop_example_ringoverlay_impl_errLeaseRefused)] }
def FnExactLeaseTakeSaid : Prop := fnExactLeaseTakeRow.holds Tryd.pinned (OpenSpec.ofChange fnExactLeaseTakeSpec)

/-- ITS FALSE NEIGHBOUR: 'it returns false'. Refute it at one input. -/
def fnExactLeaseTakeWrong : ChangeSpec := { name := "fnExactLeaseTake", vars := ["loop.example/ringoverlay/impl.errLeaseInvalid", "loop.example/ringoverlay/impl.errLeaseRefused"], fn := fun _ => fun
  | [d1, d2, d3, d4, d5, g1, g2] => { results := [.lit (.bool false)], args := [d1, d2, d3, d4, d5], vars := [g1, g2] }
  | _ => none }
def FnExactLeaseTakeWrongFalsely : Prop := fnExactLeaseTakeRow.holds Tryd.pinned (OpenSpec.ofChange fnExactLeaseTakeWrong)

/-- 'laws.FnHandKeys': WHATEVER THE INPUT: true; the input reads as it did. -/
def fnHandKeysSpec : ChangeSpec := { name := "fnHandKeys", vars := ["loop.example/ringoverlay/impl.errLeaseInvalid", "loop.example/ringoverlay/impl.errLeaseRefused"], fn := fun _ => fun
  | [d, g1, g2] => { results := [.lit (.bool true)], args := [d], vars := [g1, g2] }
  | _ => none }
def fnHandKeysRow : OpenClaim := { program := "ytoaamamconcieaadoor", sum := "63ba1d3bf0972133ef747ca223ea9a7db40bfb9b019429e2ab2c43f50302f26f", func := "loop.example/ringoverlay/laws.FnHandKeys", spec := "fnHandKeys", inPlace := ["slices.overlaps[loop.example/ringoverlay/impl.Lease]", "internal/reflectlite.TypeOf"], unfollowed := true, recurses := true, named := ["loop.example/ringoverlay/impl.errLeaseInvalid", "loop.example/ringoverlay/impl.errLeaseRefused"], ifaces := true, apart := false, laid := [("loop.example/ringoverlay/impl.errLeaseInvalid", laid_loop_example_ringoverlay_impl_errLeaseInvalid), ("loop.example/ringoverlay/impl.errLeaseRefused", laid_loop_example_ringoverlay_impl_errLeaseRefused)] }
def FnHandKeysSaid : Prop := fnHandKeysRow.holds Tryd.pinned (OpenSpec.ofChange fnHandKeysSpec)

/-- ITS FALSE NEIGHBOUR: 'it returns false'. Refute it at one input. -/
def fnHandKeysWrong : ChangeSpec := { name := "fnHandKeys", vars := ["loop.example/ringoverlay/impl.errLeaseInvalid", "loop.example/ringoverlay/impl.errLeaseRefused"], fn := fun _ => fun
  | [d, g1, g2] => { results := [.lit (.bool false)], args := [d], vars := [g1, g2] }
  | _ => none }
def FnHandKeysWrongFalsely : Prop := fnHandKeysRow.holds Tryd.pinned (OpenSpec.ofChange fnHandKeysWrong)

/-- 'laws.FnHandOwner': WHATEVER THE INPUT: true; the input reads as it did. -/
def fnHandOwnerSpec : ChangeSpec := { name := "fnHandOwner", vars := ["loop.example/ringoverlay/impl.errLeaseInvalid", "loop.example/ringoverlay/impl.errLeaseRefused"], fn := fun _ => fun
  | [d, g1, g2] => { results := [.lit (.bool true)], args := [d], vars := [g1, g2] }
  | _ => none }
def fnHandOwnerRow : OpenClaim := { program := "ytoaamamconcieaadoor", sum := "63ba1d3bf0972133ef747ca223ea9a7db40bfb9b019429e2ab2c43f50302f26f", func := "loop.example/ringoverlay/laws.FnHandOwner", spec := "fnHandOwner", inPlace := ["slices.overlaps[loop.example/ringoverlay/impl.Lease]", "internal/reflectlite.TypeOf"], unfollowed := true, recurses := true, named := ["loop.example/ringoverlay/impl.errLeaseInvalid", "loop.example/ringoverlay/impl.errLeaseRefused"], ifaces := true, apart := false, laid := [("loop.example/ringoverlay/impl.errLeaseInvalid", laid_loop_example_ringoverlay_impl_errLeaseInvalid), ("loop.example/ringoverlay/impl.errLeaseRefused", laid_loop_example_ringoverlay_impl_errLeaseRefused)] }
def FnHandOwnerSaid : Prop := fnHandOwnerRow.holds Tryd.pinned (OpenSpec.ofChange fnHandOwnerSpec)

/-- ITS FALSE NEIGHBOUR: 'it returns false'. Refute it at one input. -/
def fnHandOwnerWrong : ChangeSpec := { name := "fnHandOwner", vars := ["loop.example/ringoverlay/impl.errLeaseInvalid", "loop.example/ringoverlay/impl.errLeaseRefused"], fn := fun _ => fun
  | [d, g1, g2] => { results := [.lit (.bool false)], args := [d], vars := [g1, g2] }
  | _ => none }
def FnHandOwnerWrongFalsely : Prop := fnHandOwnerRow.holds Tryd.pinned (OpenSpec.ofChange fnHandOwnerWrong)

/-- 'laws.FnHandRefused': WHATEVER THE INPUT: true; the input reads as it did. -/
def fnHandRefusedSpec : ChangeSpec := { name := "fnHandRefused", vars := ["loop.example/ringoverlay/impl.errLeaseInvalid", "loop.example/ringoverlay/impl.errLeaseRefused"], fn := fun _ => fun
  | [d, g1, g2] => { results := [.lit (.bool true)], args := [d], vars := [g1, g2] }
  | _ => none }
def fnHandRefusedRow : OpenClaim := { program := "ytoaamamconcieaadoor", sum := "63ba1d3bf0972133ef747ca223ea9a7db40bfb9b019429e2ab2c43f50302f26f", func := "loop.example/ringoverlay/laws.FnHandRefused", spec := "fnHandRefused", inPlace := ["slices.overlaps[loop.example/ringoverlay/impl.Lease]", "internal/reflectlite.TypeOf"], unfollowed := true, recurses := true, named := ["loop.example/ringoverlay/impl.errLeaseInvalid", "loop.example/ringoverlay/impl.errLeaseRefused"], ifaces := true, apart := false, laid := [("loop.example/ringoverlay/impl.errLeaseInvalid", laid_loop_example_ringoverlay_impl_errLeaseInvalid), ("loop.example/ringoverlay/impl.errLeaseRefused", laid_loop_example_ringoverlay_impl_errLeaseRefused)] }
def FnHandRefusedSaid : Prop := fnHandRefusedRow.holds Tryd.pinned (OpenSpec.ofChange fnHandRefusedSpec)

/-- ITS FALSE NEIGHBOUR: 'it returns false'. Refute it at one input. -/
def fnHandRefusedWrong : ChangeSpec := { name := "fnHandRefused", vars := ["loop.example/ringoverlay/impl.errLeaseInvalid", "loop.example/ringoverlay/impl.errLeaseRefused"], fn := fun _ => fun
  | [d, g1, g2] => { results := [.lit (.bool false)], args := [d], vars := [g1, g2] }
  | _ => none }
def FnHandRefusedWrongFalsely : Prop := fnHandRefusedRow.holds Tryd.pinned (OpenSpec.ofChange fnHandRefusedWrong)

/- THE SECOND FORM. 'bulk': how many values and letters a reading holds, each counted each time it is reached (what is shared counts as often as it is met; a slice's spare places count too). A statement '..UptoSaid' is the law's where the arguments, and the package variables that the reading takes, are together of bulk at most 1048576: NARROWER than '..Said'. Prove '..Said' where nothing that the law and all that it calls make is longer than what came in: it says more and counts as full. Else prove '..UptoSaid'. A law counts once. -/
mutual
def uptoBulk {H : Type} : DataW H → Nat
  | .lit (.string bytes) => bytes.length + 1
  | .lit _ => 1
  | .nil => 1
  | .ptr d => uptoBulk d + 1
  | .slice elems spare => uptoBulkAll elems + uptoBulkAll spare + 1
  | .agg parts => uptoBulkAll parts + 1
  | .iface _ d => uptoBulk d + 1
  | .map entries => uptoBulkEntries entries + 1
  | .held _ => 1
def uptoBulkAll {H : Type} : List (DataW H) → Nat
  | [] => 0
  | d :: r => uptoBulk d + uptoBulkAll r
def uptoBulkEntries {H : Type} : List (Lit × DataW H) → Nat
  | [] => 0
  | x :: r => uptoBulkEntry x + uptoBulkEntries r
def uptoBulkEntry {H : Type} : Lit × DataW H → Nat
  | (.string bytes, d) => bytes.length + uptoBulk d + 1
  | (_, d) => uptoBulk d + 1
 end
def uptoSmall : (H : Type) → List (DataW H) → Bool := fun _ ds => decide (uptoBulkAll ds ≤ 1048576)
def OpenSpec.upto (s : _root_.Go.ChangeSpec) : _root_.Go.OpenSpec := { _root_.Go.OpenSpec.ofChange s with cond := some uptoSmall }

/-- 'laws.FnExactLeaseHand', WHERE WHAT IT READS IS OF BULK AT MOST 1048576: true; the input reads as it did. -/
def fnExactLeaseHandUptoRow : OpenClaim := { program := "ytoaamamconcieaadoor", sum := "63ba1d3bf0972133ef747ca223ea9a7db40bfb9b019429e2ab2c43f50302f26f", func := "loop.example/ringoverlay/laws.FnExactLeaseHand", spec := "fnExactLeaseHand", inPlace := ["slices.overlaps[loop.example/ringoverlay/impl.Lease]", "internal/reflectlite.TypeOf"], unfollowed := true, recurses := true, named := ["loop.example/ringoverlay/impl.errLeaseInvalid", "loop.example/ringoverlay/impl.errLeaseRefused"], ifaces := true, apart := false, laid := [("loop.example/ringoverlay/impl.errLeaseInvalid", laid_loop_example_ringoverlay_impl_errLeaseInvalid), ("loop.example/ringoverlay/impl.errLeaseRefused", laid_loop_example_ringoverlay_impl_errLeaseRefused)], narrowed := true }
def FnExactLeaseHandUptoSaid : Prop := fnExactLeaseHandUptoRow.holds Tryd.pinned (OpenSpec.upto fnExactLeaseHandSpec)

/-- 'laws.FnExactLeaseTake', WHERE WHAT IT READS IS OF BULK AT MOST 1048576: true; the input reads as it did. -/
def fnExactLeaseTakeUptoRow : OpenClaim := { program := "ytoaamamconcieaadoor", sum := "63ba1d3bf0972133ef747ca223ea9a7db40bfb9b019429e2ab2c43f50302f26f", func := "loop.example/ringoverlay/laws.FnExactLeaseTake", spec := "fnExactLeaseTake", inPlace := ["internal/reflectlite.TypeOf"], unfollowed := true, recurses := true, named := ["loop.example/ringoverlay/impl.errLeaseInvalid", "loop.example/ringoverlay/impl.errLeaseRefused"], ifaces := true, apart := false, laid := [("loop.example/ringoverlay/impl.errLeaseInvalid", laid_loop_example_ringoverlay_impl_errLeaseInvalid), ("loop.example/ringoverlay/impl.errLeaseRefused", laid_loop_example_ringoverlay_impl_errLeaseRefused)], narrowed := true }
def FnExactLeaseTakeUptoSaid : Prop := fnExactLeaseTakeUptoRow.holds Tryd.pinned (OpenSpec.upto fnExactLeaseTakeSpec)

/-- 'laws.FnHandKeys', WHERE WHAT IT READS IS OF BULK AT MOST 1048576: true; the input reads as it did. -/
def fnHandKeysUptoRow : OpenClaim := { program := "ytoaamamconcieaadoor", sum := "63ba1d3bf0972133ef747ca223ea9a7db40bfb9b019429e2ab2c43f50302f26f", func := "loop.example/ringoverlay/laws.FnHandKeys", spec := "fnHandKeys", inPlace := ["slices.overlaps[loop.example/ringoverlay/impl.Lease]", "internal/reflectlite.TypeOf"], unfollowed := true, recurses := true, named := ["loop.example/ringoverlay/impl.errLeaseInvalid", "loop.example/ringoverlay/impl.errLeaseRefused"], ifaces := true, apart := false, laid := [("loop.example/ringoverlay/impl.errLeaseInvalid", laid_loop_example_ringoverlay_impl_errLeaseInvalid), ("loop.example/ringoverlay/impl.errLeaseRefused", laid_loop_example_ringoverlay_impl_errLeaseRefused)], narrowed := true }
def FnHandKeysUptoSaid : Prop := fnHandKeysUptoRow.holds Tryd.pinned (OpenSpec.upto fnHandKeysSpec)

/-- 'laws.FnHandOwner', WHERE WHAT IT READS IS OF BULK AT MOST 1048576: true; the input reads as it did. -/
def fnHandOwnerUptoRow : OpenClaim := { program := "ytoaamamconcieaadoor", sum := "63ba1d3bf0972133ef747ca223ea9a7db40bfb9b019429e2ab2c43f50302f26f", func := "loop.example/ringoverlay/laws.FnHandOwner", spec := "fnHandOwner", inPlace := ["slices.overlaps[loop.example/ringoverlay/impl.Lease]", "internal/reflectlite.TypeOf"], unfollowed := true, recurses := true, named := ["loop.example/ringoverlay/impl.errLeaseInvalid", "loop.example/ringoverlay/impl.errLeaseRefused"], ifaces := true, apart := false, laid := [("loop.example/ringoverlay/impl.errLeaseInvalid", laid_loop_example_ringoverlay_impl_errLeaseInvalid), ("loop.example/ringoverlay/impl.errLeaseRefused", laid_loop_example_ringoverlay_impl_errLeaseRefused)], narrowed := true }
def FnHandOwnerUptoSaid : Prop := fnHandOwnerUptoRow.holds Tryd.pinned (OpenSpec.upto fnHandOwnerSpec)

/-- 'laws.FnHandRefused', WHERE WHAT IT READS IS OF BULK AT MOST 1048576: true; the input reads as it did. -/
def fnHandRefusedUptoRow : OpenClaim := { program := "ytoaamamconcieaadoor", sum := "63ba1d3bf0972133ef747ca223ea9a7db40bfb9b019429e2ab2c43f50302f26f", func := "loop.example/ringoverlay/laws.FnHandRefused", spec := "fnHandRefused", inPlace := ["slices.overlaps[loop.example/ringoverlay/impl.Lease]", "internal/reflectlite.TypeOf"], unfollowed := true, recurses := true, named := ["loop.example/ringoverlay/impl.errLeaseInvalid", "loop.example/ringoverlay/impl.errLeaseRefused"], ifaces := true, apart := false, laid := [("loop.example/ringoverlay/impl.errLeaseInvalid", laid_loop_example_ringoverlay_impl_errLeaseInvalid), ("loop.example/ringoverlay/impl.errLeaseRefused", laid_loop_example_ringoverlay_impl_errLeaseRefused)], narrowed := true }
def FnHandRefusedUptoSaid : Prop := fnHandRefusedUptoRow.holds Tryd.pinned (OpenSpec.upto fnHandRefusedSpec)

end Rows
end Go.Proofs.YtoaamamconcieaaDoor
