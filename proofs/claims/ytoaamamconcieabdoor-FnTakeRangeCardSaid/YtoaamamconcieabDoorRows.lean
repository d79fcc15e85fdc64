/-
  NARROWER THAN 'FOR EVERY INPUT', by the rows' own cells (each row's printed sentence says how): FnHandCount: ifaces, laid · FnHandBack: ifaces, laid · FnTakeExpired: ifaces, laid · FnTakeRange: ifaces, laid · FnTakeOnce: ifaces, laid · FnHandSelf: ifaces, laid.
  DERIVED. THE GIVEN ROWS OF THIS SEAT. 6 by the template 'for every input the law returns true; each argument reads behind the call as it read before'; 0 by the template 'total and deterministic' (their statements: YtoaamamconcieabDoorTotals.lean).
  GIVEN WITH THE SEED: the statements are not yours to turn. If you find one false, say at which input.
  Laid BY PROGRAM, IN A SANDBOX (cutbox-rows.mjs): the forced cells as the released guide's own fill.sh prints them over the translation 66b35e42b8cef8b9… (all of the seat's roots in one cut). By AI agents, Wed Nov 11 2026. No macro, syntax, notation, axiom, sorry.
-/
import Derived.Test.YtoaamamconcieabDoorChecked
import GoSem.Claim
import GoSem.ClaimJoined
import GoSem.ClaimMapViews
import Derived.JoinedTies
import Derived.KernelRfl
namespace Go.Proofs.YtoaamamconcieabDoor
/- THE CELL 'sum', in the pinned program and in every row, IS THE sha256 OF THE DUMP (.gsa) THAT YtoaamamconcieabDoorProg.lean LOADS. Nothing in Lean hashes anything: it is a label: what it is worth is what the hold of that sum in a sandbox is worth. -/
noncomputable def Tryd.pinned : Pinned := { name := "ytoaamamconcieabdoor", sum := "66b35e42b8cef8b94dd7263ead50e86146da8fd9e49a662aea50799f8d5c451e", checked := Tryd.checked }
namespace Rows
def none {H : Type} : Left H := { results := [], args := [] }

/- WHAT THE LISTED PACKAGE-LEVEL VARIABLES READ AS WHEN THE CALL BEGINS. Each datum BY PROGRAM (the guide's laid-datum.mjs) off the statement by which the dump's own 'gosem.cut.vars' lays the variable. In a bare row this is a premise. The card (YtoaamamconcieabDoorCards.lean) ties it to the program's text. -/
def laid_loop_example_ringoverlay_impl_errLeaseInvalid {H : Type} : DataW H := .iface "*errors.errorString" (.ptr (.agg [.lit (.string [108, 101, 97, 115, 101, 115, 32, 97, 114, 101, 32, 105, 110, 118, 97, 108, 105, 100, 32, 111, 114, 32, 97, 110, 111, 116, 104, 101, 114, 32, 97, 114, 103, 117, 109, 101, 110, 116, 32, 105, 115, 32, 111, 117, 116, 32, 111, 102, 32, 114, 97, 110, 103, 101])]))
def laid_loop_example_ringoverlay_impl_errLeaseRefused {H : Type} : DataW H := .iface "*errors.errorString" (.ptr (.agg [.lit (.string [111, 112, 101, 114, 97, 116, 105, 111, 110, 32, 111, 110, 32, 97, 32, 108, 101, 97, 115, 101, 32, 105, 115, 32, 114, 101, 102, 117, 115, 101, 100])]))

/-- 'laws.FnHandCount': WHATEVER THE INPUT: true; the input reads as it did. -/
def fnHandCountSpec : ChangeSpec := { name := "fnHandCount", vars := ["loop.example/ringoverlay/impl.errLeaseInvalid", "loop.example/ringoverlay/impl.errLeaseRefused"], fn := fun _ => fun
  | [d, g1, g2] => { results := [.lit (.bool true)], args := [d], vars := [g1, g2] }
  | _ => none }
def fnHandCountRow : OpenClaim := { program := "ytoaamamconcieabdoor", sum := "66b35e42b8cef8b94dd7263ead50e86146da8fd9e49a662aea50799f8d5c451e", func := "loop.example/ringoverlay/laws.FnHandCount", spec := "fnHandCount", inPlace := ["slices.overlaps[loop.example/ringoverlay/impl.Lease]", "internal/reflectlite.TypeOf"], unfollowed := true, recurses := true, named := ["loop.example/ringoverlay/impl.errLeaseInvalid", "loop.example/ringoverlay/impl.errLeaseRefused"], ifaces := true, apart := false, laid := [("loop.example/ringoverlay/impl.errLeaseInvalid", laid_loop_example_ringoverlay_impl_errLeaseInvalid), ("loop.example/ringoverlay/impl.errLeaseRefused", laid_loop_example_ringoverlay_impl_errLeaseRefused)] }
def FnHandCountSaid : Prop := fnHandCountRow.holds Tryd.pinned (OpenSpec.ofChange fnHandCountSpec)

/-- ITS FALSE NEIGHBOUR: 'it returns false'. Refute it at one input. -/
def fnHandCountWrong : ChangeSpec := { name := "fnHandCount", vars := ["loop.example/ringoverlay/impl.errLeaseInvalid", "loop.example/ringoverlay/impl.errLeaseRefused"], fn := fun _ => fun
  | [d, g1, g2] => { results := [.lit (.bool false)], args := [d], vars := [g1, g2] }
  | _ => none }
def FnHandCountWrongFalsely : Prop := fnHandCountRow.holds Tryd.pinned (OpenSpec.ofChange fnHandCountWrong)

/-- 'laws.FnHandBack': WHATEVER THE INPUT: true; the input reads as it did. -/
def fnHandBackSpec : ChangeSpec := { name := "fnHandBack", vars := ["loop.example/ringoverlay/impl.errLeaseInvalid", "loop.example/ringoverlay/impl.errLeaseRefused"], fn := fun _ => fun
  | [d, g1, g2] => { results := [.lit (.bool true)], args := [d], vars := [g1, g2] }
  | _ => none }
def fnHandBackRow : OpenClaim := { program := "ytoaamamconcieabdoor", sum := "66b35e42b8cef8b94dd7263ead50e86146da8fd9e49a662aea50799f8d5c451e", func := "loop.example/ringoverlay/laws.FnHandBack", spec := "fnHandBack", inPlace := ["slices.overlaps[loop.example/ringoverlay/impl.Lease]", "internal/reflectlite.TypeOf"], unfollowed := true, recurses := true, named := ["loop.example/ringoverlay/impl.errLeaseInvalid", "loop.example/ringoverlay/impl.errLeaseRefused"], ifaces := true, apart := false, laid := [("loop.example/ringoverlay/impl.errLeaseInvalid", laid_loop_example_ringoverlay_impl_errLeaseInvalid), ("loop.example/ringoverlay/impl.errLeaseRefused", laid_loop_example_ringoverlay_impl_errLeaseRefused)] }
def FnHandBackSaid : Prop := fnHandBackRow.holds Tryd.pinned (OpenSpec.ofChange fnHandBackSpec)

/-- ITS FALSE NEIGHBOUR: 'it returns false'. Refute it at one input. -/
def fnHandBackWrong : ChangeSpec := { name := "fnHandBack", vars := ["loop.example/ringoverlay/impl.errLeaseInvalid", "loop.example/ringoverlay/impl.errLeaseRefused"], fn := fun _ => fun
  | [d, g1, g2] => { results := [.lit (.bool false)], args := [d], vars := [g1, g2] }
  | _ => none }
def FnHandBackWrongFalsely : Prop := fnHandBackRow.holds Tryd.pinned (OpenSpec.ofChange fnHandBackWrong)

/-- 'laws.FnTakeExpired': WHATEVER THE INPUT: true; the input reads as it did. -/
def fnTakeExpiredSpec : ChangeSpec := { name := "fnTakeExpired", vars := ["loop.example/ringoverlay/impl.errLeaseInvalid", "loop.example/ringoverlay/impl.errLeaseRefused"], fn := fun _ => fun
  | [d, g1, g2] => { results := [.lit (.bool true)], args := [d], vars := [g1, g2] }
  | _ => none }
def fnTakeExpiredRow : OpenClaim := { program := "ytoaamamconcieabdoor", sum := "66b35e42b8cef8b94dd7263ead50e86146da8fd9e49a662aea50799f8d5c451e", func := "loop.example/ringoverlay/laws.FnTakeExpired", spec := "fnTakeExpired", inPlace := ["internal/reflectlite.TypeOf"], unfollowed := true, recurses := true, named := ["loop.example/ringoverlay/impl.errLeaseInvalid", "loop.example/ringoverlay/impl.errLeaseRefused"], ifaces := true, apart := false, laid := [("loop.example/ringoverlay/impl.errLeaseInvalid", laid_loop_example_ringoverlay_impl_errLeaseInvalid), ("loop.example/ringoverlay/impl.errLeaseRefused", laid_loop_example_ringoverlay_impl_errLeaseRefused)] }
def FnTakeExpiredSaid : Prop := fnTakeExpiredRow.holds Tryd.pinned (OpenSpec.ofChange fnTakeExpiredSpec)

/-- ITS FALSE NEIGHBOUR: 'it returns false'. Refute it at one input. -/
def fnTakeExpiredWrong : ChangeSpec := { name := "fnTakeExpired", vars := ["loop.example/ringoverlay/impl.errLeaseInvalid", "loop.example/ringoverlay/impl.errLeaseRefused"], fn := fun _ => fun
  | [d, g1, g2] => { results := [.lit (.bool false)], args := [d], vars := [g1, g2] }
  | _ => none }
def FnTakeExpiredWrongFalsely : Prop := fnTakeExpiredRow.holds Tryd.pinned (OpenSpec.ofChange fnTakeExpiredWrong)

/-- 'laws.FnTakeRange': WHATEVER THE INPUT: true; the input reads as it did. -/
def fnTakeRangeSpec : ChangeSpec := { name := "fnTakeRange", vars := ["loop.example/ringoverlay/impl.errLeaseInvalid", "loop.example/ringoverlay/impl.errLeaseRefused"], fn := fun _ => fun
  | [d, g1, g2] => { results := [.lit (.bool true)], args := [d], vars := [g1, g2] }
  | _ => none }
def fnTakeRangeRow : OpenClaim := { program := "ytoaamamconcieabdoor", sum := "66b35e42b8cef8b94dd7263ead50e86146da8fd9e49a662aea50799f8d5c451e", func := "loop.example/ringoverlay/laws.FnTakeRange", spec := "fnTakeRange", inPlace := ["internal/reflectlite.TypeOf"], unfollowed := true, recurses := true, named := ["loop.example/ringoverlay/impl.errLeaseInvalid", "loop.example/ringoverlay/impl.errLeaseRefused"], ifaces := true, apart := false, laid := [("loop.example/ringoverlay/impl.errLeaseInvalid", laid_loop_example_ringoverlay_impl_errLeaseInvalid), ("loop.example/ringoverlay/impl.errLeaseRefused", laid_loop_example_ringoverlay_impl_errLeaseRefused)] }
def FnTakeRangeSaid : Prop := fnTakeRangeRow.holds Tryd.pinned (OpenSpec.ofChange fnTakeRangeSpec)

/-- ITS FALSE NEIGHBOUR: 'it returns false'. Refute it at one input. -/
def fnTakeRangeWrong : ChangeSpec := { name := "fnTakeRange", vars := ["loop.example/ringoverlay/impl.errLeaseInvalid", "loop.example/ringoverlay/impl.errLeaseRefused"], fn := fun _ => fun
  | [d, g1, g2] => { results := [.lit (.bool false)], args := [d], vars := [g1, g2] }
  | _ => none }
def FnTakeRangeWrongFalsely : Prop := fnTakeRangeRow.holds Tryd.pinned (OpenSpec.ofChange fnTakeRangeWrong)

/-- 'laws.FnTakeOnce': WHATEVER THE INPUT: true; the input reads as it did. -/
def fnTakeOnceSpec : ChangeSpec := { name := "fnTakeOnce", vars := ["loop.example/ringoverlay/impl.errLeaseInvalid", "loop.example/ringoverlay/impl.errLeaseRefused"], fn := fun _ => fun
  | [d1, d2, g1, g2] => { results := [.lit (.bool true)], args := [d1, d2], vars := [g1, g2] }
  | _ => none }
def fnTakeOnceRow : OpenClaim := { program := "ytoaamamconcieabdoor", sum := "66b35e42b8cef8b94dd7263ead50e86146da8fd9e49a662aea50799f8d5c451e", func := "loop.example/ringoverlay/laws.FnTakeOnce", spec := "fnTakeOnce", inPlace := ["internal/reflectlite.TypeOf"], unfollowed := true, recurses := true, named := ["loop.example/ringoverlay/impl.errLeaseInvalid", "loop.example/ringoverlay/impl.errLeaseRefused"], ifaces := true, apart := false, laid := [("loop.example/ringoverlay/impl.errLeaseInvalid", laid_loop_example_ringoverlay_impl_errLeaseInvalid), ("loop.example/ringoverlay/impl.errLeaseRefused", laid_loop_example_ringoverlay_impl_errLeaseRefused)] }
def FnTakeOnceSaid : Prop := fnTakeOnceRow.holds Tryd.pinned (OpenSpec.ofChange fnTakeOnceSpec)

/-- ITS FALSE NEIGHBOUR: 'it returns false'. Refute it at one input. -/
def fnTakeOnceWrong : ChangeSpec := { name := "fnTakeOnce", vars := ["loop.example/ringoverlay/impl.errLeaseInvalid", "loop.example/ringoverlay/impl.errLeaseRefused"], fn := fun _ => fun
  | [d1, d2, g1, g2] => { results := [.lit (.bool false)], args := [d1, d2], vars := [g1, g2] }
  | _ => none }
def FnTakeOnceWrongFalsely : Prop := fnTakeOnceRow.holds Tryd.pinned (OpenSpec.ofChange fnTakeOnceWrong)

/-- 'laws.FnHandSelf': WHATEVER THE INPUT: true; the input reads as it did. -/
def fnHandSelfSpec : ChangeSpec := { name := "fnHandSelf", vars := ["loop.example/ringoverlay/impl.errLeaseInvalid", "loop.example/ringoverlay/impl.errLeaseRefused"], fn := fun _ => fun
  | [d, g1, g2] => { results := [.lit (.bool true)], args := [d], vars := [g1, g2] }
  | _ => none }
def fnHandSelfRow : OpenClaim := { program := "ytoaamamconcieabdoor", sum := "66b35e42b8cef8b94dd7263ead50e86146da8fd9e49a662aea50799f8d5c451e", func := "loop.example/ringoverlay/laws.FnHandSelf", spec := "fnHandSelf", inPlace := ["slices.overlaps[loop.example/ringoverlay/impl.Lease]", "internal/reflectlite.TypeOf"], unfollowed := true, recurses := true, named := ["loop.example/ringoverlay/impl.errLeaseInvalid", "loop.example/ringoverlay/impl.errLeaseRefused"], ifaces := true, apart := false, laid := [("loop.example/ringoverlay/impl.errLeaseInvalid", laid_loop_example_ringoverlay_impl_errLeaseInvalid), ("loop.example/ringoverlay/impl.errLeaseRefused", laid_loop_example_ringoverlay_impl_errLeaseRefused)] }
def FnHandSelfSaid : Prop := fnHandSelfRow.holds Tryd.pinned (OpenSpec.ofChange fnHandSelfSpec)

/-- ITS FALSE NEIGHBOUR: 'it returns false'. Refute it at one input. -/
def fnHandSelfWrong : ChangeSpec := { name := "fnHandSelf", vars := ["loop.example/ringoverlay/impl.errLeaseInvalid", "loop.example/ringoverlay/impl.errLeaseRefused"], fn := fun _ => fun
  | [d, g1, g2] => { results := [.lit (.bool false)], args := [d], vars := [g1, g2] }
  | _ => none }
def FnHandSelfWrongFalsely : Prop := fnHandSelfRow.holds Tryd.pinned (OpenSpec.ofChange fnHandSelfWrong)

/- THE SECOND FORM. 'bulk': how many values and letters a reading holds, each counted each time it is reached (what is shared counts as often as it is met; a slice's spare places count too). A statement '..UptoSaid' is the law's where the arguments, and the package variables that the reading takes, are together of bulk at most 1048576: NARROWER than '..Said'. Prove '..Said' where nothing that the law and all that it calls make is longer than what came in: it says more and counts as full. Else prove '..UptoSaid'. A law counts once. -/
mutual
def uptoBulk {H : Type} : DataW H → Nat
  | .lit (.string bytes) => bytes.length + 1
  | .lit _ => 1
  | .nil => 1
  | .ptr d => uptoBulk d + 1
  | .slice elems spare => uptoBulkAll elems + uptoBulkAll spare + 1
  | .agg parts => uptoBulkAll parts + 1
  | .iface _ d => uptoBulk d + 1
  | .map entries => uptoBulkEntries entries + 1
  | .held _ => 1
def uptoBulkAll {H : Type} : List (DataW H) → Nat
  | [] => 0
  | d :: r => uptoBulk d + uptoBulkAll r
def uptoBulkEntries {H : Type} : List (Lit × DataW H) → Nat
  | [] => 0
  | x :: r => uptoBulkEntry x + uptoBulkEntries r
def uptoBulkEntry {H : Type} : Lit × DataW H → Nat
  | (.string bytes, d) => bytes.length + uptoBulk d + 1
  | (_, d) => uptoBulk d + 1
 end
def uptoSmall : (H : Type) → List (DataW H) → Bool := fun _ ds => decide (uptoBulkAll ds ≤ 1048576)
def OpenSpec.upto (s : _root_.Go.ChangeSpec) : _root_.Go.OpenSpec := { _root_.Go.OpenSpec.ofChange s with cond := some uptoSmall }

/-- 'laws.FnHandCount', WHERE WHAT IT READS IS OF BULK AT MOST 1048576: true; the input reads as it did. -/
def fnHandCountUptoRow : OpenClaim := { program := "ytoaamamconcieabdoor", sum := "66b35e42b8cef8b94dd7263ead50e86146da8fd9e49a662aea50799f8d5c451e", func := "loop.example/ringoverlay/laws.FnHandCount", spec := "fnHandCount", inPlace := ["slices.overlaps[loop.example/ringoverlay/impl.Lease]", "internal/reflectlite.TypeOf"], unfollowed := true, recurses := true, named := ["loop.example/ringoverlay/impl.errLeaseInvalid", "loop.example/ringoverlay/impl.errLeaseRefused"], ifaces := true, apart := false, laid := [("loop.example/ringoverlay/impl.errLeaseInvalid", laid_loop_example_ringoverlay_impl_errLeaseInvalid), ("loop.example/ringoverlay/impl.errLeaseRefused", laid_loop_example_ringoverlay_impl_errLeaseRefused)], narrowed := true }
def FnHandCountUptoSaid : Prop := fnHandCountUptoRow.holds Tryd.pinned (OpenSpec.upto fnHandCountSpec)

/-- 'laws.FnHandBack', WHERE WHAT IT READS IS OF BULK AT MOST 1048576: true; the input reads as it did. -/
def fnHandBackUptoRow : OpenClaim := { program := "ytoaamamconcieabdoor", sum := "66b35e42b8cef8b94dd7263ead50e86146da8fd9e49a662aea50799f8d5c451e", func := "loop.example/ringoverlay/laws.FnHandBack", spec := "fnHandBack", inPlace := ["slices.overlaps[loop.example/ringoverlay/impl.Lease]", "internal/reflectlite.TypeOf"], unfollowed := true, recurses := true, named := ["loop.example/ringoverlay/impl.errLeaseInvalid", "loop.example/ringoverlay/impl.errLeaseRefused"], ifaces := true, apart := false, laid := [("loop.example/ringoverlay/impl.errLeaseInvalid", laid_loop_example_ringoverlay_impl_errLeaseInvalid), ("loop.example/ringoverlay/impl.errLeaseRefused", laid_loop_example_ringoverlay_impl_errLeaseRefused)], narrowed := true }
def FnHandBackUptoSaid : Prop := fnHandBackUptoRow.holds Tryd.pinned (OpenSpec.upto fnHandBackSpec)

/-- 'laws.FnTakeExpired', WHERE WHAT IT READS IS OF BULK AT MOST 1048576: true; the input reads as it did. -/
def fnTakeExpiredUptoRow : OpenClaim := { program := "ytoaamamconcieabdoor", sum := "66b35e42b8cef8b94dd7263ead50e86146da8fd9e49a662aea50799f8d5c451e", func := "loop.example/ringoverlay/laws.FnTakeExpired", spec := "fnTakeExpired", inPlace := ["internal/reflectlite.TypeOf"], unfollowed := true, recurses := true, named := ["loop.example/ringoverlay/impl.errLeaseInvalid", "loop.example/ringoverlay/impl.errLeaseRefused"], ifaces := true, apart := false, laid := [("loop.example/ringoverlay/impl.errLeaseInvalid", laid_loop_example_ringoverlay_impl_errLeaseInvalid), ("loop.example/ringoverlay/impl.errLeaseRefused", laid_loop_example_ringoverlay_impl_errLeaseRefused)], narrowed := true }
def FnTakeExpiredUptoSaid : Prop := fnTakeExpiredUptoRow.holds Tryd.pinned (OpenSpec.upto fnTakeExpiredSpec)

/-- 'laws.FnTakeRange', WHERE WHAT IT READS IS OF BULK AT MOST 1048576: true; the input reads as it did. -/
def fnTakeRangeUptoRow : OpenClaim := { program := "ytoaamamconcieabdoor", sum := "66b35e42b8cef8b94dd7263ead50e86146da8fd9e49a662aea50799f8d5c451e", func := "loop.example/ringoverlay/laws.FnTakeRange", spec := "fnTakeRange", inPlace := ["internal/reflectlite.TypeOf"], unfollowed := true, recurses := true, named := ["loop.example/ringoverlay/impl.errLeaseInvalid", "loop.example/ringoverlay/impl.errLeaseRefused"], ifaces := true, apart := false, laid := [("loop.example/ringoverlay/impl.errLeaseInvalid", laid_loop_example_ringoverlay_impl_errLeaseInvalid), ("loop.example/ringoverlay/impl.errLeaseRefused", laid_loop_example_ringoverlay_impl_errLeaseRefused)], narrowed := true }
def FnTakeRangeUptoSaid : Prop := fnTakeRangeUptoRow.holds Tryd.pinned (OpenSpec.upto fnTakeRangeSpec)

/-- 'laws.FnTakeOnce', WHERE WHAT IT READS IS OF BULK AT MOST 1048576: true; the input reads as it did. -/
def fnTakeOnceUptoRow : OpenClaim := { program := "ytoaamamconcieabdoor", sum := "66b35e42b8cef8b94dd7263ead50e86146da8fd9e49a662aea50799f8d5c451e", func := "loop.example/ringoverlay/laws.FnTakeOnce", spec := "fnTakeOnce", inPlace := ["internal/reflectlite.TypeOf"], unfollowed := true, recurses := true, named := ["loop.example/ringoverlay/impl.errLeaseInvalid", "loop.example/ringoverlay/impl.errLeaseRefused"], ifaces := true, apart := false, laid := [("loop.example/ringoverlay/impl.errLeaseInvalid", laid_loop_example_ringoverlay_impl_errLeaseInvalid), ("loop.example/ringoverlay/impl.errLeaseRefused", laid_loop_example_ringoverlay_impl_errLeaseRefused)], narrowed := true }
def FnTakeOnceUptoSaid : Prop := fnTakeOnceUptoRow.holds Tryd.pinned (OpenSpec.upto fnTakeOnceSpec)

/-- 'laws.FnHandSelf', WHERE WHAT IT READS IS OF BULK AT MOST 1048576: true; the input reads as it did. -/
def fnHandSelfUptoRow : OpenClaim := { program := "ytoaamamconcieabdoor", sum := "66b35e42b8cef8b94dd7263ead50e86146da8fd9e49a662aea50799f8d5c451e", func := "loop.example/ringoverlay/laws.FnHandSelf", spec := "fnHandSelf", inPlace := ["slices.overlaps[loop.example/ringoverlay/impl.Lease]", "internal/reflectlite.TypeOf"], unfollowed := true, recurses := true, named := ["loop.example/ringoverlay/impl.errLeaseInvalid", "loop.example/ringoverlay/impl.errLeaseRefused"], ifaces := true, apart := false, laid := [("loop.example/ringoverlay/impl.errLeaseInvalid", laid_loop_example_ringoverlay_impl_errLeaseInvalid), ("loop.example/ringoverlay/impl.errLeaseRefused", laid_loop_example_ringoverlay_impl_errLeaseRefused)], narrowed := true }
def FnHandSelfUptoSaid : Prop := fnHandSelfUptoRow.holds Tryd.pinned (OpenSpec.upto fnHandSelfSpec)

end Rows
end Go.Proofs.YtoaamamconcieabDoor
