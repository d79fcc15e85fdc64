/-
  No cell of these rows narrows 'for every input' (looked for: loops, veiled, ifaces, maps, wideKeys, modest, calm, conditions, laid).
  DERIVED. THE GIVEN ROWS OF THIS SEAT. 5 by the template 'for every input the law returns true; each argument reads behind the call as it read before'; 0 by the template 'total and deterministic' (their statements: YtcjlohikfjafiaaTotals.lean).
  GIVEN WITH THE SEED: the statements are not yours to turn. If you find one false, say at which input.
  Laid BY PROGRAM, IN A SANDBOX (cutbox-rows.mjs): the forced cells as the released guide's own fill.sh prints them over the translation e353d50835a7f352… (all of the seat's roots in one cut). By AI agents, Wed Nov 11 2026. No macro, syntax, notation, axiom, sorry.
-/
import Derived.Test.YtcjlohikfjafiaaChecked
import GoSem.Claim
import GoSem.ClaimJoined
import GoSem.ClaimMapViews
import Derived.JoinedTies
import Derived.KernelRfl
namespace Go.Proofs.Ytcjlohikfjafiaa
/- THE CELL 'sum', in the pinned program and in every row, IS THE sha256 OF THE DUMP (.gsa) THAT YtcjlohikfjafiaaProg.lean LOADS. Nothing in Lean hashes anything: it is a label: what it is worth is what the hold of that sum in a sandbox is worth. -/
noncomputable def Try.pinned : Pinned := { name := "ytcjlohikfjafiaa", sum := "e353d50835a7f352284b17a24185bd0bd85b40fd4baefe2e2c3b5c34ddc5d38a", checked := Try.checked }
namespace Rows
def none {H : Type} : Left H := { results := [], args := [] }

/-- 'laws.FnPartOlder': WHATEVER THE INPUT: true; the input reads as it did. -/
def fnPartOlderSpec : ChangeSpec := { name := "fnPartOlder", fn := fun _ => fun
  | [d] => { results := [.lit (.bool true)], args := [d] }
  | _ => none }
def fnPartOlderRow : OpenClaim := { program := "ytcjlohikfjafiaa", sum := "e353d50835a7f352284b17a24185bd0bd85b40fd4baefe2e2c3b5c34ddc5d38a", func := "loop.example/ringoverlay/laws.FnPartOlder", spec := "fnPartOlder", unfollowed := true, recurses := true, apart := false }
def FnPartOlderSaid : Prop := fnPartOlderRow.holds Try.pinned (OpenSpec.ofChange fnPartOlderSpec)

/-- ITS FALSE NEIGHBOUR: 'it returns false'. Refute it at one input. -/
def fnPartOlderWrong : ChangeSpec := { name := "fnPartOlder", fn := fun _ => fun
  | [d] => { results := [.lit (.bool false)], args := [d] }
  | _ => none }
def FnPartOlderWrongFalsely : Prop := fnPartOlderRow.holds Try.pinned (OpenSpec.ofChange fnPartOlderWrong)

/-- 'laws.FnPartTwice': WHATEVER THE INPUT: true; the input reads as it did. -/
def fnPartTwiceSpec : ChangeSpec := { name := "fnPartTwice", fn := fun _ => fun
  | [d] => { results := [.lit (.bool true)], args := [d] }
  | _ => none }
def fnPartTwiceRow : OpenClaim := { program := "ytcjlohikfjafiaa", sum := "e353d50835a7f352284b17a24185bd0bd85b40fd4baefe2e2c3b5c34ddc5d38a", func := "loop.example/ringoverlay/laws.FnPartTwice", spec := "fnPartTwice", unfollowed := true, recurses := true, apart := false }
def FnPartTwiceSaid : Prop := fnPartTwiceRow.holds Try.pinned (OpenSpec.ofChange fnPartTwiceSpec)

/-- ITS FALSE NEIGHBOUR: 'it returns false'. Refute it at one input. -/
def fnPartTwiceWrong : ChangeSpec := { name := "fnPartTwice", fn := fun _ => fun
  | [d] => { results := [.lit (.bool false)], args := [d] }
  | _ => none }
def FnPartTwiceWrongFalsely : Prop := fnPartTwiceRow.holds Try.pinned (OpenSpec.ofChange fnPartTwiceWrong)

/-- 'laws.FnRegisterValid': WHATEVER THE INPUT: true; the input reads as it did. -/
def fnRegisterValidSpec : ChangeSpec := { name := "fnRegisterValid", fn := fun _ => fun
  | [d] => { results := [.lit (.bool true)], args := [d] }
  | _ => none }
def fnRegisterValidRow : OpenClaim := { program := "ytcjlohikfjafiaa", sum := "e353d50835a7f352284b17a24185bd0bd85b40fd4baefe2e2c3b5c34ddc5d38a", func := "loop.example/ringoverlay/laws.FnRegisterValid", spec := "fnRegisterValid", unfollowed := true, recurses := true, apart := false }
def FnRegisterValidSaid : Prop := fnRegisterValidRow.holds Try.pinned (OpenSpec.ofChange fnRegisterValidSpec)

/-- ITS FALSE NEIGHBOUR: 'it returns false'. Refute it at one input. -/
def fnRegisterValidWrong : ChangeSpec := { name := "fnRegisterValid", fn := fun _ => fun
  | [d] => { results := [.lit (.bool false)], args := [d] }
  | _ => none }
def FnRegisterValidWrongFalsely : Prop := fnRegisterValidRow.holds Try.pinned (OpenSpec.ofChange fnRegisterValidWrong)

/-- 'laws.FnExactRegisterValid': WHATEVER THE INPUT: true; the input reads as it did. -/
def fnExactRegisterValidSpec : ChangeSpec := { name := "fnExactRegisterValid", fn := fun _ => fun
  | [d] => { results := [.lit (.bool true)], args := [d] }
  | _ => none }
def fnExactRegisterValidRow : OpenClaim := { program := "ytcjlohikfjafiaa", sum := "e353d50835a7f352284b17a24185bd0bd85b40fd4baefe2e2c3b5c34ddc5d38a", func := "loop.example/ringoverlay/laws.FnExactRegisterValid", spec := "fnExactRegisterValid", unfollowed := true, recurses := true, apart := false }
def FnExactRegisterValidSaid : Prop := fnExactRegisterValidRow.holds Try.pinned (OpenSpec.ofChange fnExactRegisterValidSpec)

/-- ITS FALSE NEIGHBOUR: 'it returns false'. Refute it at one input. -/
def fnExactRegisterValidWrong : ChangeSpec := { name := "fnExactRegisterValid", fn := fun _ => fun
  | [d] => { results := [.lit (.bool false)], args := [d] }
  | _ => none }
def FnExactRegisterValidWrongFalsely : Prop := fnExactRegisterValidRow.holds Try.pinned (OpenSpec.ofChange fnExactRegisterValidWrong)

/-- 'laws.FnExactRegisterPart': WHATEVER THE INPUT: true; the input reads as it did. -/
def fnExactRegisterPartSpec : ChangeSpec := { name := "fnExactRegisterPart", fn := fun _ => fun
  | [d1, d2, d3] => { results := [.lit (.bool true)], args := [d1, d2, d3] }
  | _ => none }
def fnExactRegisterPartRow : OpenClaim := { program := "ytcjlohikfjafiaa", sum := "e353d50835a7f352284b17a24185bd0bd85b40fd4baefe2e2c3b5c34ddc5d38a", func := "loop.example/ringoverlay/laws.FnExactRegisterPart", spec := "fnExactRegisterPart", unfollowed := true, recurses := true, apart := false }
def FnExactRegisterPartSaid : Prop := fnExactRegisterPartRow.holds Try.pinned (OpenSpec.ofChange fnExactRegisterPartSpec)

/-- ITS FALSE NEIGHBOUR: 'it returns false'. Refute it at one input. -/
def fnExactRegisterPartWrong : ChangeSpec := { name := "fnExactRegisterPart", fn := fun _ => fun
  | [d1, d2, d3] => { results := [.lit (.bool false)], args := [d1, d2, d3] }
  | _ => none }
def FnExactRegisterPartWrongFalsely : Prop := fnExactRegisterPartRow.holds Try.pinned (OpenSpec.ofChange fnExactRegisterPartWrong)

/- THE SECOND FORM. 'bulk': how many values and letters a reading holds, each counted each time it is reached (what is shared counts as often as it is met; a slice's spare places count too). A statement '..UptoSaid' is the law's where the arguments, and the package variables that the reading takes, are together of bulk at most 1048576: NARROWER than '..Said'. Prove '..Said' where nothing that the law and all that it calls make is longer than what came in: it says more and counts as full. Else prove '..UptoSaid'. A law counts once. -/
mutual
def uptoBulk {H : Type} : DataW H → Nat
  | .lit (.string bytes) => bytes.length + 1
  | .lit _ => 1
  | .nil => 1
  | .ptr d => uptoBulk d + 1
  | .slice elems spare => uptoBulkAll elems + uptoBulkAll spare + 1
  | .agg parts => uptoBulkAll parts + 1
  | .iface _ d => uptoBulk d + 1
  | .map entries => uptoBulkEntries entries + 1
  | .held _ => 1
def uptoBulkAll {H : Type} : List (DataW H) → Nat
  | [] => 0
  | d :: r => uptoBulk d + uptoBulkAll r
def uptoBulkEntries {H : Type} : List (Lit × DataW H) → Nat
  | [] => 0
  | x :: r => uptoBulkEntry x + uptoBulkEntries r
def uptoBulkEntry {H : Type} : Lit × DataW H → Nat
  | (.string bytes, d) => bytes.length + uptoBulk d + 1
  | (_, d) => uptoBulk d + 1
 end
def uptoSmall : (H : Type) → List (DataW H) → Bool := fun _ ds => decide (uptoBulkAll ds ≤ 1048576)
def OpenSpec.upto (s : _root_.Go.ChangeSpec) : _root_.Go.OpenSpec := { _root_.Go.OpenSpec.ofChange s with cond := some uptoSmall }

/-- 'laws.FnPartOlder', WHERE WHAT IT READS IS OF BULK AT MOST 1048576: true; the input reads as it did. -/
def fnPartOlderUptoRow : OpenClaim := { program := "ytcjlohikfjafiaa", sum := "e353d50835a7f352284b17a24185bd0bd85b40fd4baefe2e2c3b5c34ddc5d38a", func := "loop.example/ringoverlay/laws.FnPartOlder", spec := "fnPartOlder", unfollowed := true, recurses := true, apart := false, narrowed := true }
def FnPartOlderUptoSaid : Prop := fnPartOlderUptoRow.holds Try.pinned (OpenSpec.upto fnPartOlderSpec)

/-- 'laws.FnPartTwice', WHERE WHAT IT READS IS OF BULK AT MOST 1048576: true; the input reads as it did. -/
def fnPartTwiceUptoRow : OpenClaim := { program := "ytcjlohikfjafiaa", sum := "e353d50835a7f352284b17a24185bd0bd85b40fd4baefe2e2c3b5c34ddc5d38a", func := "loop.example/ringoverlay/laws.FnPartTwice", spec := "fnPartTwice", unfollowed := true, recurses := true, apart := false, narrowed := true }
def FnPartTwiceUptoSaid : Prop := fnPartTwiceUptoRow.holds Try.pinned (OpenSpec.upto fnPartTwiceSpec)

/-- 'laws.FnRegisterValid', WHERE WHAT IT READS IS OF BULK AT MOST 1048576: true; the input reads as it did. -/
def fnRegisterValidUptoRow : OpenClaim := { program := "ytcjlohikfjafiaa", sum := "e353d50835a7f352284b17a24185bd0bd85b40fd4baefe2e2c3b5c34ddc5d38a", func := "loop.example/ringoverlay/laws.FnRegisterValid", spec := "fnRegisterValid", unfollowed := true, recurses := true, apart := false, narrowed := true }
def FnRegisterValidUptoSaid : Prop := fnRegisterValidUptoRow.holds Try.pinned (OpenSpec.upto fnRegisterValidSpec)

/-- 'laws.FnExactRegisterValid', WHERE WHAT IT READS IS OF BULK AT MOST 1048576: true; the input reads as it did. -/
def fnExactRegisterValidUptoRow : OpenClaim := { program := "ytcjlohikfjafiaa", sum := "e353d50835a7f352284b17a24185bd0bd85b40fd4baefe2e2c3b5c34ddc5d38a", func := "loop.example/ringoverlay/laws.FnExactRegisterValid", spec := "fnExactRegisterValid", unfollowed := true, recurses := true, apart := false, narrowed := true }
def FnExactRegisterValidUptoSaid : Prop := fnExactRegisterValidUptoRow.holds Try.pinned (OpenSpec.upto fnExactRegisterValidSpec)

/-- 'laws.FnExactRegisterPart', WHERE WHAT IT READS IS OF BULK AT MOST 1048576: true; the input reads as it did. -/
def fnExactRegisterPartUptoRow : OpenClaim := { program := "ytcjlohikfjafiaa", sum := "e353d50835a7f352284b17a24185bd0bd85b40fd4baefe2e2c3b5c34ddc5d38a", func := "loop.example/ringoverlay/laws.FnExactRegisterPart", spec := "fnExactRegisterPart", unfollowed := true, recurses := true, apart := false, narrowed := true }
def FnExactRegisterPartUptoSaid : Prop := fnExactRegisterPartUptoRow.holds Try.pinned (OpenSpec.upto fnExactRegisterPartSpec)

end Rows
end Go.Proofs.Ytcjlohikfjafiaa
