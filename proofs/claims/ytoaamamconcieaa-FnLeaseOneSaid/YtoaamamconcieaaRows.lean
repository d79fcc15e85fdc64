/-
  No cell of these rows narrows 'for every input' (looked for: loops, veiled, ifaces, maps, wideKeys, modest, calm, conditions, laid).
  DERIVED. THE GIVEN ROWS OF THIS SEAT. 7 by the template 'for every input the law returns true; each argument reads behind the call as it read before'; 0 by the template 'total and deterministic' (their statements: YtoaamamconcieaaTotals.lean).
  GIVEN WITH THE SEED: the statements are not yours to turn. If you find one false, say at which input.
  Laid BY PROGRAM, IN A SANDBOX (cutbox-rows.mjs): the forced cells as the released guide's own fill.sh prints them over the translation 4ba32a3f7d302782… (all of the seat's roots in one cut). By AI agents, Wed Nov 11 2026. No macro, syntax, notation, axiom, sorry.
-/
import Derived.Test.YtoaamamconcieaaChecked
import GoSem.Claim
import GoSem.ClaimJoined
import GoSem.ClaimMapViews
import Derived.JoinedTies
import Derived.KernelRfl
namespace Go.Proofs.Ytoaamamconcieaa
/- THE CELL 'sum', in the pinned program and in every row, IS THE sha256 OF THE DUMP (.gsa) THAT YtoaamamconcieaaProg.lean LOADS. Nothing in Lean hashes anything: it is a label: what it is worth is what the hold of that sum in a sandbox is worth. -/
noncomputable def Try.pinned : Pinned := { name := "ytoaamamconcieaa", sum := "4ba32a3f7d3027827370e2330b76ee40c6730cabd9e97c81bf85735b55b1966b", checked := Try.checked }
namespace Rows
def none {H : Type} : Left H := { results := [], args := [] }

/-- 'laws.FnExactLeasesValid': WHATEVER THE INPUT: true; the input reads as it did. -/
def fnExactLeasesValidSpec : ChangeSpec := { name := "fnExactLeasesValid", fn := fun _ => fun
  | [d] => { results := [.lit (.bool true)], args := [d] }
  | _ => none }
def fnExactLeasesValidRow : OpenClaim := { program := "ytoaamamconcieaa", sum := "4ba32a3f7d3027827370e2330b76ee40c6730cabd9e97c81bf85735b55b1966b", func := "loop.example/ringoverlay/laws.FnExactLeasesValid", spec := "fnExactLeasesValid", apart := false }
def FnExactLeasesValidSaid : Prop := fnExactLeasesValidRow.holds Try.pinned (OpenSpec.ofChange fnExactLeasesValidSpec)

/-- ITS FALSE NEIGHBOUR: 'it returns false'. Refute it at one input. -/
def fnExactLeasesValidWrong : ChangeSpec := { name := "fnExactLeasesValid", fn := fun _ => fun
  | [d] => { results := [.lit (.bool false)], args := [d] }
  | _ => none }
def FnExactLeasesValidWrongFalsely : Prop := fnExactLeasesValidRow.holds Try.pinned (OpenSpec.ofChange fnExactLeasesValidWrong)

/-- 'laws.FnExactLeaseOf': WHATEVER THE INPUT: true; the input reads as it did. -/
def fnExactLeaseOfSpec : ChangeSpec := { name := "fnExactLeaseOf", fn := fun _ => fun
  | [d1, d2] => { results := [.lit (.bool true)], args := [d1, d2] }
  | _ => none }
def fnExactLeaseOfRow : OpenClaim := { program := "ytoaamamconcieaa", sum := "4ba32a3f7d3027827370e2330b76ee40c6730cabd9e97c81bf85735b55b1966b", func := "loop.example/ringoverlay/laws.FnExactLeaseOf", spec := "fnExactLeaseOf", unfollowed := true, recurses := true, apart := false }
def FnExactLeaseOfSaid : Prop := fnExactLeaseOfRow.holds Try.pinned (OpenSpec.ofChange fnExactLeaseOfSpec)

/-- ITS FALSE NEIGHBOUR: 'it returns false'. Refute it at one input. -/
def fnExactLeaseOfWrong : ChangeSpec := { name := "fnExactLeaseOf", fn := fun _ => fun
  | [d1, d2] => { results := [.lit (.bool false)], args := [d1, d2] }
  | _ => none }
def FnExactLeaseOfWrongFalsely : Prop := fnExactLeaseOfRow.holds Try.pinned (OpenSpec.ofChange fnExactLeaseOfWrong)

/-- 'laws.FnExactLeaseRenew': WHATEVER THE INPUT: true; the input reads as it did. -/
def fnExactLeaseRenewSpec : ChangeSpec := { name := "fnExactLeaseRenew", fn := fun _ => fun
  | [d1, d2, d3, d4] => { results := [.lit (.bool true)], args := [d1, d2, d3, d4] }
  | _ => none }
def fnExactLeaseRenewRow : OpenClaim := { program := "ytoaamamconcieaa", sum := "4ba32a3f7d3027827370e2330b76ee40c6730cabd9e97c81bf85735b55b1966b", func := "loop.example/ringoverlay/laws.FnExactLeaseRenew", spec := "fnExactLeaseRenew", apart := false }
def FnExactLeaseRenewSaid : Prop := fnExactLeaseRenewRow.holds Try.pinned (OpenSpec.ofChange fnExactLeaseRenewSpec)

/-- ITS FALSE NEIGHBOUR: 'it returns false'. Refute it at one input. -/
def fnExactLeaseRenewWrong : ChangeSpec := { name := "fnExactLeaseRenew", fn := fun _ => fun
  | [d1, d2, d3, d4] => { results := [.lit (.bool false)], args := [d1, d2, d3, d4] }
  | _ => none }
def FnExactLeaseRenewWrongFalsely : Prop := fnExactLeaseRenewRow.holds Try.pinned (OpenSpec.ofChange fnExactLeaseRenewWrong)

/-- 'laws.FnExactLeasesMerge': WHATEVER THE INPUT: true; the input reads as it did. -/
def fnExactLeasesMergeSpec : ChangeSpec := { name := "fnExactLeasesMerge", fn := fun _ => fun
  | [d] => { results := [.lit (.bool true)], args := [d] }
  | _ => none }
def fnExactLeasesMergeRow : OpenClaim := { program := "ytoaamamconcieaa", sum := "4ba32a3f7d3027827370e2330b76ee40c6730cabd9e97c81bf85735b55b1966b", func := "loop.example/ringoverlay/laws.FnExactLeasesMerge", spec := "fnExactLeasesMerge", apart := false }
def FnExactLeasesMergeSaid : Prop := fnExactLeasesMergeRow.holds Try.pinned (OpenSpec.ofChange fnExactLeasesMergeSpec)

/-- ITS FALSE NEIGHBOUR: 'it returns false'. Refute it at one input. -/
def fnExactLeasesMergeWrong : ChangeSpec := { name := "fnExactLeasesMerge", fn := fun _ => fun
  | [d] => { results := [.lit (.bool false)], args := [d] }
  | _ => none }
def FnExactLeasesMergeWrongFalsely : Prop := fnExactLeasesMergeRow.holds Try.pinned (OpenSpec.ofChange fnExactLeasesMergeWrong)

/-- 'laws.FnExactLeaseKeys': WHATEVER THE INPUT: true; the input reads as it did. -/
def fnExactLeaseKeysSpec : ChangeSpec := { name := "fnExactLeaseKeys", fn := fun _ => fun
  | [d1, d2] => { results := [.lit (.bool true)], args := [d1, d2] }
  | _ => none }
def fnExactLeaseKeysRow : OpenClaim := { program := "ytoaamamconcieaa", sum := "4ba32a3f7d3027827370e2330b76ee40c6730cabd9e97c81bf85735b55b1966b", func := "loop.example/ringoverlay/laws.FnExactLeaseKeys", spec := "fnExactLeaseKeys", apart := false }
def FnExactLeaseKeysSaid : Prop := fnExactLeaseKeysRow.holds Try.pinned (OpenSpec.ofChange fnExactLeaseKeysSpec)

/-- ITS FALSE NEIGHBOUR: 'it returns false'. Refute it at one input. -/
def fnExactLeaseKeysWrong : ChangeSpec := { name := "fnExactLeaseKeys", fn := fun _ => fun
  | [d1, d2] => { results := [.lit (.bool false)], args := [d1, d2] }
  | _ => none }
def FnExactLeaseKeysWrongFalsely : Prop := fnExactLeaseKeysRow.holds Try.pinned (OpenSpec.ofChange fnExactLeaseKeysWrong)

/-- 'laws.FnLeaseOne': WHATEVER THE INPUT: true; the input reads as it did. -/
def fnLeaseOneSpec : ChangeSpec := { name := "fnLeaseOne", fn := fun _ => fun
  | [d] => { results := [.lit (.bool true)], args := [d] }
  | _ => none }
def fnLeaseOneRow : OpenClaim := { program := "ytoaamamconcieaa", sum := "4ba32a3f7d3027827370e2330b76ee40c6730cabd9e97c81bf85735b55b1966b", func := "loop.example/ringoverlay/laws.FnLeaseOne", spec := "fnLeaseOne", unfollowed := true, recurses := true, apart := false }
def FnLeaseOneSaid : Prop := fnLeaseOneRow.holds Try.pinned (OpenSpec.ofChange fnLeaseOneSpec)

/-- ITS FALSE NEIGHBOUR: 'it returns false'. Refute it at one input. -/
def fnLeaseOneWrong : ChangeSpec := { name := "fnLeaseOne", fn := fun _ => fun
  | [d] => { results := [.lit (.bool false)], args := [d] }
  | _ => none }
def FnLeaseOneWrongFalsely : Prop := fnLeaseOneRow.holds Try.pinned (OpenSpec.ofChange fnLeaseOneWrong)

/-- 'laws.FnLeaseOf': WHATEVER THE INPUT: true; the input reads as it did. -/
def fnLeaseOfSpec : ChangeSpec := { name := "fnLeaseOf", fn := fun _ => fun
  | [d] => { results := [.lit (.bool true)], args := [d] }
  | _ => none }
def fnLeaseOfRow : OpenClaim := { program := "ytoaamamconcieaa", sum := "4ba32a3f7d3027827370e2330b76ee40c6730cabd9e97c81bf85735b55b1966b", func := "loop.example/ringoverlay/laws.FnLeaseOf", spec := "fnLeaseOf", unfollowed := true, recurses := true, apart := false }
def FnLeaseOfSaid : Prop := fnLeaseOfRow.holds Try.pinned (OpenSpec.ofChange fnLeaseOfSpec)

/-- ITS FALSE NEIGHBOUR: 'it returns false'. Refute it at one input. -/
def fnLeaseOfWrong : ChangeSpec := { name := "fnLeaseOf", fn := fun _ => fun
  | [d] => { results := [.lit (.bool false)], args := [d] }
  | _ => none }
def FnLeaseOfWrongFalsely : Prop := fnLeaseOfRow.holds Try.pinned (OpenSpec.ofChange fnLeaseOfWrong)

/- THE SECOND FORM. 'bulk': how many values and letters a reading holds, each counted each time it is reached (what is shared counts as often as it is met; a slice's spare places count too). A statement '..UptoSaid' is the law's where the arguments, and the package variables that the reading takes, are together of bulk at most 1048576: NARROWER than '..Said'. Prove '..Said' where nothing that the law and all that it calls make is longer than what came in: it says more and counts as full. Else prove '..UptoSaid'. A law counts once. -/
mutual
def uptoBulk {H : Type} : DataW H → Nat
  | .lit (.string bytes) => bytes.length + 1
  | .lit _ => 1
  | .nil => 1
  | .ptr d => uptoBulk d + 1
  | .slice elems spare => uptoBulkAll elems + uptoBulkAll spare + 1
  | .agg parts => uptoBulkAll parts + 1
  | .iface _ d => uptoBulk d + 1
  | .map entries => uptoBulkEntries entries + 1
  | .held _ => 1
def uptoBulkAll {H : Type} : List (DataW H) → Nat
  | [] => 0
  | d :: r => uptoBulk d + uptoBulkAll r
def uptoBulkEntries {H : Type} : List (Lit × DataW H) → Nat
  | [] => 0
  | x :: r => uptoBulkEntry x + uptoBulkEntries r
def uptoBulkEntry {H : Type} : Lit × DataW H → Nat
  | (.string bytes, d) => bytes.length + uptoBulk d + 1
  | (_, d) => uptoBulk d + 1
 end
def uptoSmall : (H : Type) → List (DataW H) → Bool := fun _ ds => decide (uptoBulkAll ds ≤ 1048576)
def OpenSpec.upto (s : _root_.Go.ChangeSpec) : _root_.Go.OpenSpec := { _root_.Go.OpenSpec.ofChange s with cond := some uptoSmall }

/-- 'laws.FnExactLeasesValid', WHERE WHAT IT READS IS OF BULK AT MOST 1048576: true; the input reads as it did. -/
def fnExactLeasesValidUptoRow : OpenClaim := { program := "ytoaamamconcieaa", sum := "4ba32a3f7d3027827370e2330b76ee40c6730cabd9e97c81bf85735b55b1966b", func := "loop.example/ringoverlay/laws.FnExactLeasesValid", spec := "fnExactLeasesValid", apart := false, narrowed := true }
def FnExactLeasesValidUptoSaid : Prop := fnExactLeasesValidUptoRow.holds Try.pinned (OpenSpec.upto fnExactLeasesValidSpec)

/-- 'laws.FnExactLeaseOf', WHERE WHAT IT READS IS OF BULK AT MOST 1048576: true; the input reads as it did. -/
def fnExactLeaseOfUptoRow : OpenClaim := { program := "ytoaamamconcieaa", sum := "4ba32a3f7d3027827370e2330b76ee40c6730cabd9e97c81bf85735b55b1966b", func := "loop.example/ringoverlay/laws.FnExactLeaseOf", spec := "fnExactLeaseOf", unfollowed := true, recurses := true, apart := false, narrowed := true }
def FnExactLeaseOfUptoSaid : Prop := fnExactLeaseOfUptoRow.holds Try.pinned (OpenSpec.upto fnExactLeaseOfSpec)

/-- 'laws.FnExactLeaseRenew', WHERE WHAT IT READS IS OF BULK AT MOST 1048576: true; the input reads as it did. -/
def fnExactLeaseRenewUptoRow : OpenClaim := { program := "ytoaamamconcieaa", sum := "4ba32a3f7d3027827370e2330b76ee40c6730cabd9e97c81bf85735b55b1966b", func := "loop.example/ringoverlay/laws.FnExactLeaseRenew", spec := "fnExactLeaseRenew", apart := false, narrowed := true }
def FnExactLeaseRenewUptoSaid : Prop := fnExactLeaseRenewUptoRow.holds Try.pinned (OpenSpec.upto fnExactLeaseRenewSpec)

/-- 'laws.FnExactLeasesMerge', WHERE WHAT IT READS IS OF BULK AT MOST 1048576: true; the input reads as it did. -/
def fnExactLeasesMergeUptoRow : OpenClaim := { program := "ytoaamamconcieaa", sum := "4ba32a3f7d3027827370e2330b76ee40c6730cabd9e97c81bf85735b55b1966b", func := "loop.example/ringoverlay/laws.FnExactLeasesMerge", spec := "fnExactLeasesMerge", apart := false, narrowed := true }
def FnExactLeasesMergeUptoSaid : Prop := fnExactLeasesMergeUptoRow.holds Try.pinned (OpenSpec.upto fnExactLeasesMergeSpec)

/-- 'laws.FnExactLeaseKeys', WHERE WHAT IT READS IS OF BULK AT MOST 1048576: true; the input reads as it did. -/
def fnExactLeaseKeysUptoRow : OpenClaim := { program := "ytoaamamconcieaa", sum := "4ba32a3f7d3027827370e2330b76ee40c6730cabd9e97c81bf85735b55b1966b", func := "loop.example/ringoverlay/laws.FnExactLeaseKeys", spec := "fnExactLeaseKeys", apart := false, narrowed := true }
def FnExactLeaseKeysUptoSaid : Prop := fnExactLeaseKeysUptoRow.holds Try.pinned (OpenSpec.upto fnExactLeaseKeysSpec)

/-- 'laws.FnLeaseOne', WHERE WHAT IT READS IS OF BULK AT MOST 1048576: true; the input reads as it did. -/
def fnLeaseOneUptoRow : OpenClaim := { program := "ytoaamamconcieaa", sum := "4ba32a3f7d3027827370e2330b76ee40c6730cabd9e97c81bf85735b55b1966b", func := "loop.example/ringoverlay/laws.FnLeaseOne", spec := "fnLeaseOne", unfollowed := true, recurses := true, apart := false, narrowed := true }
def FnLeaseOneUptoSaid : Prop := fnLeaseOneUptoRow.holds Try.pinned (OpenSpec.upto fnLeaseOneSpec)

/-- 'laws.FnLeaseOf', WHERE WHAT IT READS IS OF BULK AT MOST 1048576: true; the input reads as it did. -/
def fnLeaseOfUptoRow : OpenClaim := { program := "ytoaamamconcieaa", sum := "4ba32a3f7d3027827370e2330b76ee40c6730cabd9e97c81bf85735b55b1966b", func := "loop.example/ringoverlay/laws.FnLeaseOf", spec := "fnLeaseOf", unfollowed := true, recurses := true, apart := false, narrowed := true }
def FnLeaseOfUptoSaid : Prop := fnLeaseOfUptoRow.holds Try.pinned (OpenSpec.upto fnLeaseOfSpec)

end Rows
end Go.Proofs.Ytoaamamconcieaa
