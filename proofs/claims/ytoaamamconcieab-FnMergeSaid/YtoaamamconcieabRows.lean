/-
  No cell of these rows narrows 'for every input' (looked for: loops, veiled, ifaces, maps, wideKeys, modest, calm, conditions, laid).
  DERIVED. THE GIVEN ROWS OF THIS SEAT. 6 by the template 'for every input the law returns true; each argument reads behind the call as it read before'; 0 by the template 'total and deterministic' (their statements: YtoaamamconcieabTotals.lean).
  GIVEN WITH THE SEED: the statements are not yours to turn. If you find one false, say at which input.
  Laid BY PROGRAM, IN A SANDBOX (cutbox-rows.mjs): the forced cells as the released guide's own fill.sh prints them over the translation b18cb20b759625ff… (all of the seat's roots in one cut). By AI agents, Wed Nov 11 2026. No macro, syntax, notation, axiom, sorry.
-/
import Derived.Test.YtoaamamconcieabChecked
import GoSem.Claim
import GoSem.ClaimJoined
import GoSem.ClaimMapViews
import Derived.JoinedTies
import Derived.KernelRfl
namespace Go.Proofs.Ytoaamamconcieab
/- THE CELL 'sum', in the pinned program and in every row, IS THE sha256 OF THE DUMP (.gsa) THAT YtoaamamconcieabProg.lean LOADS. Nothing in Lean hashes anything: it is a label: what it is worth is what the hold of that sum in a sandbox is worth. -/
noncomputable def Try.pinned : Pinned := { name := "ytoaamamconcieab", sum := "b18cb20b759625ff03c67ff6eab72d8f2159ed2f22c753df008be4b4e1d4e1d8", checked := Try.checked }
namespace Rows
def none {H : Type} : Left H := { results := [], args := [] }

/-- 'laws.FnRenew': WHATEVER THE INPUT: true; the input reads as it did. -/
def fnRenewSpec : ChangeSpec := { name := "fnRenew", fn := fun _ => fun
  | [d] => { results := [.lit (.bool true)], args := [d] }
  | _ => none }
def fnRenewRow : OpenClaim := { program := "ytoaamamconcieab", sum := "b18cb20b759625ff03c67ff6eab72d8f2159ed2f22c753df008be4b4e1d4e1d8", func := "loop.example/ringoverlay/laws.FnRenew", spec := "fnRenew", apart := false }
def FnRenewSaid : Prop := fnRenewRow.holds Try.pinned (OpenSpec.ofChange fnRenewSpec)

/-- ITS FALSE NEIGHBOUR: 'it returns false'. Refute it at one input. -/
def fnRenewWrong : ChangeSpec := { name := "fnRenew", fn := fun _ => fun
  | [d] => { results := [.lit (.bool false)], args := [d] }
  | _ => none }
def FnRenewWrongFalsely : Prop := fnRenewRow.holds Try.pinned (OpenSpec.ofChange fnRenewWrong)

/-- 'laws.FnRenewTwice': WHATEVER THE INPUT: true; the input reads as it did. -/
def fnRenewTwiceSpec : ChangeSpec := { name := "fnRenewTwice", fn := fun _ => fun
  | [d] => { results := [.lit (.bool true)], args := [d] }
  | _ => none }
def fnRenewTwiceRow : OpenClaim := { program := "ytoaamamconcieab", sum := "b18cb20b759625ff03c67ff6eab72d8f2159ed2f22c753df008be4b4e1d4e1d8", func := "loop.example/ringoverlay/laws.FnRenewTwice", spec := "fnRenewTwice", apart := false }
def FnRenewTwiceSaid : Prop := fnRenewTwiceRow.holds Try.pinned (OpenSpec.ofChange fnRenewTwiceSpec)

/-- ITS FALSE NEIGHBOUR: 'it returns false'. Refute it at one input. -/
def fnRenewTwiceWrong : ChangeSpec := { name := "fnRenewTwice", fn := fun _ => fun
  | [d] => { results := [.lit (.bool false)], args := [d] }
  | _ => none }
def FnRenewTwiceWrongFalsely : Prop := fnRenewTwiceRow.holds Try.pinned (OpenSpec.ofChange fnRenewTwiceWrong)

/-- 'laws.FnRenewLater': WHATEVER THE INPUT: true; the input reads as it did. -/
def fnRenewLaterSpec : ChangeSpec := { name := "fnRenewLater", fn := fun _ => fun
  | [d] => { results := [.lit (.bool true)], args := [d] }
  | _ => none }
def fnRenewLaterRow : OpenClaim := { program := "ytoaamamconcieab", sum := "b18cb20b759625ff03c67ff6eab72d8f2159ed2f22c753df008be4b4e1d4e1d8", func := "loop.example/ringoverlay/laws.FnRenewLater", spec := "fnRenewLater", apart := false }
def FnRenewLaterSaid : Prop := fnRenewLaterRow.holds Try.pinned (OpenSpec.ofChange fnRenewLaterSpec)

/-- ITS FALSE NEIGHBOUR: 'it returns false'. Refute it at one input. -/
def fnRenewLaterWrong : ChangeSpec := { name := "fnRenewLater", fn := fun _ => fun
  | [d] => { results := [.lit (.bool false)], args := [d] }
  | _ => none }
def FnRenewLaterWrongFalsely : Prop := fnRenewLaterRow.holds Try.pinned (OpenSpec.ofChange fnRenewLaterWrong)

/-- 'laws.FnMerge': WHATEVER THE INPUT: true; the input reads as it did. -/
def fnMergeSpec : ChangeSpec := { name := "fnMerge", fn := fun _ => fun
  | [d] => { results := [.lit (.bool true)], args := [d] }
  | _ => none }
def fnMergeRow : OpenClaim := { program := "ytoaamamconcieab", sum := "b18cb20b759625ff03c67ff6eab72d8f2159ed2f22c753df008be4b4e1d4e1d8", func := "loop.example/ringoverlay/laws.FnMerge", spec := "fnMerge", unfollowed := true, recurses := true, apart := false }
def FnMergeSaid : Prop := fnMergeRow.holds Try.pinned (OpenSpec.ofChange fnMergeSpec)

/-- ITS FALSE NEIGHBOUR: 'it returns false'. Refute it at one input. -/
def fnMergeWrong : ChangeSpec := { name := "fnMerge", fn := fun _ => fun
  | [d] => { results := [.lit (.bool false)], args := [d] }
  | _ => none }
def FnMergeWrongFalsely : Prop := fnMergeRow.holds Try.pinned (OpenSpec.ofChange fnMergeWrong)

/-- 'laws.FnMergeTwice': WHATEVER THE INPUT: true; the input reads as it did. -/
def fnMergeTwiceSpec : ChangeSpec := { name := "fnMergeTwice", fn := fun _ => fun
  | [d] => { results := [.lit (.bool true)], args := [d] }
  | _ => none }
def fnMergeTwiceRow : OpenClaim := { program := "ytoaamamconcieab", sum := "b18cb20b759625ff03c67ff6eab72d8f2159ed2f22c753df008be4b4e1d4e1d8", func := "loop.example/ringoverlay/laws.FnMergeTwice", spec := "fnMergeTwice", apart := false }
def FnMergeTwiceSaid : Prop := fnMergeTwiceRow.holds Try.pinned (OpenSpec.ofChange fnMergeTwiceSpec)

/-- ITS FALSE NEIGHBOUR: 'it returns false'. Refute it at one input. -/
def fnMergeTwiceWrong : ChangeSpec := { name := "fnMergeTwice", fn := fun _ => fun
  | [d] => { results := [.lit (.bool false)], args := [d] }
  | _ => none }
def FnMergeTwiceWrongFalsely : Prop := fnMergeTwiceRow.holds Try.pinned (OpenSpec.ofChange fnMergeTwiceWrong)

/-- 'laws.FnKeysSum': WHATEVER THE INPUT: true; the input reads as it did. -/
def fnKeysSumSpec : ChangeSpec := { name := "fnKeysSum", fn := fun _ => fun
  | [d] => { results := [.lit (.bool true)], args := [d] }
  | _ => none }
def fnKeysSumRow : OpenClaim := { program := "ytoaamamconcieab", sum := "b18cb20b759625ff03c67ff6eab72d8f2159ed2f22c753df008be4b4e1d4e1d8", func := "loop.example/ringoverlay/laws.FnKeysSum", spec := "fnKeysSum", apart := false }
def FnKeysSumSaid : Prop := fnKeysSumRow.holds Try.pinned (OpenSpec.ofChange fnKeysSumSpec)

/-- ITS FALSE NEIGHBOUR: 'it returns false'. Refute it at one input. -/
def fnKeysSumWrong : ChangeSpec := { name := "fnKeysSum", fn := fun _ => fun
  | [d] => { results := [.lit (.bool false)], args := [d] }
  | _ => none }
def FnKeysSumWrongFalsely : Prop := fnKeysSumRow.holds Try.pinned (OpenSpec.ofChange fnKeysSumWrong)

/- THE SECOND FORM. 'bulk': how many values and letters a reading holds, each counted each time it is reached (what is shared counts as often as it is met; a slice's spare places count too). A statement '..UptoSaid' is the law's where the arguments, and the package variables that the reading takes, are together of bulk at most 1048576: NARROWER than '..Said'. Prove '..Said' where nothing that the law and all that it calls make is longer than what came in: it says more and counts as full. Else prove '..UptoSaid'. A law counts once. -/
mutual
def uptoBulk {H : Type} : DataW H → Nat
  | .lit (.string bytes) => bytes.length + 1
  | .lit _ => 1
  | .nil => 1
  | .ptr d => uptoBulk d + 1
  | .slice elems spare => uptoBulkAll elems + uptoBulkAll spare + 1
  | .agg parts => uptoBulkAll parts + 1
  | .iface _ d => uptoBulk d + 1
  | .map entries => uptoBulkEntries entries + 1
  | .held _ => 1
def uptoBulkAll {H : Type} : List (DataW H) → Nat
  | [] => 0
  | d :: r => uptoBulk d + uptoBulkAll r
def uptoBulkEntries {H : Type} : List (Lit × DataW H) → Nat
  | [] => 0
  | x :: r => uptoBulkEntry x + uptoBulkEntries r
def uptoBulkEntry {H : Type} : Lit × DataW H → Nat
  | (.string bytes, d) => bytes.length + uptoBulk d + 1
  | (_, d) => uptoBulk d + 1
 end
def uptoSmall : (H : Type) → List (DataW H) → Bool := fun _ ds => decide (uptoBulkAll ds ≤ 1048576)
def OpenSpec.upto (s : _root_.Go.ChangeSpec) : _root_.Go.OpenSpec := { _root_.Go.OpenSpec.ofChange s with cond := some uptoSmall }

/-- 'laws.FnRenew', WHERE WHAT IT READS IS OF BULK AT MOST 1048576: true; the input reads as it did. -/
def fnRenewUptoRow : OpenClaim := { program := "ytoaamamconcieab", sum := "b18cb20b759625ff03c67ff6eab72d8f2159ed2f22c753df008be4b4e1d4e1d8", func := "loop.example/ringoverlay/laws.FnRenew", spec := "fnRenew", apart := false, narrowed := true }
def FnRenewUptoSaid : Prop := fnRenewUptoRow.holds Try.pinned (OpenSpec.upto fnRenewSpec)

/-- 'laws.FnRenewTwice', WHERE WHAT IT READS IS OF BULK AT MOST 1048576: true; the input reads as it did. -/
def fnRenewTwiceUptoRow : OpenClaim := { program := "ytoaamamconcieab", sum := "b18cb20b759625ff03c67ff6eab72d8f2159ed2f22c753df008be4b4e1d4e1d8", func := "loop.example/ringoverlay/laws.FnRenewTwice", spec := "fnRenewTwice", apart := false, narrowed := true }
def FnRenewTwiceUptoSaid : Prop := fnRenewTwiceUptoRow.holds Try.pinned (OpenSpec.upto fnRenewTwiceSpec)

/-- 'laws.FnRenewLater', WHERE WHAT IT READS IS OF BULK AT MOST 1048576: true; the input reads as it did. -/
def fnRenewLaterUptoRow : OpenClaim := { program := "ytoaamamconcieab", sum := "b18cb20b759625ff03c67ff6eab72d8f2159ed2f22c753df008be4b4e1d4e1d8", func := "loop.example/ringoverlay/laws.FnRenewLater", spec := "fnRenewLater", apart := false, narrowed := true }
def FnRenewLaterUptoSaid : Prop := fnRenewLaterUptoRow.holds Try.pinned (OpenSpec.upto fnRenewLaterSpec)

/-- 'laws.FnMerge', WHERE WHAT IT READS IS OF BULK AT MOST 1048576: true; the input reads as it did. -/
def fnMergeUptoRow : OpenClaim := { program := "ytoaamamconcieab", sum := "b18cb20b759625ff03c67ff6eab72d8f2159ed2f22c753df008be4b4e1d4e1d8", func := "loop.example/ringoverlay/laws.FnMerge", spec := "fnMerge", unfollowed := true, recurses := true, apart := false, narrowed := true }
def FnMergeUptoSaid : Prop := fnMergeUptoRow.holds Try.pinned (OpenSpec.upto fnMergeSpec)

/-- 'laws.FnMergeTwice', WHERE WHAT IT READS IS OF BULK AT MOST 1048576: true; the input reads as it did. -/
def fnMergeTwiceUptoRow : OpenClaim := { program := "ytoaamamconcieab", sum := "b18cb20b759625ff03c67ff6eab72d8f2159ed2f22c753df008be4b4e1d4e1d8", func := "loop.example/ringoverlay/laws.FnMergeTwice", spec := "fnMergeTwice", apart := false, narrowed := true }
def FnMergeTwiceUptoSaid : Prop := fnMergeTwiceUptoRow.holds Try.pinned (OpenSpec.upto fnMergeTwiceSpec)

/-- 'laws.FnKeysSum', WHERE WHAT IT READS IS OF BULK AT MOST 1048576: true; the input reads as it did. -/
def fnKeysSumUptoRow : OpenClaim := { program := "ytoaamamconcieab", sum := "b18cb20b759625ff03c67ff6eab72d8f2159ed2f22c753df008be4b4e1d4e1d8", func := "loop.example/ringoverlay/laws.FnKeysSum", spec := "fnKeysSum", apart := false, narrowed := true }
def FnKeysSumUptoSaid : Prop := fnKeysSumUptoRow.holds Try.pinned (OpenSpec.upto fnKeysSumSpec)

end Rows
end Go.Proofs.Ytoaamamconcieab
