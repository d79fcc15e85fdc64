/-
  No cell of these rows narrows 'for every input' (looked for: loops, veiled, ifaces, maps, wideKeys, modest, calm, conditions, laid).
  DERIVED. THE GIVEN ROWS OF THIS SEAT. 14 by the template 'for every input the law returns true; each argument reads behind the call as it read before'; 0 by the template 'total and deterministic' (their statements: YtjagcnfbkhchgaaTotals.lean).
  GIVEN WITH THE SEED: the statements are not yours to turn. If you find one false, say at which input.
  Laid BY PROGRAM, IN A SANDBOX (cutbox-rows.mjs): the forced cells as the released guide's own fill.sh prints them over the translation 51e10e3474b59edb… (all of the seat's roots in one cut). By AI agents, Wed Nov 11 2026. No macro, syntax, notation, axiom, sorry.
-/
import Derived.Test.YtjagcnfbkhchgaaChecked
import GoSem.Claim
import GoSem.ClaimJoined
import GoSem.ClaimMapViews
import Derived.JoinedTies
import Derived.KernelRfl
namespace Go.Proofs.Ytjagcnfbkhchgaa
/- THE CELL 'sum', in the pinned program and in every row, IS THE sha256 OF THE DUMP (.gsa) THAT YtjagcnfbkhchgaaProg.lean LOADS. Nothing in Lean hashes anything: it is a label: what it is worth is what the hold of that sum in a sandbox is worth. -/
noncomputable def Try.pinned : Pinned := { name := "ytjagcnfbkhchgaa", sum := "51e10e3474b59edbc0f96a62f4b8033efcd406526e3de1d9c52261d63a81bddf", checked := Try.checked }
namespace Rows
def none {H : Type} : Left H := { results := [], args := [] }

/-- 'laws.FnFingers': WHATEVER THE INPUT: true; the input reads as it did. -/
def fnFingersSpec : ChangeSpec := { name := "fnFingers", fn := fun _ => fun
  | [d] => { results := [.lit (.bool true)], args := [d] }
  | _ => none }
def fnFingersRow : OpenClaim := { program := "ytjagcnfbkhchgaa", sum := "51e10e3474b59edbc0f96a62f4b8033efcd406526e3de1d9c52261d63a81bddf", func := "loop.example/ringoverlay/laws.FnFingers", spec := "fnFingers", apart := false }
def FnFingersSaid : Prop := fnFingersRow.holds Try.pinned (OpenSpec.ofChange fnFingersSpec)

/-- ITS FALSE NEIGHBOUR: 'it returns false'. Refute it at one input. -/
def fnFingersWrong : ChangeSpec := { name := "fnFingers", fn := fun _ => fun
  | [d] => { results := [.lit (.bool false)], args := [d] }
  | _ => none }
def FnFingersWrongFalsely : Prop := fnFingersRow.holds Try.pinned (OpenSpec.ofChange fnFingersWrong)

/-- 'laws.FnFingersFirst': WHATEVER THE INPUT: true; the input reads as it did. -/
def fnFingersFirstSpec : ChangeSpec := { name := "fnFingersFirst", fn := fun _ => fun
  | [d] => { results := [.lit (.bool true)], args := [d] }
  | _ => none }
def fnFingersFirstRow : OpenClaim := { program := "ytjagcnfbkhchgaa", sum := "51e10e3474b59edbc0f96a62f4b8033efcd406526e3de1d9c52261d63a81bddf", func := "loop.example/ringoverlay/laws.FnFingersFirst", spec := "fnFingersFirst", apart := false }
def FnFingersFirstSaid : Prop := fnFingersFirstRow.holds Try.pinned (OpenSpec.ofChange fnFingersFirstSpec)

/-- ITS FALSE NEIGHBOUR: 'it returns false'. Refute it at one input. -/
def fnFingersFirstWrong : ChangeSpec := { name := "fnFingersFirst", fn := fun _ => fun
  | [d] => { results := [.lit (.bool false)], args := [d] }
  | _ => none }
def FnFingersFirstWrongFalsely : Prop := fnFingersFirstRow.holds Try.pinned (OpenSpec.ofChange fnFingersFirstWrong)

/-- 'laws.FnLookupOwner': WHATEVER THE INPUT: true; the input reads as it did. -/
def fnLookupOwnerSpec : ChangeSpec := { name := "fnLookupOwner", fn := fun _ => fun
  | [d] => { results := [.lit (.bool true)], args := [d] }
  | _ => none }
def fnLookupOwnerRow : OpenClaim := { program := "ytjagcnfbkhchgaa", sum := "51e10e3474b59edbc0f96a62f4b8033efcd406526e3de1d9c52261d63a81bddf", func := "loop.example/ringoverlay/laws.FnLookupOwner", spec := "fnLookupOwner", unfollowed := true, recurses := true, apart := false }
def FnLookupOwnerSaid : Prop := fnLookupOwnerRow.holds Try.pinned (OpenSpec.ofChange fnLookupOwnerSpec)

/-- ITS FALSE NEIGHBOUR: 'it returns false'. Refute it at one input. -/
def fnLookupOwnerWrong : ChangeSpec := { name := "fnLookupOwner", fn := fun _ => fun
  | [d] => { results := [.lit (.bool false)], args := [d] }
  | _ => none }
def FnLookupOwnerWrongFalsely : Prop := fnLookupOwnerRow.holds Try.pinned (OpenSpec.ofChange fnLookupOwnerWrong)

/-- 'laws.FnLookupShort': WHATEVER THE INPUT: true; the input reads as it did. -/
def fnLookupShortSpec : ChangeSpec := { name := "fnLookupShort", fn := fun _ => fun
  | [d] => { results := [.lit (.bool true)], args := [d] }
  | _ => none }
def fnLookupShortRow : OpenClaim := { program := "ytjagcnfbkhchgaa", sum := "51e10e3474b59edbc0f96a62f4b8033efcd406526e3de1d9c52261d63a81bddf", func := "loop.example/ringoverlay/laws.FnLookupShort", spec := "fnLookupShort", unfollowed := true, recurses := true, apart := false }
def FnLookupShortSaid : Prop := fnLookupShortRow.holds Try.pinned (OpenSpec.ofChange fnLookupShortSpec)

/-- ITS FALSE NEIGHBOUR: 'it returns false'. Refute it at one input. -/
def fnLookupShortWrong : ChangeSpec := { name := "fnLookupShort", fn := fun _ => fun
  | [d] => { results := [.lit (.bool false)], args := [d] }
  | _ => none }
def FnLookupShortWrongFalsely : Prop := fnLookupShortRow.holds Try.pinned (OpenSpec.ofChange fnLookupShortWrong)

/-- 'laws.FnLookupOnce': WHATEVER THE INPUT: true; the input reads as it did. -/
def fnLookupOnceSpec : ChangeSpec := { name := "fnLookupOnce", fn := fun _ => fun
  | [d] => { results := [.lit (.bool true)], args := [d] }
  | _ => none }
def fnLookupOnceRow : OpenClaim := { program := "ytjagcnfbkhchgaa", sum := "51e10e3474b59edbc0f96a62f4b8033efcd406526e3de1d9c52261d63a81bddf", func := "loop.example/ringoverlay/laws.FnLookupOnce", spec := "fnLookupOnce", unfollowed := true, recurses := true, apart := false }
def FnLookupOnceSaid : Prop := fnLookupOnceRow.holds Try.pinned (OpenSpec.ofChange fnLookupOnceSpec)

/-- ITS FALSE NEIGHBOUR: 'it returns false'. Refute it at one input. -/
def fnLookupOnceWrong : ChangeSpec := { name := "fnLookupOnce", fn := fun _ => fun
  | [d] => { results := [.lit (.bool false)], args := [d] }
  | _ => none }
def FnLookupOnceWrongFalsely : Prop := fnLookupOnceRow.holds Try.pinned (OpenSpec.ofChange fnLookupOnceWrong)

/-- 'laws.FnLookupHalf': WHATEVER THE INPUT: true; the input reads as it did. -/
def fnLookupHalfSpec : ChangeSpec := { name := "fnLookupHalf", fn := fun _ => fun
  | [d] => { results := [.lit (.bool true)], args := [d] }
  | _ => none }
def fnLookupHalfRow : OpenClaim := { program := "ytjagcnfbkhchgaa", sum := "51e10e3474b59edbc0f96a62f4b8033efcd406526e3de1d9c52261d63a81bddf", func := "loop.example/ringoverlay/laws.FnLookupHalf", spec := "fnLookupHalf", unfollowed := true, recurses := true, apart := false }
def FnLookupHalfSaid : Prop := fnLookupHalfRow.holds Try.pinned (OpenSpec.ofChange fnLookupHalfSpec)

/-- ITS FALSE NEIGHBOUR: 'it returns false'. Refute it at one input. -/
def fnLookupHalfWrong : ChangeSpec := { name := "fnLookupHalf", fn := fun _ => fun
  | [d] => { results := [.lit (.bool false)], args := [d] }
  | _ => none }
def FnLookupHalfWrongFalsely : Prop := fnLookupHalfRow.holds Try.pinned (OpenSpec.ofChange fnLookupHalfWrong)

/-- 'laws.FnLookupSuffix': WHATEVER THE INPUT: true; the input reads as it did. -/
def fnLookupSuffixSpec : ChangeSpec := { name := "fnLookupSuffix", fn := fun _ => fun
  | [d1, d2] => { results := [.lit (.bool true)], args := [d1, d2] }
  | _ => none }
def fnLookupSuffixRow : OpenClaim := { program := "ytjagcnfbkhchgaa", sum := "51e10e3474b59edbc0f96a62f4b8033efcd406526e3de1d9c52261d63a81bddf", func := "loop.example/ringoverlay/laws.FnLookupSuffix", spec := "fnLookupSuffix", unfollowed := true, recurses := true, apart := false }
def FnLookupSuffixSaid : Prop := fnLookupSuffixRow.holds Try.pinned (OpenSpec.ofChange fnLookupSuffixSpec)

/-- ITS FALSE NEIGHBOUR: 'it returns false'. Refute it at one input. -/
def fnLookupSuffixWrong : ChangeSpec := { name := "fnLookupSuffix", fn := fun _ => fun
  | [d1, d2] => { results := [.lit (.bool false)], args := [d1, d2] }
  | _ => none }
def FnLookupSuffixWrongFalsely : Prop := fnLookupSuffixRow.holds Try.pinned (OpenSpec.ofChange fnLookupSuffixWrong)

/-- 'laws.FnLookupRange': WHATEVER THE INPUT: true; the input reads as it did. -/
def fnLookupRangeSpec : ChangeSpec := { name := "fnLookupRange", fn := fun _ => fun
  | [d] => { results := [.lit (.bool true)], args := [d] }
  | _ => none }
def fnLookupRangeRow : OpenClaim := { program := "ytjagcnfbkhchgaa", sum := "51e10e3474b59edbc0f96a62f4b8033efcd406526e3de1d9c52261d63a81bddf", func := "loop.example/ringoverlay/laws.FnLookupRange", spec := "fnLookupRange", unfollowed := true, recurses := true, apart := false }
def FnLookupRangeSaid : Prop := fnLookupRangeRow.holds Try.pinned (OpenSpec.ofChange fnLookupRangeSpec)

/-- ITS FALSE NEIGHBOUR: 'it returns false'. Refute it at one input. -/
def fnLookupRangeWrong : ChangeSpec := { name := "fnLookupRange", fn := fun _ => fun
  | [d] => { results := [.lit (.bool false)], args := [d] }
  | _ => none }
def FnLookupRangeWrongFalsely : Prop := fnLookupRangeRow.holds Try.pinned (OpenSpec.ofChange fnLookupRangeWrong)

/-- 'laws.FnLookupRangeOne': WHATEVER THE INPUT: true; the input reads as it did. -/
def fnLookupRangeOneSpec : ChangeSpec := { name := "fnLookupRangeOne", fn := fun _ => fun
  | [d] => { results := [.lit (.bool true)], args := [d] }
  | _ => none }
def fnLookupRangeOneRow : OpenClaim := { program := "ytjagcnfbkhchgaa", sum := "51e10e3474b59edbc0f96a62f4b8033efcd406526e3de1d9c52261d63a81bddf", func := "loop.example/ringoverlay/laws.FnLookupRangeOne", spec := "fnLookupRangeOne", unfollowed := true, recurses := true, apart := false }
def FnLookupRangeOneSaid : Prop := fnLookupRangeOneRow.holds Try.pinned (OpenSpec.ofChange fnLookupRangeOneSpec)

/-- ITS FALSE NEIGHBOUR: 'it returns false'. Refute it at one input. -/
def fnLookupRangeOneWrong : ChangeSpec := { name := "fnLookupRangeOne", fn := fun _ => fun
  | [d] => { results := [.lit (.bool false)], args := [d] }
  | _ => none }
def FnLookupRangeOneWrongFalsely : Prop := fnLookupRangeOneRow.holds Try.pinned (OpenSpec.ofChange fnLookupRangeOneWrong)

/-- 'laws.FnLookupSelf': WHATEVER THE INPUT: true; the input reads as it did. -/
def fnLookupSelfSpec : ChangeSpec := { name := "fnLookupSelf", fn := fun _ => fun
  | [d] => { results := [.lit (.bool true)], args := [d] }
  | _ => none }
def fnLookupSelfRow : OpenClaim := { program := "ytjagcnfbkhchgaa", sum := "51e10e3474b59edbc0f96a62f4b8033efcd406526e3de1d9c52261d63a81bddf", func := "loop.example/ringoverlay/laws.FnLookupSelf", spec := "fnLookupSelf", unfollowed := true, recurses := true, apart := false }
def FnLookupSelfSaid : Prop := fnLookupSelfRow.holds Try.pinned (OpenSpec.ofChange fnLookupSelfSpec)

/-- ITS FALSE NEIGHBOUR: 'it returns false'. Refute it at one input. -/
def fnLookupSelfWrong : ChangeSpec := { name := "fnLookupSelf", fn := fun _ => fun
  | [d] => { results := [.lit (.bool false)], args := [d] }
  | _ => none }
def FnLookupSelfWrongFalsely : Prop := fnLookupSelfRow.holds Try.pinned (OpenSpec.ofChange fnLookupSelfWrong)

/-- 'laws.FnExactFingersOf': WHATEVER THE INPUT: true; the input reads as it did. -/
def fnExactFingersOfSpec : ChangeSpec := { name := "fnExactFingersOf", fn := fun _ => fun
  | [d1, d2] => { results := [.lit (.bool true)], args := [d1, d2] }
  | _ => none }
def fnExactFingersOfRow : OpenClaim := { program := "ytjagcnfbkhchgaa", sum := "51e10e3474b59edbc0f96a62f4b8033efcd406526e3de1d9c52261d63a81bddf", func := "loop.example/ringoverlay/laws.FnExactFingersOf", spec := "fnExactFingersOf", apart := false }
def FnExactFingersOfSaid : Prop := fnExactFingersOfRow.holds Try.pinned (OpenSpec.ofChange fnExactFingersOfSpec)

/-- ITS FALSE NEIGHBOUR: 'it returns false'. Refute it at one input. -/
def fnExactFingersOfWrong : ChangeSpec := { name := "fnExactFingersOf", fn := fun _ => fun
  | [d1, d2] => { results := [.lit (.bool false)], args := [d1, d2] }
  | _ => none }
def FnExactFingersOfWrongFalsely : Prop := fnExactFingersOfRow.holds Try.pinned (OpenSpec.ofChange fnExactFingersOfWrong)

/-- 'laws.FnExactLookupNext': WHATEVER THE INPUT: true; the input reads as it did. -/
def fnExactLookupNextSpec : ChangeSpec := { name := "fnExactLookupNext", fn := fun _ => fun
  | [d1, d2, d3] => { results := [.lit (.bool true)], args := [d1, d2, d3] }
  | _ => none }
def fnExactLookupNextRow : OpenClaim := { program := "ytjagcnfbkhchgaa", sum := "51e10e3474b59edbc0f96a62f4b8033efcd406526e3de1d9c52261d63a81bddf", func := "loop.example/ringoverlay/laws.FnExactLookupNext", spec := "fnExactLookupNext", unfollowed := true, recurses := true, apart := false }
def FnExactLookupNextSaid : Prop := fnExactLookupNextRow.holds Try.pinned (OpenSpec.ofChange fnExactLookupNextSpec)

/-- ITS FALSE NEIGHBOUR: 'it returns false'. Refute it at one input. -/
def fnExactLookupNextWrong : ChangeSpec := { name := "fnExactLookupNext", fn := fun _ => fun
  | [d1, d2, d3] => { results := [.lit (.bool false)], args := [d1, d2, d3] }
  | _ => none }
def FnExactLookupNextWrongFalsely : Prop := fnExactLookupNextRow.holds Try.pinned (OpenSpec.ofChange fnExactLookupNextWrong)

/-- 'laws.FnExactLookupPath': WHATEVER THE INPUT: true; the input reads as it did. -/
def fnExactLookupPathSpec : ChangeSpec := { name := "fnExactLookupPath", fn := fun _ => fun
  | [d1, d2, d3] => { results := [.lit (.bool true)], args := [d1, d2, d3] }
  | _ => none }
def fnExactLookupPathRow : OpenClaim := { program := "ytjagcnfbkhchgaa", sum := "51e10e3474b59edbc0f96a62f4b8033efcd406526e3de1d9c52261d63a81bddf", func := "loop.example/ringoverlay/laws.FnExactLookupPath", spec := "fnExactLookupPath", unfollowed := true, recurses := true, apart := false }
def FnExactLookupPathSaid : Prop := fnExactLookupPathRow.holds Try.pinned (OpenSpec.ofChange fnExactLookupPathSpec)

/-- ITS FALSE NEIGHBOUR: 'it returns false'. Refute it at one input. -/
def fnExactLookupPathWrong : ChangeSpec := { name := "fnExactLookupPath", fn := fun _ => fun
  | [d1, d2, d3] => { results := [.lit (.bool false)], args := [d1, d2, d3] }
  | _ => none }
def FnExactLookupPathWrongFalsely : Prop := fnExactLookupPathRow.holds Try.pinned (OpenSpec.ofChange fnExactLookupPathWrong)

/-- 'laws.FnExactLookupRange': WHATEVER THE INPUT: true; the input reads as it did. -/
def fnExactLookupRangeSpec : ChangeSpec := { name := "fnExactLookupRange", fn := fun _ => fun
  | [d1, d2, d3] => { results := [.lit (.bool true)], args := [d1, d2, d3] }
  | _ => none }
def fnExactLookupRangeRow : OpenClaim := { program := "ytjagcnfbkhchgaa", sum := "51e10e3474b59edbc0f96a62f4b8033efcd406526e3de1d9c52261d63a81bddf", func := "loop.example/ringoverlay/laws.FnExactLookupRange", spec := "fnExactLookupRange", unfollowed := true, recurses := true, apart := false }
def FnExactLookupRangeSaid : Prop := fnExactLookupRangeRow.holds Try.pinned (OpenSpec.ofChange fnExactLookupRangeSpec)

/-- ITS FALSE NEIGHBOUR: 'it returns false'. Refute it at one input. -/
def fnExactLookupRangeWrong : ChangeSpec := { name := "fnExactLookupRange", fn := fun _ => fun
  | [d1, d2, d3] => { results := [.lit (.bool false)], args := [d1, d2, d3] }
  | _ => none }
def FnExactLookupRangeWrongFalsely : Prop := fnExactLookupRangeRow.holds Try.pinned (OpenSpec.ofChange fnExactLookupRangeWrong)

/- THE SECOND FORM. 'bulk': how many values and letters a reading holds, each counted each time it is reached (what is shared counts as often as it is met; a slice's spare places count too). A statement '..UptoSaid' is the law's where the arguments, and the package variables that the reading takes, are together of bulk at most 1048576: NARROWER than '..Said'. Prove '..Said' where nothing that the law and all that it calls make is longer than what came in: it says more and counts as full. Else prove '..UptoSaid'. A law counts once. -/
mutual
def uptoBulk {H : Type} : DataW H → Nat
  | .lit (.string bytes) => bytes.length + 1
  | .lit _ => 1
  | .nil => 1
  | .ptr d => uptoBulk d + 1
  | .slice elems spare => uptoBulkAll elems + uptoBulkAll spare + 1
  | .agg parts => uptoBulkAll parts + 1
  | .iface _ d => uptoBulk d + 1
  | .map entries => uptoBulkEntries entries + 1
  | .held _ => 1
def uptoBulkAll {H : Type} : List (DataW H) → Nat
  | [] => 0
  | d :: r => uptoBulk d + uptoBulkAll r
def uptoBulkEntries {H : Type} : List (Lit × DataW H) → Nat
  | [] => 0
  | x :: r => uptoBulkEntry x + uptoBulkEntries r
def uptoBulkEntry {H : Type} : Lit × DataW H → Nat
  | (.string bytes, d) => bytes.length + uptoBulk d + 1
  | (_, d) => uptoBulk d + 1
 end
def uptoSmall : (H : Type) → List (DataW H) → Bool := fun _ ds => decide (uptoBulkAll ds ≤ 1048576)
def OpenSpec.upto (s : _root_.Go.ChangeSpec) : _root_.Go.OpenSpec := { _root_.Go.OpenSpec.ofChange s with cond := some uptoSmall }

/-- 'laws.FnFingers', WHERE WHAT IT READS IS OF BULK AT MOST 1048576: true; the input reads as it did. -/
def fnFingersUptoRow : OpenClaim := { program := "ytjagcnfbkhchgaa", sum := "51e10e3474b59edbc0f96a62f4b8033efcd406526e3de1d9c52261d63a81bddf", func := "loop.example/ringoverlay/laws.FnFingers", spec := "fnFingers", apart := false, narrowed := true }
def FnFingersUptoSaid : Prop := fnFingersUptoRow.holds Try.pinned (OpenSpec.upto fnFingersSpec)

/-- 'laws.FnFingersFirst', WHERE WHAT IT READS IS OF BULK AT MOST 1048576: true; the input reads as it did. -/
def fnFingersFirstUptoRow : OpenClaim := { program := "ytjagcnfbkhchgaa", sum := "51e10e3474b59edbc0f96a62f4b8033efcd406526e3de1d9c52261d63a81bddf", func := "loop.example/ringoverlay/laws.FnFingersFirst", spec := "fnFingersFirst", apart := false, narrowed := true }
def FnFingersFirstUptoSaid : Prop := fnFingersFirstUptoRow.holds Try.pinned (OpenSpec.upto fnFingersFirstSpec)

/-- 'laws.FnLookupOwner', WHERE WHAT IT READS IS OF BULK AT MOST 1048576: true; the input reads as it did. -/
def fnLookupOwnerUptoRow : OpenClaim := { program := "ytjagcnfbkhchgaa", sum := "51e10e3474b59edbc0f96a62f4b8033efcd406526e3de1d9c52261d63a81bddf", func := "loop.example/ringoverlay/laws.FnLookupOwner", spec := "fnLookupOwner", unfollowed := true, recurses := true, apart := false, narrowed := true }
def FnLookupOwnerUptoSaid : Prop := fnLookupOwnerUptoRow.holds Try.pinned (OpenSpec.upto fnLookupOwnerSpec)

/-- 'laws.FnLookupShort', WHERE WHAT IT READS IS OF BULK AT MOST 1048576: true; the input reads as it did. -/
def fnLookupShortUptoRow : OpenClaim := { program := "ytjagcnfbkhchgaa", sum := "51e10e3474b59edbc0f96a62f4b8033efcd406526e3de1d9c52261d63a81bddf", func := "loop.example/ringoverlay/laws.FnLookupShort", spec := "fnLookupShort", unfollowed := true, recurses := true, apart := false, narrowed := true }
def FnLookupShortUptoSaid : Prop := fnLookupShortUptoRow.holds Try.pinned (OpenSpec.upto fnLookupShortSpec)

/-- 'laws.FnLookupOnce', WHERE WHAT IT READS IS OF BULK AT MOST 1048576: true; the input reads as it did. -/
def fnLookupOnceUptoRow : OpenClaim := { program := "ytjagcnfbkhchgaa", sum := "51e10e3474b59edbc0f96a62f4b8033efcd406526e3de1d9c52261d63a81bddf", func := "loop.example/ringoverlay/laws.FnLookupOnce", spec := "fnLookupOnce", unfollowed := true, recurses := true, apart := false, narrowed := true }
def FnLookupOnceUptoSaid : Prop := fnLookupOnceUptoRow.holds Try.pinned (OpenSpec.upto fnLookupOnceSpec)

/-- 'laws.FnLookupHalf', WHERE WHAT IT READS IS OF BULK AT MOST 1048576: true; the input reads as it did. -/
def fnLookupHalfUptoRow : OpenClaim := { program := "ytjagcnfbkhchgaa", sum := "51e10e3474b59edbc0f96a62f4b8033efcd406526e3de1d9c52261d63a81bddf", func := "loop.example/ringoverlay/laws.FnLookupHalf", spec := "fnLookupHalf", unfollowed := true, recurses := true, apart := false, narrowed := true }
def FnLookupHalfUptoSaid : Prop := fnLookupHalfUptoRow.holds Try.pinned (OpenSpec.upto fnLookupHalfSpec)

/-- 'laws.FnLookupSuffix', WHERE WHAT IT READS IS OF BULK AT MOST 1048576: true; the input reads as it did. -/
def fnLookupSuffixUptoRow : OpenClaim := { program := "ytjagcnfbkhchgaa", sum := "51e10e3474b59edbc0f96a62f4b8033efcd406526e3de1d9c52261d63a81bddf", func := "loop.example/ringoverlay/laws.FnLookupSuffix", spec := "fnLookupSuffix", unfollowed := true, recurses := true, apart := false, narrowed := true }
def FnLookupSuffixUptoSaid : Prop := fnLookupSuffixUptoRow.holds Try.pinned (OpenSpec.upto fnLookupSuffixSpec)

/-- 'laws.FnLookupRange', WHERE WHAT IT READS IS OF BULK AT MOST 1048576: true; the input reads as it did. -/
def fnLookupRangeUptoRow : OpenClaim := { program := "ytjagcnfbkhchgaa", sum := "51e10e3474b59edbc0f96a62f4b8033efcd406526e3de1d9c52261d63a81bddf", func := "loop.example/ringoverlay/laws.FnLookupRange", spec := "fnLookupRange", unfollowed := true, recurses := true, apart := false, narrowed := true }
def FnLookupRangeUptoSaid : Prop := fnLookupRangeUptoRow.holds Try.pinned (OpenSpec.upto fnLookupRangeSpec)

/-- 'laws.FnLookupRangeOne', WHERE WHAT IT READS IS OF BULK AT MOST 1048576: true; the input reads as it did. -/
def fnLookupRangeOneUptoRow : OpenClaim := { program := "ytjagcnfbkhchgaa", sum := "51e10e3474b59edbc0f96a62f4b8033efcd406526e3de1d9c52261d63a81bddf", func := "loop.example/ringoverlay/laws.FnLookupRangeOne", spec := "fnLookupRangeOne", unfollowed := true, recurses := true, apart := false, narrowed := true }
def FnLookupRangeOneUptoSaid : Prop := fnLookupRangeOneUptoRow.holds Try.pinned (OpenSpec.upto fnLookupRangeOneSpec)

/-- 'laws.FnLookupSelf', WHERE WHAT IT READS IS OF BULK AT MOST 1048576: true; the input reads as it did. -/
def fnLookupSelfUptoRow : OpenClaim := { program := "ytjagcnfbkhchgaa", sum := "51e10e3474b59edbc0f96a62f4b8033efcd406526e3de1d9c52261d63a81bddf", func := "loop.example/ringoverlay/laws.FnLookupSelf", spec := "fnLookupSelf", unfollowed := true, recurses := true, apart := false, narrowed := true }
def FnLookupSelfUptoSaid : Prop := fnLookupSelfUptoRow.holds Try.pinned (OpenSpec.upto fnLookupSelfSpec)

/-- 'laws.FnExactFingersOf', WHERE WHAT IT READS IS OF BULK AT MOST 1048576: true; the input reads as it did. -/
def fnExactFingersOfUptoRow : OpenClaim := { program := "ytjagcnfbkhchgaa", sum := "51e10e3474b59edbc0f96a62f4b8033efcd406526e3de1d9c52261d63a81bddf", func := "loop.example/ringoverlay/laws.FnExactFingersOf", spec := "fnExactFingersOf", apart := false, narrowed := true }
def FnExactFingersOfUptoSaid : Prop := fnExactFingersOfUptoRow.holds Try.pinned (OpenSpec.upto fnExactFingersOfSpec)

/-- 'laws.FnExactLookupNext', WHERE WHAT IT READS IS OF BULK AT MOST 1048576: true; the input reads as it did. -/
def fnExactLookupNextUptoRow : OpenClaim := { program := "ytjagcnfbkhchgaa", sum := "51e10e3474b59edbc0f96a62f4b8033efcd406526e3de1d9c52261d63a81bddf", func := "loop.example/ringoverlay/laws.FnExactLookupNext", spec := "fnExactLookupNext", unfollowed := true, recurses := true, apart := false, narrowed := true }
def FnExactLookupNextUptoSaid : Prop := fnExactLookupNextUptoRow.holds Try.pinned (OpenSpec.upto fnExactLookupNextSpec)

/-- 'laws.FnExactLookupPath', WHERE WHAT IT READS IS OF BULK AT MOST 1048576: true; the input reads as it did. -/
def fnExactLookupPathUptoRow : OpenClaim := { program := "ytjagcnfbkhchgaa", sum := "51e10e3474b59edbc0f96a62f4b8033efcd406526e3de1d9c52261d63a81bddf", func := "loop.example/ringoverlay/laws.FnExactLookupPath", spec := "fnExactLookupPath", unfollowed := true, recurses := true, apart := false, narrowed := true }
def FnExactLookupPathUptoSaid : Prop := fnExactLookupPathUptoRow.holds Try.pinned (OpenSpec.upto fnExactLookupPathSpec)

/-- 'laws.FnExactLookupRange', WHERE WHAT IT READS IS OF BULK AT MOST 1048576: true; the input reads as it did. -/
def fnExactLookupRangeUptoRow : OpenClaim := { program := "ytjagcnfbkhchgaa", sum := "51e10e3474b59edbc0f96a62f4b8033efcd406526e3de1d9c52261d63a81bddf", func := "loop.example/ringoverlay/laws.FnExactLookupRange", spec := "fnExactLookupRange", unfollowed := true, recurses := true, apart := false, narrowed := true }
def FnExactLookupRangeUptoSaid : Prop := fnExactLookupRangeUptoRow.holds Try.pinned (OpenSpec.upto fnExactLookupRangeSpec)

end Rows
end Go.Proofs.Ytjagcnfbkhchgaa
