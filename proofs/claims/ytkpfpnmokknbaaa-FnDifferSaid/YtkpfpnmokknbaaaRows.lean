/-
  No cell of these rows narrows 'for every input' (looked for: loops, veiled, ifaces, maps, wideKeys, modest, calm, conditions, laid).
  DERIVED. THE GIVEN ROWS OF THIS SEAT. 12 by the template 'for every input the law returns true; each argument reads behind the call as it read before'; 0 by the template 'total and deterministic' (their statements: YtkpfpnmokknbaaaTotals.lean).
  GIVEN WITH THE SEED: the statements are not yours to turn. If you find one false, say at which input.
  Laid BY PROGRAM, IN A SANDBOX (cutbox-rows.mjs): the forced cells as the released guide's own fill.sh prints them over the translation ce13df06bddf22fe… (all of the seat's roots in one cut). By AI agents, Wed Nov 11 2026. No macro, syntax, notation, axiom, sorry.
-/
import Derived.Test.YtkpfpnmokknbaaaChecked
import GoSem.Claim
import GoSem.ClaimJoined
import GoSem.ClaimMapViews
import Derived.JoinedTies
import Derived.KernelRfl
namespace Go.Proofs.Ytkpfpnmokknbaaa
/- THE CELL 'sum', in the pinned program and in every row, IS THE sha256 OF THE DUMP (.gsa) THAT YtkpfpnmokknbaaaProg.lean LOADS. Nothing in Lean hashes anything: it is a label: what it is worth is what the hold of that sum in a sandbox is worth. -/
noncomputable def Try.pinned : Pinned := { name := "ytkpfpnmokknbaaa", sum := "ce13df06bddf22feaf12c84213b3d6d70ccb60979f3358a08b671c0569eb0851", checked := Try.checked }
namespace Rows
def none {H : Type} : Left H := { results := [], args := [] }

/-- 'laws.FnSums': WHATEVER THE INPUT: true; the input reads as it did. -/
def fnSumsSpec : ChangeSpec := { name := "fnSums", fn := fun _ => fun
  | [d1, d2] => { results := [.lit (.bool true)], args := [d1, d2] }
  | _ => none }
def fnSumsRow : OpenClaim := { program := "ytkpfpnmokknbaaa", sum := "ce13df06bddf22feaf12c84213b3d6d70ccb60979f3358a08b671c0569eb0851", func := "loop.example/ringoverlay/laws.FnSums", spec := "fnSums", apart := false }
def FnSumsSaid : Prop := fnSumsRow.holds Try.pinned (OpenSpec.ofChange fnSumsSpec)

/-- ITS FALSE NEIGHBOUR: 'it returns false'. Refute it at one input. -/
def fnSumsWrong : ChangeSpec := { name := "fnSums", fn := fun _ => fun
  | [d1, d2] => { results := [.lit (.bool false)], args := [d1, d2] }
  | _ => none }
def FnSumsWrongFalsely : Prop := fnSumsRow.holds Try.pinned (OpenSpec.ofChange fnSumsWrong)

/-- 'laws.FnSumsSet': WHATEVER THE INPUT: true; the input reads as it did. -/
def fnSumsSetSpec : ChangeSpec := { name := "fnSumsSet", fn := fun _ => fun
  | [d] => { results := [.lit (.bool true)], args := [d] }
  | _ => none }
def fnSumsSetRow : OpenClaim := { program := "ytkpfpnmokknbaaa", sum := "ce13df06bddf22feaf12c84213b3d6d70ccb60979f3358a08b671c0569eb0851", func := "loop.example/ringoverlay/laws.FnSumsSet", spec := "fnSumsSet", apart := false }
def FnSumsSetSaid : Prop := fnSumsSetRow.holds Try.pinned (OpenSpec.ofChange fnSumsSetSpec)

/-- ITS FALSE NEIGHBOUR: 'it returns false'. Refute it at one input. -/
def fnSumsSetWrong : ChangeSpec := { name := "fnSumsSet", fn := fun _ => fun
  | [d] => { results := [.lit (.bool false)], args := [d] }
  | _ => none }
def FnSumsSetWrongFalsely : Prop := fnSumsSetRow.holds Try.pinned (OpenSpec.ofChange fnSumsSetWrong)

/-- 'laws.FnSumsSetOther': WHATEVER THE INPUT: true; the input reads as it did. -/
def fnSumsSetOtherSpec : ChangeSpec := { name := "fnSumsSetOther", fn := fun _ => fun
  | [d] => { results := [.lit (.bool true)], args := [d] }
  | _ => none }
def fnSumsSetOtherRow : OpenClaim := { program := "ytkpfpnmokknbaaa", sum := "ce13df06bddf22feaf12c84213b3d6d70ccb60979f3358a08b671c0569eb0851", func := "loop.example/ringoverlay/laws.FnSumsSetOther", spec := "fnSumsSetOther", apart := false }
def FnSumsSetOtherSaid : Prop := fnSumsSetOtherRow.holds Try.pinned (OpenSpec.ofChange fnSumsSetOtherSpec)

/-- ITS FALSE NEIGHBOUR: 'it returns false'. Refute it at one input. -/
def fnSumsSetOtherWrong : ChangeSpec := { name := "fnSumsSetOther", fn := fun _ => fun
  | [d] => { results := [.lit (.bool false)], args := [d] }
  | _ => none }
def FnSumsSetOtherWrongFalsely : Prop := fnSumsSetOtherRow.holds Try.pinned (OpenSpec.ofChange fnSumsSetOtherWrong)

/-- 'laws.FnSumsSetOrder': WHATEVER THE INPUT: true; the input reads as it did. -/
def fnSumsSetOrderSpec : ChangeSpec := { name := "fnSumsSetOrder", fn := fun _ => fun
  | [d1, d2] => { results := [.lit (.bool true)], args := [d1, d2] }
  | _ => none }
def fnSumsSetOrderRow : OpenClaim := { program := "ytkpfpnmokknbaaa", sum := "ce13df06bddf22feaf12c84213b3d6d70ccb60979f3358a08b671c0569eb0851", func := "loop.example/ringoverlay/laws.FnSumsSetOrder", spec := "fnSumsSetOrder", apart := false }
def FnSumsSetOrderSaid : Prop := fnSumsSetOrderRow.holds Try.pinned (OpenSpec.ofChange fnSumsSetOrderSpec)

/-- ITS FALSE NEIGHBOUR: 'it returns false'. Refute it at one input. -/
def fnSumsSetOrderWrong : ChangeSpec := { name := "fnSumsSetOrder", fn := fun _ => fun
  | [d1, d2] => { results := [.lit (.bool false)], args := [d1, d2] }
  | _ => none }
def FnSumsSetOrderWrongFalsely : Prop := fnSumsSetOrderRow.holds Try.pinned (OpenSpec.ofChange fnSumsSetOrderWrong)

/-- 'laws.FnDiffer': WHATEVER THE INPUT: true; the input reads as it did. -/
def fnDifferSpec : ChangeSpec := { name := "fnDiffer", fn := fun _ => fun
  | [d] => { results := [.lit (.bool true)], args := [d] }
  | _ => none }
def fnDifferRow : OpenClaim := { program := "ytkpfpnmokknbaaa", sum := "ce13df06bddf22feaf12c84213b3d6d70ccb60979f3358a08b671c0569eb0851", func := "loop.example/ringoverlay/laws.FnDiffer", spec := "fnDiffer", apart := false }
def FnDifferSaid : Prop := fnDifferRow.holds Try.pinned (OpenSpec.ofChange fnDifferSpec)

/-- ITS FALSE NEIGHBOUR: 'it returns false'. Refute it at one input. -/
def fnDifferWrong : ChangeSpec := { name := "fnDiffer", fn := fun _ => fun
  | [d] => { results := [.lit (.bool false)], args := [d] }
  | _ => none }
def FnDifferWrongFalsely : Prop := fnDifferRow.holds Try.pinned (OpenSpec.ofChange fnDifferWrong)

/-- 'laws.FnDifferOne': WHATEVER THE INPUT: true; the input reads as it did. -/
def fnDifferOneSpec : ChangeSpec := { name := "fnDifferOne", fn := fun _ => fun
  | [d1, d2] => { results := [.lit (.bool true)], args := [d1, d2] }
  | _ => none }
def fnDifferOneRow : OpenClaim := { program := "ytkpfpnmokknbaaa", sum := "ce13df06bddf22feaf12c84213b3d6d70ccb60979f3358a08b671c0569eb0851", func := "loop.example/ringoverlay/laws.FnDifferOne", spec := "fnDifferOne", apart := false }
def FnDifferOneSaid : Prop := fnDifferOneRow.holds Try.pinned (OpenSpec.ofChange fnDifferOneSpec)

/-- ITS FALSE NEIGHBOUR: 'it returns false'. Refute it at one input. -/
def fnDifferOneWrong : ChangeSpec := { name := "fnDifferOne", fn := fun _ => fun
  | [d1, d2] => { results := [.lit (.bool false)], args := [d1, d2] }
  | _ => none }
def FnDifferOneWrongFalsely : Prop := fnDifferOneRow.holds Try.pinned (OpenSpec.ofChange fnDifferOneWrong)

/-- 'laws.FnDifferSame': WHATEVER THE INPUT: true; the input reads as it did. -/
def fnDifferSameSpec : ChangeSpec := { name := "fnDifferSame", fn := fun _ => fun
  | [d] => { results := [.lit (.bool true)], args := [d] }
  | _ => none }
def fnDifferSameRow : OpenClaim := { program := "ytkpfpnmokknbaaa", sum := "ce13df06bddf22feaf12c84213b3d6d70ccb60979f3358a08b671c0569eb0851", func := "loop.example/ringoverlay/laws.FnDifferSame", spec := "fnDifferSame", apart := false }
def FnDifferSameSaid : Prop := fnDifferSameRow.holds Try.pinned (OpenSpec.ofChange fnDifferSameSpec)

/-- ITS FALSE NEIGHBOUR: 'it returns false'. Refute it at one input. -/
def fnDifferSameWrong : ChangeSpec := { name := "fnDifferSame", fn := fun _ => fun
  | [d] => { results := [.lit (.bool false)], args := [d] }
  | _ => none }
def FnDifferSameWrongFalsely : Prop := fnDifferSameRow.holds Try.pinned (OpenSpec.ofChange fnDifferSameWrong)

/-- 'laws.FnDifferFew': WHATEVER THE INPUT: true; the input reads as it did. -/
def fnDifferFewSpec : ChangeSpec := { name := "fnDifferFew", fn := fun _ => fun
  | [d] => { results := [.lit (.bool true)], args := [d] }
  | _ => none }
def fnDifferFewRow : OpenClaim := { program := "ytkpfpnmokknbaaa", sum := "ce13df06bddf22feaf12c84213b3d6d70ccb60979f3358a08b671c0569eb0851", func := "loop.example/ringoverlay/laws.FnDifferFew", spec := "fnDifferFew", apart := false }
def FnDifferFewSaid : Prop := fnDifferFewRow.holds Try.pinned (OpenSpec.ofChange fnDifferFewSpec)

/-- ITS FALSE NEIGHBOUR: 'it returns false'. Refute it at one input. -/
def fnDifferFewWrong : ChangeSpec := { name := "fnDifferFew", fn := fun _ => fun
  | [d] => { results := [.lit (.bool false)], args := [d] }
  | _ => none }
def FnDifferFewWrongFalsely : Prop := fnDifferFewRow.holds Try.pinned (OpenSpec.ofChange fnDifferFewWrong)

/-- 'laws.FnSumsEqual': WHATEVER THE INPUT: true; the input reads as it did. -/
def fnSumsEqualSpec : ChangeSpec := { name := "fnSumsEqual", fn := fun _ => fun
  | [d1, d2] => { results := [.lit (.bool true)], args := [d1, d2] }
  | _ => none }
def fnSumsEqualRow : OpenClaim := { program := "ytkpfpnmokknbaaa", sum := "ce13df06bddf22feaf12c84213b3d6d70ccb60979f3358a08b671c0569eb0851", func := "loop.example/ringoverlay/laws.FnSumsEqual", spec := "fnSumsEqual", apart := false }
def FnSumsEqualSaid : Prop := fnSumsEqualRow.holds Try.pinned (OpenSpec.ofChange fnSumsEqualSpec)

/-- ITS FALSE NEIGHBOUR: 'it returns false'. Refute it at one input. -/
def fnSumsEqualWrong : ChangeSpec := { name := "fnSumsEqual", fn := fun _ => fun
  | [d1, d2] => { results := [.lit (.bool false)], args := [d1, d2] }
  | _ => none }
def FnSumsEqualWrongFalsely : Prop := fnSumsEqualRow.holds Try.pinned (OpenSpec.ofChange fnSumsEqualWrong)

/-- 'laws.FnExactSumsOf': WHATEVER THE INPUT: true; the input reads as it did. -/
def fnExactSumsOfSpec : ChangeSpec := { name := "fnExactSumsOf", fn := fun _ => fun
  | [d] => { results := [.lit (.bool true)], args := [d] }
  | _ => none }
def fnExactSumsOfRow : OpenClaim := { program := "ytkpfpnmokknbaaa", sum := "ce13df06bddf22feaf12c84213b3d6d70ccb60979f3358a08b671c0569eb0851", func := "loop.example/ringoverlay/laws.FnExactSumsOf", spec := "fnExactSumsOf", apart := false }
def FnExactSumsOfSaid : Prop := fnExactSumsOfRow.holds Try.pinned (OpenSpec.ofChange fnExactSumsOfSpec)

/-- ITS FALSE NEIGHBOUR: 'it returns false'. Refute it at one input. -/
def fnExactSumsOfWrong : ChangeSpec := { name := "fnExactSumsOf", fn := fun _ => fun
  | [d] => { results := [.lit (.bool false)], args := [d] }
  | _ => none }
def FnExactSumsOfWrongFalsely : Prop := fnExactSumsOfRow.holds Try.pinned (OpenSpec.ofChange fnExactSumsOfWrong)

/-- 'laws.FnExactSumsSet': WHATEVER THE INPUT: true; the input reads as it did. -/
def fnExactSumsSetSpec : ChangeSpec := { name := "fnExactSumsSet", fn := fun _ => fun
  | [d1, d2, d3] => { results := [.lit (.bool true)], args := [d1, d2, d3] }
  | _ => none }
def fnExactSumsSetRow : OpenClaim := { program := "ytkpfpnmokknbaaa", sum := "ce13df06bddf22feaf12c84213b3d6d70ccb60979f3358a08b671c0569eb0851", func := "loop.example/ringoverlay/laws.FnExactSumsSet", spec := "fnExactSumsSet", apart := false }
def FnExactSumsSetSaid : Prop := fnExactSumsSetRow.holds Try.pinned (OpenSpec.ofChange fnExactSumsSetSpec)

/-- ITS FALSE NEIGHBOUR: 'it returns false'. Refute it at one input. -/
def fnExactSumsSetWrong : ChangeSpec := { name := "fnExactSumsSet", fn := fun _ => fun
  | [d1, d2, d3] => { results := [.lit (.bool false)], args := [d1, d2, d3] }
  | _ => none }
def FnExactSumsSetWrongFalsely : Prop := fnExactSumsSetRow.holds Try.pinned (OpenSpec.ofChange fnExactSumsSetWrong)

/-- 'laws.FnExactSumsDiffer': WHATEVER THE INPUT: true; the input reads as it did. -/
def fnExactSumsDifferSpec : ChangeSpec := { name := "fnExactSumsDiffer", fn := fun _ => fun
  | [d1, d2] => { results := [.lit (.bool true)], args := [d1, d2] }
  | _ => none }
def fnExactSumsDifferRow : OpenClaim := { program := "ytkpfpnmokknbaaa", sum := "ce13df06bddf22feaf12c84213b3d6d70ccb60979f3358a08b671c0569eb0851", func := "loop.example/ringoverlay/laws.FnExactSumsDiffer", spec := "fnExactSumsDiffer", apart := false }
def FnExactSumsDifferSaid : Prop := fnExactSumsDifferRow.holds Try.pinned (OpenSpec.ofChange fnExactSumsDifferSpec)

/-- ITS FALSE NEIGHBOUR: 'it returns false'. Refute it at one input. -/
def fnExactSumsDifferWrong : ChangeSpec := { name := "fnExactSumsDiffer", fn := fun _ => fun
  | [d1, d2] => { results := [.lit (.bool false)], args := [d1, d2] }
  | _ => none }
def FnExactSumsDifferWrongFalsely : Prop := fnExactSumsDifferRow.holds Try.pinned (OpenSpec.ofChange fnExactSumsDifferWrong)

/- THE SECOND FORM. 'bulk': how many values and letters a reading holds, each counted each time it is reached (what is shared counts as often as it is met; a slice's spare places count too). A statement '..UptoSaid' is the law's where the arguments, and the package variables that the reading takes, are together of bulk at most 1048576: NARROWER than '..Said'. Prove '..Said' where nothing that the law and all that it calls make is longer than what came in: it says more and counts as full. Else prove '..UptoSaid'. A law counts once. -/
mutual
def uptoBulk {H : Type} : DataW H → Nat
  | .lit (.string bytes) => bytes.length + 1
  | .lit _ => 1
  | .nil => 1
  | .ptr d => uptoBulk d + 1
  | .slice elems spare => uptoBulkAll elems + uptoBulkAll spare + 1
  | .agg parts => uptoBulkAll parts + 1
  | .iface _ d => uptoBulk d + 1
  | .map entries => uptoBulkEntries entries + 1
  | .held _ => 1
def uptoBulkAll {H : Type} : List (DataW H) → Nat
  | [] => 0
  | d :: r => uptoBulk d + uptoBulkAll r
def uptoBulkEntries {H : Type} : List (Lit × DataW H) → Nat
  | [] => 0
  | x :: r => uptoBulkEntry x + uptoBulkEntries r
def uptoBulkEntry {H : Type} : Lit × DataW H → Nat
  | (.string bytes, d) => bytes.length + uptoBulk d + 1
  | (_, d) => uptoBulk d + 1
 end
def uptoSmall : (H : Type) → List (DataW H) → Bool := fun _ ds => decide (uptoBulkAll ds ≤ 1048576)
def OpenSpec.upto (s : _root_.Go.ChangeSpec) : _root_.Go.OpenSpec := { _root_.Go.OpenSpec.ofChange s with cond := some uptoSmall }

/-- 'laws.FnSums', WHERE WHAT IT READS IS OF BULK AT MOST 1048576: true; the input reads as it did. -/
def fnSumsUptoRow : OpenClaim := { program := "ytkpfpnmokknbaaa", sum := "ce13df06bddf22feaf12c84213b3d6d70ccb60979f3358a08b671c0569eb0851", func := "loop.example/ringoverlay/laws.FnSums", spec := "fnSums", apart := false, narrowed := true }
def FnSumsUptoSaid : Prop := fnSumsUptoRow.holds Try.pinned (OpenSpec.upto fnSumsSpec)

/-- 'laws.FnSumsSet', WHERE WHAT IT READS IS OF BULK AT MOST 1048576: true; the input reads as it did. -/
def fnSumsSetUptoRow : OpenClaim := { program := "ytkpfpnmokknbaaa", sum := "ce13df06bddf22feaf12c84213b3d6d70ccb60979f3358a08b671c0569eb0851", func := "loop.example/ringoverlay/laws.FnSumsSet", spec := "fnSumsSet", apart := false, narrowed := true }
def FnSumsSetUptoSaid : Prop := fnSumsSetUptoRow.holds Try.pinned (OpenSpec.upto fnSumsSetSpec)

/-- 'laws.FnSumsSetOther', WHERE WHAT IT READS IS OF BULK AT MOST 1048576: true; the input reads as it did. -/
def fnSumsSetOtherUptoRow : OpenClaim := { program := "ytkpfpnmokknbaaa", sum := "ce13df06bddf22feaf12c84213b3d6d70ccb60979f3358a08b671c0569eb0851", func := "loop.example/ringoverlay/laws.FnSumsSetOther", spec := "fnSumsSetOther", apart := false, narrowed := true }
def FnSumsSetOtherUptoSaid : Prop := fnSumsSetOtherUptoRow.holds Try.pinned (OpenSpec.upto fnSumsSetOtherSpec)

/-- 'laws.FnSumsSetOrder', WHERE WHAT IT READS IS OF BULK AT MOST 1048576: true; the input reads as it did. -/
def fnSumsSetOrderUptoRow : OpenClaim := { program := "ytkpfpnmokknbaaa", sum := "ce13df06bddf22feaf12c84213b3d6d70ccb60979f3358a08b671c0569eb0851", func := "loop.example/ringoverlay/laws.FnSumsSetOrder", spec := "fnSumsSetOrder", apart := false, narrowed := true }
def FnSumsSetOrderUptoSaid : Prop := fnSumsSetOrderUptoRow.holds Try.pinned (OpenSpec.upto fnSumsSetOrderSpec)

/-- 'laws.FnDiffer', WHERE WHAT IT READS IS OF BULK AT MOST 1048576: true; the input reads as it did. -/
def fnDifferUptoRow : OpenClaim := { program := "ytkpfpnmokknbaaa", sum := "ce13df06bddf22feaf12c84213b3d6d70ccb60979f3358a08b671c0569eb0851", func := "loop.example/ringoverlay/laws.FnDiffer", spec := "fnDiffer", apart := false, narrowed := true }
def FnDifferUptoSaid : Prop := fnDifferUptoRow.holds Try.pinned (OpenSpec.upto fnDifferSpec)

/-- 'laws.FnDifferOne', WHERE WHAT IT READS IS OF BULK AT MOST 1048576: true; the input reads as it did. -/
def fnDifferOneUptoRow : OpenClaim := { program := "ytkpfpnmokknbaaa", sum := "ce13df06bddf22feaf12c84213b3d6d70ccb60979f3358a08b671c0569eb0851", func := "loop.example/ringoverlay/laws.FnDifferOne", spec := "fnDifferOne", apart := false, narrowed := true }
def FnDifferOneUptoSaid : Prop := fnDifferOneUptoRow.holds Try.pinned (OpenSpec.upto fnDifferOneSpec)

/-- 'laws.FnDifferSame', WHERE WHAT IT READS IS OF BULK AT MOST 1048576: true; the input reads as it did. -/
def fnDifferSameUptoRow : OpenClaim := { program := "ytkpfpnmokknbaaa", sum := "ce13df06bddf22feaf12c84213b3d6d70ccb60979f3358a08b671c0569eb0851", func := "loop.example/ringoverlay/laws.FnDifferSame", spec := "fnDifferSame", apart := false, narrowed := true }
def FnDifferSameUptoSaid : Prop := fnDifferSameUptoRow.holds Try.pinned (OpenSpec.upto fnDifferSameSpec)

/-- 'laws.FnDifferFew', WHERE WHAT IT READS IS OF BULK AT MOST 1048576: true; the input reads as it did. -/
def fnDifferFewUptoRow : OpenClaim := { program := "ytkpfpnmokknbaaa", sum := "ce13df06bddf22feaf12c84213b3d6d70ccb60979f3358a08b671c0569eb0851", func := "loop.example/ringoverlay/laws.FnDifferFew", spec := "fnDifferFew", apart := false, narrowed := true }
def FnDifferFewUptoSaid : Prop := fnDifferFewUptoRow.holds Try.pinned (OpenSpec.upto fnDifferFewSpec)

/-- 'laws.FnSumsEqual', WHERE WHAT IT READS IS OF BULK AT MOST 1048576: true; the input reads as it did. -/
def fnSumsEqualUptoRow : OpenClaim := { program := "ytkpfpnmokknbaaa", sum := "ce13df06bddf22feaf12c84213b3d6d70ccb60979f3358a08b671c0569eb0851", func := "loop.example/ringoverlay/laws.FnSumsEqual", spec := "fnSumsEqual", apart := false, narrowed := true }
def FnSumsEqualUptoSaid : Prop := fnSumsEqualUptoRow.holds Try.pinned (OpenSpec.upto fnSumsEqualSpec)

/-- 'laws.FnExactSumsOf', WHERE WHAT IT READS IS OF BULK AT MOST 1048576: true; the input reads as it did. -/
def fnExactSumsOfUptoRow : OpenClaim := { program := "ytkpfpnmokknbaaa", sum := "ce13df06bddf22feaf12c84213b3d6d70ccb60979f3358a08b671c0569eb0851", func := "loop.example/ringoverlay/laws.FnExactSumsOf", spec := "fnExactSumsOf", apart := false, narrowed := true }
def FnExactSumsOfUptoSaid : Prop := fnExactSumsOfUptoRow.holds Try.pinned (OpenSpec.upto fnExactSumsOfSpec)

/-- 'laws.FnExactSumsSet', WHERE WHAT IT READS IS OF BULK AT MOST 1048576: true; the input reads as it did. -/
def fnExactSumsSetUptoRow : OpenClaim := { program := "ytkpfpnmokknbaaa", sum := "ce13df06bddf22feaf12c84213b3d6d70ccb60979f3358a08b671c0569eb0851", func := "loop.example/ringoverlay/laws.FnExactSumsSet", spec := "fnExactSumsSet", apart := false, narrowed := true }
def FnExactSumsSetUptoSaid : Prop := fnExactSumsSetUptoRow.holds Try.pinned (OpenSpec.upto fnExactSumsSetSpec)

/-- 'laws.FnExactSumsDiffer', WHERE WHAT IT READS IS OF BULK AT MOST 1048576: true; the input reads as it did. -/
def fnExactSumsDifferUptoRow : OpenClaim := { program := "ytkpfpnmokknbaaa", sum := "ce13df06bddf22feaf12c84213b3d6d70ccb60979f3358a08b671c0569eb0851", func := "loop.example/ringoverlay/laws.FnExactSumsDiffer", spec := "fnExactSumsDiffer", apart := false, narrowed := true }
def FnExactSumsDifferUptoSaid : Prop := fnExactSumsDifferUptoRow.holds Try.pinned (OpenSpec.upto fnExactSumsDifferSpec)

end Rows
end Go.Proofs.Ytkpfpnmokknbaaa
