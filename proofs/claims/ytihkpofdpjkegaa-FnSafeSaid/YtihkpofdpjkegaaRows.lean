/-
  No cell of these rows narrows 'for every input' (looked for: loops, veiled, ifaces, maps, wideKeys, modest, calm, conditions, laid).
  DERIVED. THE GIVEN ROWS OF THIS SEAT. 10 by the template 'for every input the law returns true; each argument reads behind the call as it read before'; 0 by the template 'total and deterministic' (their statements: YtihkpofdpjkegaaTotals.lean).
  GIVEN WITH THE SEED: the statements are not yours to turn. If you find one false, say at which input.
  Laid BY PROGRAM, IN A SANDBOX (cutbox-rows.mjs): the forced cells as the released guide's own fill.sh prints them over the translation 528d05bbe3480176… (all of the seat's roots in one cut). By AI agents, Wed Nov 11 2026. No macro, syntax, notation, axiom, sorry.
-/
import Derived.Test.YtihkpofdpjkegaaChecked
import GoSem.Claim
import GoSem.ClaimJoined
import GoSem.ClaimMapViews
import Derived.JoinedTies
import Derived.KernelRfl
namespace Go.Proofs.Ytihkpofdpjkegaa
/- THE CELL 'sum', in the pinned program and in every row, IS THE sha256 OF THE DUMP (.gsa) THAT YtihkpofdpjkegaaProg.lean LOADS. Nothing in Lean hashes anything: it is a label: what it is worth is what the hold of that sum in a sandbox is worth. -/
noncomputable def Try.pinned : Pinned := { name := "ytihkpofdpjkegaa", sum := "528d05bbe34801765d0c6f2f9bc093a4c5fd336ef2672048828d15c4e380a54c", checked := Try.checked }
namespace Rows
def none {H : Type} : Left H := { results := [], args := [] }

/-- 'laws.FnPrincipals': WHATEVER THE INPUT: true; the input reads as it did. -/
def fnPrincipalsSpec : ChangeSpec := { name := "fnPrincipals", fn := fun _ => fun
  | [d] => { results := [.lit (.bool true)], args := [d] }
  | _ => none }
def fnPrincipalsRow : OpenClaim := { program := "ytihkpofdpjkegaa", sum := "528d05bbe34801765d0c6f2f9bc093a4c5fd336ef2672048828d15c4e380a54c", func := "loop.example/ringoverlay/laws.FnPrincipals", spec := "fnPrincipals", apart := false }
def FnPrincipalsSaid : Prop := fnPrincipalsRow.holds Try.pinned (OpenSpec.ofChange fnPrincipalsSpec)

/-- ITS FALSE NEIGHBOUR: 'it returns false'. Refute it at one input. -/
def fnPrincipalsWrong : ChangeSpec := { name := "fnPrincipals", fn := fun _ => fun
  | [d] => { results := [.lit (.bool false)], args := [d] }
  | _ => none }
def FnPrincipalsWrongFalsely : Prop := fnPrincipalsRow.holds Try.pinned (OpenSpec.ofChange fnPrincipalsWrong)

/-- 'laws.FnSafe': WHATEVER THE INPUT: true; the input reads as it did. -/
def fnSafeSpec : ChangeSpec := { name := "fnSafe", fn := fun _ => fun
  | [d] => { results := [.lit (.bool true)], args := [d] }
  | _ => none }
def fnSafeRow : OpenClaim := { program := "ytihkpofdpjkegaa", sum := "528d05bbe34801765d0c6f2f9bc093a4c5fd336ef2672048828d15c4e380a54c", func := "loop.example/ringoverlay/laws.FnSafe", spec := "fnSafe", apart := false }
def FnSafeSaid : Prop := fnSafeRow.holds Try.pinned (OpenSpec.ofChange fnSafeSpec)

/-- ITS FALSE NEIGHBOUR: 'it returns false'. Refute it at one input. -/
def fnSafeWrong : ChangeSpec := { name := "fnSafe", fn := fun _ => fun
  | [d] => { results := [.lit (.bool false)], args := [d] }
  | _ => none }
def FnSafeWrongFalsely : Prop := fnSafeRow.holds Try.pinned (OpenSpec.ofChange fnSafeWrong)

/-- 'laws.FnSafeSelf': WHATEVER THE INPUT: true; the input reads as it did. -/
def fnSafeSelfSpec : ChangeSpec := { name := "fnSafeSelf", fn := fun _ => fun
  | [d] => { results := [.lit (.bool true)], args := [d] }
  | _ => none }
def fnSafeSelfRow : OpenClaim := { program := "ytihkpofdpjkegaa", sum := "528d05bbe34801765d0c6f2f9bc093a4c5fd336ef2672048828d15c4e380a54c", func := "loop.example/ringoverlay/laws.FnSafeSelf", spec := "fnSafeSelf", apart := false }
def FnSafeSelfSaid : Prop := fnSafeSelfRow.holds Try.pinned (OpenSpec.ofChange fnSafeSelfSpec)

/-- ITS FALSE NEIGHBOUR: 'it returns false'. Refute it at one input. -/
def fnSafeSelfWrong : ChangeSpec := { name := "fnSafeSelf", fn := fun _ => fun
  | [d] => { results := [.lit (.bool false)], args := [d] }
  | _ => none }
def FnSafeSelfWrongFalsely : Prop := fnSafeSelfRow.holds Try.pinned (OpenSpec.ofChange fnSafeSelfWrong)

/-- 'laws.FnSafeOrder': WHATEVER THE INPUT: true; the input reads as it did. -/
def fnSafeOrderSpec : ChangeSpec := { name := "fnSafeOrder", fn := fun _ => fun
  | [d] => { results := [.lit (.bool true)], args := [d] }
  | _ => none }
def fnSafeOrderRow : OpenClaim := { program := "ytihkpofdpjkegaa", sum := "528d05bbe34801765d0c6f2f9bc093a4c5fd336ef2672048828d15c4e380a54c", func := "loop.example/ringoverlay/laws.FnSafeOrder", spec := "fnSafeOrder", apart := false }
def FnSafeOrderSaid : Prop := fnSafeOrderRow.holds Try.pinned (OpenSpec.ofChange fnSafeOrderSpec)

/-- ITS FALSE NEIGHBOUR: 'it returns false'. Refute it at one input. -/
def fnSafeOrderWrong : ChangeSpec := { name := "fnSafeOrder", fn := fun _ => fun
  | [d] => { results := [.lit (.bool false)], args := [d] }
  | _ => none }
def FnSafeOrderWrongFalsely : Prop := fnSafeOrderRow.holds Try.pinned (OpenSpec.ofChange fnSafeOrderWrong)

/-- 'laws.FnIdealSafe': WHATEVER THE INPUT: true; the input reads as it did. -/
def fnIdealSafeSpec : ChangeSpec := { name := "fnIdealSafe", fn := fun _ => fun
  | [d] => { results := [.lit (.bool true)], args := [d] }
  | _ => none }
def fnIdealSafeRow : OpenClaim := { program := "ytihkpofdpjkegaa", sum := "528d05bbe34801765d0c6f2f9bc093a4c5fd336ef2672048828d15c4e380a54c", func := "loop.example/ringoverlay/laws.FnIdealSafe", spec := "fnIdealSafe", apart := false }
def FnIdealSafeSaid : Prop := fnIdealSafeRow.holds Try.pinned (OpenSpec.ofChange fnIdealSafeSpec)

/-- ITS FALSE NEIGHBOUR: 'it returns false'. Refute it at one input. -/
def fnIdealSafeWrong : ChangeSpec := { name := "fnIdealSafe", fn := fun _ => fun
  | [d] => { results := [.lit (.bool false)], args := [d] }
  | _ => none }
def FnIdealSafeWrongFalsely : Prop := fnIdealSafeRow.holds Try.pinned (OpenSpec.ofChange fnIdealSafeWrong)

/-- 'laws.FnPrincipalsOrder': WHATEVER THE INPUT: true; the input reads as it did. -/
def fnPrincipalsOrderSpec : ChangeSpec := { name := "fnPrincipalsOrder", fn := fun _ => fun
  | [d] => { results := [.lit (.bool true)], args := [d] }
  | _ => none }
def fnPrincipalsOrderRow : OpenClaim := { program := "ytihkpofdpjkegaa", sum := "528d05bbe34801765d0c6f2f9bc093a4c5fd336ef2672048828d15c4e380a54c", func := "loop.example/ringoverlay/laws.FnPrincipalsOrder", spec := "fnPrincipalsOrder", apart := false }
def FnPrincipalsOrderSaid : Prop := fnPrincipalsOrderRow.holds Try.pinned (OpenSpec.ofChange fnPrincipalsOrderSpec)

/-- ITS FALSE NEIGHBOUR: 'it returns false'. Refute it at one input. -/
def fnPrincipalsOrderWrong : ChangeSpec := { name := "fnPrincipalsOrder", fn := fun _ => fun
  | [d] => { results := [.lit (.bool false)], args := [d] }
  | _ => none }
def FnPrincipalsOrderWrongFalsely : Prop := fnPrincipalsOrderRow.holds Try.pinned (OpenSpec.ofChange fnPrincipalsOrderWrong)

/-- 'laws.FnSafeBetween': WHATEVER THE INPUT: true; the input reads as it did. -/
def fnSafeBetweenSpec : ChangeSpec := { name := "fnSafeBetween", fn := fun _ => fun
  | [d] => { results := [.lit (.bool true)], args := [d] }
  | _ => none }
def fnSafeBetweenRow : OpenClaim := { program := "ytihkpofdpjkegaa", sum := "528d05bbe34801765d0c6f2f9bc093a4c5fd336ef2672048828d15c4e380a54c", func := "loop.example/ringoverlay/laws.FnSafeBetween", spec := "fnSafeBetween", apart := false }
def FnSafeBetweenSaid : Prop := fnSafeBetweenRow.holds Try.pinned (OpenSpec.ofChange fnSafeBetweenSpec)

/-- ITS FALSE NEIGHBOUR: 'it returns false'. Refute it at one input. -/
def fnSafeBetweenWrong : ChangeSpec := { name := "fnSafeBetween", fn := fun _ => fun
  | [d] => { results := [.lit (.bool false)], args := [d] }
  | _ => none }
def FnSafeBetweenWrongFalsely : Prop := fnSafeBetweenRow.holds Try.pinned (OpenSpec.ofChange fnSafeBetweenWrong)

/-- 'laws.FnExactRingPrincipals': WHATEVER THE INPUT: true; the input reads as it did. -/
def fnExactRingPrincipalsSpec : ChangeSpec := { name := "fnExactRingPrincipals", fn := fun _ => fun
  | [d] => { results := [.lit (.bool true)], args := [d] }
  | _ => none }
def fnExactRingPrincipalsRow : OpenClaim := { program := "ytihkpofdpjkegaa", sum := "528d05bbe34801765d0c6f2f9bc093a4c5fd336ef2672048828d15c4e380a54c", func := "loop.example/ringoverlay/laws.FnExactRingPrincipals", spec := "fnExactRingPrincipals", apart := false }
def FnExactRingPrincipalsSaid : Prop := fnExactRingPrincipalsRow.holds Try.pinned (OpenSpec.ofChange fnExactRingPrincipalsSpec)

/-- ITS FALSE NEIGHBOUR: 'it returns false'. Refute it at one input. -/
def fnExactRingPrincipalsWrong : ChangeSpec := { name := "fnExactRingPrincipals", fn := fun _ => fun
  | [d] => { results := [.lit (.bool false)], args := [d] }
  | _ => none }
def FnExactRingPrincipalsWrongFalsely : Prop := fnExactRingPrincipalsRow.holds Try.pinned (OpenSpec.ofChange fnExactRingPrincipalsWrong)

/-- 'laws.FnExactRingSafe': WHATEVER THE INPUT: true; the input reads as it did. -/
def fnExactRingSafeSpec : ChangeSpec := { name := "fnExactRingSafe", fn := fun _ => fun
  | [d] => { results := [.lit (.bool true)], args := [d] }
  | _ => none }
def fnExactRingSafeRow : OpenClaim := { program := "ytihkpofdpjkegaa", sum := "528d05bbe34801765d0c6f2f9bc093a4c5fd336ef2672048828d15c4e380a54c", func := "loop.example/ringoverlay/laws.FnExactRingSafe", spec := "fnExactRingSafe", apart := false }
def FnExactRingSafeSaid : Prop := fnExactRingSafeRow.holds Try.pinned (OpenSpec.ofChange fnExactRingSafeSpec)

/-- ITS FALSE NEIGHBOUR: 'it returns false'. Refute it at one input. -/
def fnExactRingSafeWrong : ChangeSpec := { name := "fnExactRingSafe", fn := fun _ => fun
  | [d] => { results := [.lit (.bool false)], args := [d] }
  | _ => none }
def FnExactRingSafeWrongFalsely : Prop := fnExactRingSafeRow.holds Try.pinned (OpenSpec.ofChange fnExactRingSafeWrong)

/-- 'laws.FnExactRingIdeal': WHATEVER THE INPUT: true; the input reads as it did. -/
def fnExactRingIdealSpec : ChangeSpec := { name := "fnExactRingIdeal", fn := fun _ => fun
  | [d] => { results := [.lit (.bool true)], args := [d] }
  | _ => none }
def fnExactRingIdealRow : OpenClaim := { program := "ytihkpofdpjkegaa", sum := "528d05bbe34801765d0c6f2f9bc093a4c5fd336ef2672048828d15c4e380a54c", func := "loop.example/ringoverlay/laws.FnExactRingIdeal", spec := "fnExactRingIdeal", apart := false }
def FnExactRingIdealSaid : Prop := fnExactRingIdealRow.holds Try.pinned (OpenSpec.ofChange fnExactRingIdealSpec)

/-- ITS FALSE NEIGHBOUR: 'it returns false'. Refute it at one input. -/
def fnExactRingIdealWrong : ChangeSpec := { name := "fnExactRingIdeal", fn := fun _ => fun
  | [d] => { results := [.lit (.bool false)], args := [d] }
  | _ => none }
def FnExactRingIdealWrongFalsely : Prop := fnExactRingIdealRow.holds Try.pinned (OpenSpec.ofChange fnExactRingIdealWrong)

/- THE SECOND FORM. 'bulk': how many values and letters a reading holds, each counted each time it is reached (what is shared counts as often as it is met; a slice's spare places count too). A statement '..UptoSaid' is the law's where the arguments, and the package variables that the reading takes, are together of bulk at most 1048576: NARROWER than '..Said'. Prove '..Said' where nothing that the law and all that it calls make is longer than what came in: it says more and counts as full. Else prove '..UptoSaid'. A law counts once. -/
mutual
def uptoBulk {H : Type} : DataW H → Nat
  | .lit (.string bytes) => bytes.length + 1
  | .lit _ => 1
  | .nil => 1
  | .ptr d => uptoBulk d + 1
  | .slice elems spare => uptoBulkAll elems + uptoBulkAll spare + 1
  | .agg parts => uptoBulkAll parts + 1
  | .iface _ d => uptoBulk d + 1
  | .map entries => uptoBulkEntries entries + 1
  | .held _ => 1
def uptoBulkAll {H : Type} : List (DataW H) → Nat
  | [] => 0
  | d :: r => uptoBulk d + uptoBulkAll r
def uptoBulkEntries {H : Type} : List (Lit × DataW H) → Nat
  | [] => 0
  | x :: r => uptoBulkEntry x + uptoBulkEntries r
def uptoBulkEntry {H : Type} : Lit × DataW H → Nat
  | (.string bytes, d) => bytes.length + uptoBulk d + 1
  | (_, d) => uptoBulk d + 1
 end
def uptoSmall : (H : Type) → List (DataW H) → Bool := fun _ ds => decide (uptoBulkAll ds ≤ 1048576)
def OpenSpec.upto (s : _root_.Go.ChangeSpec) : _root_.Go.OpenSpec := { _root_.Go.OpenSpec.ofChange s with cond := some uptoSmall }

/-- 'laws.FnPrincipals', WHERE WHAT IT READS IS OF BULK AT MOST 1048576: true; the input reads as it did. -/
def fnPrincipalsUptoRow : OpenClaim := { program := "ytihkpofdpjkegaa", sum := "528d05bbe34801765d0c6f2f9bc093a4c5fd336ef2672048828d15c4e380a54c", func := "loop.example/ringoverlay/laws.FnPrincipals", spec := "fnPrincipals", apart := false, narrowed := true }
def FnPrincipalsUptoSaid : Prop := fnPrincipalsUptoRow.holds Try.pinned (OpenSpec.upto fnPrincipalsSpec)

/-- 'laws.FnSafe', WHERE WHAT IT READS IS OF BULK AT MOST 1048576: true; the input reads as it did. -/
def fnSafeUptoRow : OpenClaim := { program := "ytihkpofdpjkegaa", sum := "528d05bbe34801765d0c6f2f9bc093a4c5fd336ef2672048828d15c4e380a54c", func := "loop.example/ringoverlay/laws.FnSafe", spec := "fnSafe", apart := false, narrowed := true }
def FnSafeUptoSaid : Prop := fnSafeUptoRow.holds Try.pinned (OpenSpec.upto fnSafeSpec)

/-- 'laws.FnSafeSelf', WHERE WHAT IT READS IS OF BULK AT MOST 1048576: true; the input reads as it did. -/
def fnSafeSelfUptoRow : OpenClaim := { program := "ytihkpofdpjkegaa", sum := "528d05bbe34801765d0c6f2f9bc093a4c5fd336ef2672048828d15c4e380a54c", func := "loop.example/ringoverlay/laws.FnSafeSelf", spec := "fnSafeSelf", apart := false, narrowed := true }
def FnSafeSelfUptoSaid : Prop := fnSafeSelfUptoRow.holds Try.pinned (OpenSpec.upto fnSafeSelfSpec)

/-- 'laws.FnSafeOrder', WHERE WHAT IT READS IS OF BULK AT MOST 1048576: true; the input reads as it did. -/
def fnSafeOrderUptoRow : OpenClaim := { program := "ytihkpofdpjkegaa", sum := "528d05bbe34801765d0c6f2f9bc093a4c5fd336ef2672048828d15c4e380a54c", func := "loop.example/ringoverlay/laws.FnSafeOrder", spec := "fnSafeOrder", apart := false, narrowed := true }
def FnSafeOrderUptoSaid : Prop := fnSafeOrderUptoRow.holds Try.pinned (OpenSpec.upto fnSafeOrderSpec)

/-- 'laws.FnIdealSafe', WHERE WHAT IT READS IS OF BULK AT MOST 1048576: true; the input reads as it did. -/
def fnIdealSafeUptoRow : OpenClaim := { program := "ytihkpofdpjkegaa", sum := "528d05bbe34801765d0c6f2f9bc093a4c5fd336ef2672048828d15c4e380a54c", func := "loop.example/ringoverlay/laws.FnIdealSafe", spec := "fnIdealSafe", apart := false, narrowed := true }
def FnIdealSafeUptoSaid : Prop := fnIdealSafeUptoRow.holds Try.pinned (OpenSpec.upto fnIdealSafeSpec)

/-- 'laws.FnPrincipalsOrder', WHERE WHAT IT READS IS OF BULK AT MOST 1048576: true; the input reads as it did. -/
def fnPrincipalsOrderUptoRow : OpenClaim := { program := "ytihkpofdpjkegaa", sum := "528d05bbe34801765d0c6f2f9bc093a4c5fd336ef2672048828d15c4e380a54c", func := "loop.example/ringoverlay/laws.FnPrincipalsOrder", spec := "fnPrincipalsOrder", apart := false, narrowed := true }
def FnPrincipalsOrderUptoSaid : Prop := fnPrincipalsOrderUptoRow.holds Try.pinned (OpenSpec.upto fnPrincipalsOrderSpec)

/-- 'laws.FnSafeBetween', WHERE WHAT IT READS IS OF BULK AT MOST 1048576: true; the input reads as it did. -/
def fnSafeBetweenUptoRow : OpenClaim := { program := "ytihkpofdpjkegaa", sum := "528d05bbe34801765d0c6f2f9bc093a4c5fd336ef2672048828d15c4e380a54c", func := "loop.example/ringoverlay/laws.FnSafeBetween", spec := "fnSafeBetween", apart := false, narrowed := true }
def FnSafeBetweenUptoSaid : Prop := fnSafeBetweenUptoRow.holds Try.pinned (OpenSpec.upto fnSafeBetweenSpec)

/-- 'laws.FnExactRingPrincipals', WHERE WHAT IT READS IS OF BULK AT MOST 1048576: true; the input reads as it did. -/
def fnExactRingPrincipalsUptoRow : OpenClaim := { program := "ytihkpofdpjkegaa", sum := "528d05bbe34801765d0c6f2f9bc093a4c5fd336ef2672048828d15c4e380a54c", func := "loop.example/ringoverlay/laws.FnExactRingPrincipals", spec := "fnExactRingPrincipals", apart := false, narrowed := true }
def FnExactRingPrincipalsUptoSaid : Prop := fnExactRingPrincipalsUptoRow.holds Try.pinned (OpenSpec.upto fnExactRingPrincipalsSpec)

/-- 'laws.FnExactRingSafe', WHERE WHAT IT READS IS OF BULK AT MOST 1048576: true; the input reads as it did. -/
def fnExactRingSafeUptoRow : OpenClaim := { program := "ytihkpofdpjkegaa", sum := "528d05bbe34801765d0c6f2f9bc093a4c5fd336ef2672048828d15c4e380a54c", func := "loop.example/ringoverlay/laws.FnExactRingSafe", spec := "fnExactRingSafe", apart := false, narrowed := true }
def FnExactRingSafeUptoSaid : Prop := fnExactRingSafeUptoRow.holds Try.pinned (OpenSpec.upto fnExactRingSafeSpec)

/-- 'laws.FnExactRingIdeal', WHERE WHAT IT READS IS OF BULK AT MOST 1048576: true; the input reads as it did. -/
def fnExactRingIdealUptoRow : OpenClaim := { program := "ytihkpofdpjkegaa", sum := "528d05bbe34801765d0c6f2f9bc093a4c5fd336ef2672048828d15c4e380a54c", func := "loop.example/ringoverlay/laws.FnExactRingIdeal", spec := "fnExactRingIdeal", apart := false, narrowed := true }
def FnExactRingIdealUptoSaid : Prop := fnExactRingIdealUptoRow.holds Try.pinned (OpenSpec.upto fnExactRingIdealSpec)

end Rows
end Go.Proofs.Ytihkpofdpjkegaa
