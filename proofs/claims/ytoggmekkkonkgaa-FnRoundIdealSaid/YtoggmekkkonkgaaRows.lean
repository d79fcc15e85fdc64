/-
  No cell of these rows narrows 'for every input' (looked for: loops, veiled, ifaces, maps, wideKeys, modest, calm, conditions, laid).
  DERIVED. THE GIVEN ROWS OF THIS SEAT. 4 by the template 'for every input the law returns true; each argument reads behind the call as it read before'; 0 by the template 'total and deterministic' (their statements: YtoggmekkkonkgaaTotals.lean).
  GIVEN WITH THE SEED: the statements are not yours to turn. If you find one false, say at which input.
  Laid BY PROGRAM, IN A SANDBOX (cutbox-rows.mjs): the forced cells as the released guide's own fill.sh prints them over the translation e0191db9e0a5ce13… (all of the seat's roots in one cut). By AI agents, Wed Nov 11 2026. No macro, syntax, notation, axiom, sorry.
-/
import Derived.Test.YtoggmekkkonkgaaChecked
import GoSem.Claim
import GoSem.ClaimJoined
import GoSem.ClaimMapViews
import Derived.JoinedTies
import Derived.KernelRfl
namespace Go.Proofs.Ytoggmekkkonkgaa
/- THE CELL 'sum', in the pinned program and in every row, IS THE sha256 OF THE DUMP (.gsa) THAT YtoggmekkkonkgaaProg.lean LOADS. Nothing in Lean hashes anything: it is a label: what it is worth is what the hold of that sum in a sandbox is worth. -/
noncomputable def Try.pinned : Pinned := { name := "ytoggmekkkonkgaa", sum := "e0191db9e0a5ce139d9bdd9dd1d47dccb9ba6848e21d4afb0a1a62adb6aba9b2", checked := Try.checked }
namespace Rows
def none {H : Type} : Left H := { results := [], args := [] }

/-- 'laws.FnRingIds': WHATEVER THE INPUT: true; the input reads as it did. -/
def fnRingIdsSpec : ChangeSpec := { name := "fnRingIds", fn := fun _ => fun
  | [d] => { results := [.lit (.bool true)], args := [d] }
  | _ => none }
def fnRingIdsRow : OpenClaim := { program := "ytoggmekkkonkgaa", sum := "e0191db9e0a5ce139d9bdd9dd1d47dccb9ba6848e21d4afb0a1a62adb6aba9b2", func := "loop.example/ringoverlay/laws.FnRingIds", spec := "fnRingIds", apart := false }
def FnRingIdsSaid : Prop := fnRingIdsRow.holds Try.pinned (OpenSpec.ofChange fnRingIdsSpec)

/-- ITS FALSE NEIGHBOUR: 'it returns false'. Refute it at one input. -/
def fnRingIdsWrong : ChangeSpec := { name := "fnRingIds", fn := fun _ => fun
  | [d] => { results := [.lit (.bool false)], args := [d] }
  | _ => none }
def FnRingIdsWrongFalsely : Prop := fnRingIdsRow.holds Try.pinned (OpenSpec.ofChange fnRingIdsWrong)

/-- 'laws.FnIdealOne': WHATEVER THE INPUT: true; the input reads as it did. -/
def fnIdealOneSpec : ChangeSpec := { name := "fnIdealOne", fn := fun _ => fun
  | [d] => { results := [.lit (.bool true)], args := [d] }
  | _ => none }
def fnIdealOneRow : OpenClaim := { program := "ytoggmekkkonkgaa", sum := "e0191db9e0a5ce139d9bdd9dd1d47dccb9ba6848e21d4afb0a1a62adb6aba9b2", func := "loop.example/ringoverlay/laws.FnIdealOne", spec := "fnIdealOne", apart := false }
def FnIdealOneSaid : Prop := fnIdealOneRow.holds Try.pinned (OpenSpec.ofChange fnIdealOneSpec)

/-- ITS FALSE NEIGHBOUR: 'it returns false'. Refute it at one input. -/
def fnIdealOneWrong : ChangeSpec := { name := "fnIdealOne", fn := fun _ => fun
  | [d] => { results := [.lit (.bool false)], args := [d] }
  | _ => none }
def FnIdealOneWrongFalsely : Prop := fnIdealOneRow.holds Try.pinned (OpenSpec.ofChange fnIdealOneWrong)

/-- 'laws.FnRoundIdeal': WHATEVER THE INPUT: true; the input reads as it did. -/
def fnRoundIdealSpec : ChangeSpec := { name := "fnRoundIdeal", fn := fun _ => fun
  | [d] => { results := [.lit (.bool true)], args := [d] }
  | _ => none }
def fnRoundIdealRow : OpenClaim := { program := "ytoggmekkkonkgaa", sum := "e0191db9e0a5ce139d9bdd9dd1d47dccb9ba6848e21d4afb0a1a62adb6aba9b2", func := "loop.example/ringoverlay/laws.FnRoundIdeal", spec := "fnRoundIdeal", apart := false }
def FnRoundIdealSaid : Prop := fnRoundIdealRow.holds Try.pinned (OpenSpec.ofChange fnRoundIdealSpec)

/-- ITS FALSE NEIGHBOUR: 'it returns false'. Refute it at one input. -/
def fnRoundIdealWrong : ChangeSpec := { name := "fnRoundIdeal", fn := fun _ => fun
  | [d] => { results := [.lit (.bool false)], args := [d] }
  | _ => none }
def FnRoundIdealWrongFalsely : Prop := fnRoundIdealRow.holds Try.pinned (OpenSpec.ofChange fnRoundIdealWrong)

/-- 'laws.FnIdealSteps': WHATEVER THE INPUT: true; the input reads as it did. -/
def fnIdealStepsSpec : ChangeSpec := { name := "fnIdealSteps", fn := fun _ => fun
  | [d1, d2] => { results := [.lit (.bool true)], args := [d1, d2] }
  | _ => none }
def fnIdealStepsRow : OpenClaim := { program := "ytoggmekkkonkgaa", sum := "e0191db9e0a5ce139d9bdd9dd1d47dccb9ba6848e21d4afb0a1a62adb6aba9b2", func := "loop.example/ringoverlay/laws.FnIdealSteps", spec := "fnIdealSteps", inPlace := ["slices.overlaps[*loop.example/ringoverlay/impl.peer]"], unfollowed := true, recurses := true, apart := false }
def FnIdealStepsSaid : Prop := fnIdealStepsRow.holds Try.pinned (OpenSpec.ofChange fnIdealStepsSpec)

/-- ITS FALSE NEIGHBOUR: 'it returns false'. Refute it at one input. -/
def fnIdealStepsWrong : ChangeSpec := { name := "fnIdealSteps", fn := fun _ => fun
  | [d1, d2] => { results := [.lit (.bool false)], args := [d1, d2] }
  | _ => none }
def FnIdealStepsWrongFalsely : Prop := fnIdealStepsRow.holds Try.pinned (OpenSpec.ofChange fnIdealStepsWrong)

/- THE SECOND FORM. 'bulk': how many values and letters a reading holds, each counted each time it is reached (what is shared counts as often as it is met; a slice's spare places count too). A statement '..UptoSaid' is the law's where the arguments, and the package variables that the reading takes, are together of bulk at most 1048576: NARROWER than '..Said'. Prove '..Said' where nothing that the law and all that it calls make is longer than what came in: it says more and counts as full. Else prove '..UptoSaid'. A law counts once. -/
mutual
def uptoBulk {H : Type} : DataW H → Nat
  | .lit (.string bytes) => bytes.length + 1
  | .lit _ => 1
  | .nil => 1
  | .ptr d => uptoBulk d + 1
  | .slice elems spare => uptoBulkAll elems + uptoBulkAll spare + 1
  | .agg parts => uptoBulkAll parts + 1
  | .iface _ d => uptoBulk d + 1
  | .map entries => uptoBulkEntries entries + 1
  | .held _ => 1
def uptoBulkAll {H : Type} : List (DataW H) → Nat
  | [] => 0
  | d :: r => uptoBulk d + uptoBulkAll r
def uptoBulkEntries {H : Type} : List (Lit × DataW H) → Nat
  | [] => 0
  | x :: r => uptoBulkEntry x + uptoBulkEntries r
def uptoBulkEntry {H : Type} : Lit × DataW H → Nat
  | (.string bytes, d) => bytes.length + uptoBulk d + 1
  | (_, d) => uptoBulk d + 1
 end
def uptoSmall : (H : Type) → List (DataW H) → Bool := fun _ ds => decide (uptoBulkAll ds ≤ 1048576)
def OpenSpec.upto (s : _root_.Go.ChangeSpec) : _root_.Go.OpenSpec := { _root_.Go.OpenSpec.ofChange s with cond := some uptoSmall }

/-- 'laws.FnRingIds', WHERE WHAT IT READS IS OF BULK AT MOST 1048576: true; the input reads as it did. -/
def fnRingIdsUptoRow : OpenClaim := { program := "ytoggmekkkonkgaa", sum := "e0191db9e0a5ce139d9bdd9dd1d47dccb9ba6848e21d4afb0a1a62adb6aba9b2", func := "loop.example/ringoverlay/laws.FnRingIds", spec := "fnRingIds", apart := false, narrowed := true }
def FnRingIdsUptoSaid : Prop := fnRingIdsUptoRow.holds Try.pinned (OpenSpec.upto fnRingIdsSpec)

/-- 'laws.FnIdealOne', WHERE WHAT IT READS IS OF BULK AT MOST 1048576: true; the input reads as it did. -/
def fnIdealOneUptoRow : OpenClaim := { program := "ytoggmekkkonkgaa", sum := "e0191db9e0a5ce139d9bdd9dd1d47dccb9ba6848e21d4afb0a1a62adb6aba9b2", func := "loop.example/ringoverlay/laws.FnIdealOne", spec := "fnIdealOne", apart := false, narrowed := true }
def FnIdealOneUptoSaid : Prop := fnIdealOneUptoRow.holds Try.pinned (OpenSpec.upto fnIdealOneSpec)

/-- 'laws.FnRoundIdeal', WHERE WHAT IT READS IS OF BULK AT MOST 1048576: true; the input reads as it did. -/
def fnRoundIdealUptoRow : OpenClaim := { program := "ytoggmekkkonkgaa", sum := "e0191db9e0a5ce139d9bdd9dd1d47dccb9ba6848e21d4afb0a1a62adb6aba9b2", func := "loop.example/ringoverlay/laws.FnRoundIdeal", spec := "fnRoundIdeal", apart := false, narrowed := true }
def FnRoundIdealUptoSaid : Prop := fnRoundIdealUptoRow.holds Try.pinned (OpenSpec.upto fnRoundIdealSpec)

/-- 'laws.FnIdealSteps', WHERE WHAT IT READS IS OF BULK AT MOST 1048576: true; the input reads as it did. -/
def fnIdealStepsUptoRow : OpenClaim := { program := "ytoggmekkkonkgaa", sum := "e0191db9e0a5ce139d9bdd9dd1d47dccb9ba6848e21d4afb0a1a62adb6aba9b2", func := "loop.example/ringoverlay/laws.FnIdealSteps", spec := "fnIdealSteps", inPlace := ["slices.overlaps[*loop.example/ringoverlay/impl.peer]"], unfollowed := true, recurses := true, apart := false, narrowed := true }
def FnIdealStepsUptoSaid : Prop := fnIdealStepsUptoRow.holds Try.pinned (OpenSpec.upto fnIdealStepsSpec)

end Rows
end Go.Proofs.Ytoggmekkkonkgaa
