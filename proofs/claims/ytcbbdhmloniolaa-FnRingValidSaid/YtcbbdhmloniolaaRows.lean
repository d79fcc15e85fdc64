/-
  No cell of these rows narrows 'for every input' (looked for: loops, veiled, ifaces, maps, wideKeys, modest, calm, conditions, laid).
  DERIVED. THE GIVEN ROWS OF THIS SEAT. 6 by the template 'for every input the law returns true; each argument reads behind the call as it read before'; 0 by the template 'total and deterministic' (their statements: YtcbbdhmloniolaaTotals.lean).
  GIVEN WITH THE SEED: the statements are not yours to turn. If you find one false, say at which input.
  Laid BY PROGRAM, IN A SANDBOX (cutbox-rows.mjs): the forced cells as the released guide's own fill.sh prints them over the translation e905403f6cf2d728… (all of the seat's roots in one cut). By AI agents, Wed Nov 11 2026. No macro, syntax, notation, axiom, sorry.
-/
import Derived.Test.YtcbbdhmloniolaaChecked
import GoSem.Claim
import GoSem.ClaimJoined
import GoSem.ClaimMapViews
import Derived.JoinedTies
import Derived.KernelRfl
namespace Go.Proofs.Ytcbbdhmloniolaa
/- THE CELL 'sum', in the pinned program and in every row, IS THE sha256 OF THE DUMP (.gsa) THAT YtcbbdhmloniolaaProg.lean LOADS. Nothing in Lean hashes anything: it is a label: what it is worth is what the hold of that sum in a sandbox is worth. -/
noncomputable def Try.pinned : Pinned := { name := "ytcbbdhmloniolaa", sum := "e905403f6cf2d728131200ec4af8a189253dbf8ed7a9d4f6c27a2c849c8a6693", checked := Try.checked }
namespace Rows
def none {H : Type} : Left H := { results := [], args := [] }

/-- 'laws.FnRingValid': WHATEVER THE INPUT: true; the input reads as it did. -/
def fnRingValidSpec : ChangeSpec := { name := "fnRingValid", fn := fun _ => fun
  | [d1, d2] => { results := [.lit (.bool true)], args := [d1, d2] }
  | _ => none }
def fnRingValidRow : OpenClaim := { program := "ytcbbdhmloniolaa", sum := "e905403f6cf2d728131200ec4af8a189253dbf8ed7a9d4f6c27a2c849c8a6693", func := "loop.example/ringoverlay/laws.FnRingValid", spec := "fnRingValid", apart := false }
def FnRingValidSaid : Prop := fnRingValidRow.holds Try.pinned (OpenSpec.ofChange fnRingValidSpec)

/-- ITS FALSE NEIGHBOUR: 'it returns false'. Refute it at one input. -/
def fnRingValidWrong : ChangeSpec := { name := "fnRingValid", fn := fun _ => fun
  | [d1, d2] => { results := [.lit (.bool false)], args := [d1, d2] }
  | _ => none }
def FnRingValidWrongFalsely : Prop := fnRingValidRow.holds Try.pinned (OpenSpec.ofChange fnRingValidWrong)

/-- 'laws.FnNotify': WHATEVER THE INPUT: true; the input reads as it did. -/
def fnNotifySpec : ChangeSpec := { name := "fnNotify", fn := fun _ => fun
  | [d] => { results := [.lit (.bool true)], args := [d] }
  | _ => none }
def fnNotifyRow : OpenClaim := { program := "ytcbbdhmloniolaa", sum := "e905403f6cf2d728131200ec4af8a189253dbf8ed7a9d4f6c27a2c849c8a6693", func := "loop.example/ringoverlay/laws.FnNotify", spec := "fnNotify", inPlace := ["slices.overlaps[*loop.example/ringoverlay/impl.peer]"], unfollowed := true, recurses := true, apart := false }
def FnNotifySaid : Prop := fnNotifyRow.holds Try.pinned (OpenSpec.ofChange fnNotifySpec)

/-- ITS FALSE NEIGHBOUR: 'it returns false'. Refute it at one input. -/
def fnNotifyWrong : ChangeSpec := { name := "fnNotify", fn := fun _ => fun
  | [d] => { results := [.lit (.bool false)], args := [d] }
  | _ => none }
def FnNotifyWrongFalsely : Prop := fnNotifyRow.holds Try.pinned (OpenSpec.ofChange fnNotifyWrong)

/-- 'laws.FnStepOne': WHATEVER THE INPUT: true; the input reads as it did. -/
def fnStepOneSpec : ChangeSpec := { name := "fnStepOne", fn := fun _ => fun
  | [d] => { results := [.lit (.bool true)], args := [d] }
  | _ => none }
def fnStepOneRow : OpenClaim := { program := "ytcbbdhmloniolaa", sum := "e905403f6cf2d728131200ec4af8a189253dbf8ed7a9d4f6c27a2c849c8a6693", func := "loop.example/ringoverlay/laws.FnStepOne", spec := "fnStepOne", inPlace := ["slices.overlaps[*loop.example/ringoverlay/impl.peer]"], unfollowed := true, recurses := true, apart := false }
def FnStepOneSaid : Prop := fnStepOneRow.holds Try.pinned (OpenSpec.ofChange fnStepOneSpec)

/-- ITS FALSE NEIGHBOUR: 'it returns false'. Refute it at one input. -/
def fnStepOneWrong : ChangeSpec := { name := "fnStepOne", fn := fun _ => fun
  | [d] => { results := [.lit (.bool false)], args := [d] }
  | _ => none }
def FnStepOneWrongFalsely : Prop := fnStepOneRow.holds Try.pinned (OpenSpec.ofChange fnStepOneWrong)

/-- 'laws.FnStabilizeLive': WHATEVER THE INPUT: true; the input reads as it did. -/
def fnStabilizeLiveSpec : ChangeSpec := { name := "fnStabilizeLive", fn := fun _ => fun
  | [d] => { results := [.lit (.bool true)], args := [d] }
  | _ => none }
def fnStabilizeLiveRow : OpenClaim := { program := "ytcbbdhmloniolaa", sum := "e905403f6cf2d728131200ec4af8a189253dbf8ed7a9d4f6c27a2c849c8a6693", func := "loop.example/ringoverlay/laws.FnStabilizeLive", spec := "fnStabilizeLive", inPlace := ["slices.overlaps[*loop.example/ringoverlay/impl.peer]"], unfollowed := true, recurses := true, apart := false }
def FnStabilizeLiveSaid : Prop := fnStabilizeLiveRow.holds Try.pinned (OpenSpec.ofChange fnStabilizeLiveSpec)

/-- ITS FALSE NEIGHBOUR: 'it returns false'. Refute it at one input. -/
def fnStabilizeLiveWrong : ChangeSpec := { name := "fnStabilizeLive", fn := fun _ => fun
  | [d] => { results := [.lit (.bool false)], args := [d] }
  | _ => none }
def FnStabilizeLiveWrongFalsely : Prop := fnStabilizeLiveRow.holds Try.pinned (OpenSpec.ofChange fnStabilizeLiveWrong)

/-- 'laws.FnStabilizeNear': WHATEVER THE INPUT: true; the input reads as it did. -/
def fnStabilizeNearSpec : ChangeSpec := { name := "fnStabilizeNear", fn := fun _ => fun
  | [d] => { results := [.lit (.bool true)], args := [d] }
  | _ => none }
def fnStabilizeNearRow : OpenClaim := { program := "ytcbbdhmloniolaa", sum := "e905403f6cf2d728131200ec4af8a189253dbf8ed7a9d4f6c27a2c849c8a6693", func := "loop.example/ringoverlay/laws.FnStabilizeNear", spec := "fnStabilizeNear", inPlace := ["slices.overlaps[*loop.example/ringoverlay/impl.peer]"], unfollowed := true, recurses := true, apart := false }
def FnStabilizeNearSaid : Prop := fnStabilizeNearRow.holds Try.pinned (OpenSpec.ofChange fnStabilizeNearSpec)

/-- ITS FALSE NEIGHBOUR: 'it returns false'. Refute it at one input. -/
def fnStabilizeNearWrong : ChangeSpec := { name := "fnStabilizeNear", fn := fun _ => fun
  | [d] => { results := [.lit (.bool false)], args := [d] }
  | _ => none }
def FnStabilizeNearWrongFalsely : Prop := fnStabilizeNearRow.holds Try.pinned (OpenSpec.ofChange fnStabilizeNearWrong)

/-- 'laws.FnCalmRounds': WHATEVER THE INPUT: true; the input reads as it did. -/
def fnCalmRoundsSpec : ChangeSpec := { name := "fnCalmRounds", fn := fun _ => fun
  | [d] => { results := [.lit (.bool true)], args := [d] }
  | _ => none }
def fnCalmRoundsRow : OpenClaim := { program := "ytcbbdhmloniolaa", sum := "e905403f6cf2d728131200ec4af8a189253dbf8ed7a9d4f6c27a2c849c8a6693", func := "loop.example/ringoverlay/laws.FnCalmRounds", spec := "fnCalmRounds", apart := false }
def FnCalmRoundsSaid : Prop := fnCalmRoundsRow.holds Try.pinned (OpenSpec.ofChange fnCalmRoundsSpec)

/-- ITS FALSE NEIGHBOUR: 'it returns false'. Refute it at one input. -/
def fnCalmRoundsWrong : ChangeSpec := { name := "fnCalmRounds", fn := fun _ => fun
  | [d] => { results := [.lit (.bool false)], args := [d] }
  | _ => none }
def FnCalmRoundsWrongFalsely : Prop := fnCalmRoundsRow.holds Try.pinned (OpenSpec.ofChange fnCalmRoundsWrong)

/- THE SECOND FORM. 'bulk': how many values and letters a reading holds, each counted each time it is reached (what is shared counts as often as it is met; a slice's spare places count too). A statement '..UptoSaid' is the law's where the arguments, and the package variables that the reading takes, are together of bulk at most 1048576: NARROWER than '..Said'. Prove '..Said' where nothing that the law and all that it calls make is longer than what came in: it says more and counts as full. Else prove '..UptoSaid'. A law counts once. -/
mutual
def uptoBulk {H : Type} : DataW H → Nat
  | .lit (.string bytes) => bytes.length + 1
  | .lit _ => 1
  | .nil => 1
  | .ptr d => uptoBulk d + 1
  | .slice elems spare => uptoBulkAll elems + uptoBulkAll spare + 1
  | .agg parts => uptoBulkAll parts + 1
  | .iface _ d => uptoBulk d + 1
  | .map entries => uptoBulkEntries entries + 1
  | .held _ => 1
def uptoBulkAll {H : Type} : List (DataW H) → Nat
  | [] => 0
  | d :: r => uptoBulk d + uptoBulkAll r
def uptoBulkEntries {H : Type} : List (Lit × DataW H) → Nat
  | [] => 0
  | x :: r => uptoBulkEntry x + uptoBulkEntries r
def uptoBulkEntry {H : Type} : Lit × DataW H → Nat
  | (.string bytes, d) => bytes.length + uptoBulk d + 1
  | (_, d) => uptoBulk d + 1
 end
def uptoSmall : (H : Type) → List (DataW H) → Bool := fun _ ds => decide (uptoBulkAll ds ≤ 1048576)
def OpenSpec.upto (s : _root_.Go.ChangeSpec) : _root_.Go.OpenSpec := { _root_.Go.OpenSpec.ofChange s with cond := some uptoSmall }

/-- 'laws.FnRingValid', WHERE WHAT IT READS IS OF BULK AT MOST 1048576: true; the input reads as it did. -/
def fnRingValidUptoRow : OpenClaim := { program := "ytcbbdhmloniolaa", sum := "e905403f6cf2d728131200ec4af8a189253dbf8ed7a9d4f6c27a2c849c8a6693", func := "loop.example/ringoverlay/laws.FnRingValid", spec := "fnRingValid", apart := false, narrowed := true }
def FnRingValidUptoSaid : Prop := fnRingValidUptoRow.holds Try.pinned (OpenSpec.upto fnRingValidSpec)

/-- 'laws.FnNotify', WHERE WHAT IT READS IS OF BULK AT MOST 1048576: true; the input reads as it did. -/
def fnNotifyUptoRow : OpenClaim := { program := "ytcbbdhmloniolaa", sum := "e905403f6cf2d728131200ec4af8a189253dbf8ed7a9d4f6c27a2c849c8a6693", func := "loop.example/ringoverlay/laws.FnNotify", spec := "fnNotify", inPlace := ["slices.overlaps[*loop.example/ringoverlay/impl.peer]"], unfollowed := true, recurses := true, apart := false, narrowed := true }
def FnNotifyUptoSaid : Prop := fnNotifyUptoRow.holds Try.pinned (OpenSpec.upto fnNotifySpec)

/-- 'laws.FnStepOne', WHERE WHAT IT READS IS OF BULK AT MOST 1048576: true; the input reads as it did. -/
def fnStepOneUptoRow : OpenClaim := { program := "ytcbbdhmloniolaa", sum := "e905403f6cf2d728131200ec4af8a189253dbf8ed7a9d4f6c27a2c849c8a6693", func := "loop.example/ringoverlay/laws.FnStepOne", spec := "fnStepOne", inPlace := ["slices.overlaps[*loop.example/ringoverlay/impl.peer]"], unfollowed := true, recurses := true, apart := false, narrowed := true }
def FnStepOneUptoSaid : Prop := fnStepOneUptoRow.holds Try.pinned (OpenSpec.upto fnStepOneSpec)

/-- 'laws.FnStabilizeLive', WHERE WHAT IT READS IS OF BULK AT MOST 1048576: true; the input reads as it did. -/
def fnStabilizeLiveUptoRow : OpenClaim := { program := "ytcbbdhmloniolaa", sum := "e905403f6cf2d728131200ec4af8a189253dbf8ed7a9d4f6c27a2c849c8a6693", func := "loop.example/ringoverlay/laws.FnStabilizeLive", spec := "fnStabilizeLive", inPlace := ["slices.overlaps[*loop.example/ringoverlay/impl.peer]"], unfollowed := true, recurses := true, apart := false, narrowed := true }
def FnStabilizeLiveUptoSaid : Prop := fnStabilizeLiveUptoRow.holds Try.pinned (OpenSpec.upto fnStabilizeLiveSpec)

/-- 'laws.FnStabilizeNear', WHERE WHAT IT READS IS OF BULK AT MOST 1048576: true; the input reads as it did. -/
def fnStabilizeNearUptoRow : OpenClaim := { program := "ytcbbdhmloniolaa", sum := "e905403f6cf2d728131200ec4af8a189253dbf8ed7a9d4f6c27a2c849c8a6693", func := "loop.example/ringoverlay/laws.FnStabilizeNear", spec := "fnStabilizeNear", inPlace := ["slices.overlaps[*loop.example/ringoverlay/impl.peer]"], unfollowed := true, recurses := true, apart := false, narrowed := true }
def FnStabilizeNearUptoSaid : Prop := fnStabilizeNearUptoRow.holds Try.pinned (OpenSpec.upto fnStabilizeNearSpec)

/-- 'laws.FnCalmRounds', WHERE WHAT IT READS IS OF BULK AT MOST 1048576: true; the input reads as it did. -/
def fnCalmRoundsUptoRow : OpenClaim := { program := "ytcbbdhmloniolaa", sum := "e905403f6cf2d728131200ec4af8a189253dbf8ed7a9d4f6c27a2c849c8a6693", func := "loop.example/ringoverlay/laws.FnCalmRounds", spec := "fnCalmRounds", apart := false, narrowed := true }
def FnCalmRoundsUptoSaid : Prop := fnCalmRoundsUptoRow.holds Try.pinned (OpenSpec.upto fnCalmRoundsSpec)

end Rows
end Go.Proofs.Ytcbbdhmloniolaa
