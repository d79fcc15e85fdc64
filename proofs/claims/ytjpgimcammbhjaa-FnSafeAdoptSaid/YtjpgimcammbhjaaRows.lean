/-
  No cell of these rows narrows 'for every input' (looked for: loops, veiled, ifaces, maps, wideKeys, modest, calm, conditions, laid).
  DERIVED. THE GIVEN ROWS OF THIS SEAT. 4 by the template 'for every input the law returns true; each argument reads behind the call as it read before'; 0 by the template 'total and deterministic' (their statements: YtjpgimcammbhjaaTotals.lean).
  GIVEN WITH THE SEED: the statements are not yours to turn. If you find one false, say at which input.
  Laid BY PROGRAM, IN A SANDBOX (cutbox-rows.mjs): the forced cells as the released guide's own fill.sh prints them over the translation 567fc21e792a8c28… (all of the seat's roots in one cut). By AI agents, Wed Nov 11 2026. No macro, syntax, notation, axiom, sorry.
-/
import Derived.Test.YtjpgimcammbhjaaChecked
import GoSem.Claim
import GoSem.ClaimJoined
import GoSem.ClaimMapViews
import Derived.JoinedTies
import Derived.KernelRfl
namespace Go.Proofs.Ytjpgimcammbhjaa
/- THE CELL 'sum', in the pinned program and in every row, IS THE sha256 OF THE DUMP (.gsa) THAT YtjpgimcammbhjaaProg.lean LOADS. Nothing in Lean hashes anything: it is a label: what it is worth is what the hold of that sum in a sandbox is worth. -/
noncomputable def Try.pinned : Pinned := { name := "ytjpgimcammbhjaa", sum := "567fc21e792a8c28fadf7eb5b1272b348a486f385d952dd94e059feb6c781a86", checked := Try.checked }
namespace Rows
def none {H : Type} : Left H := { results := [], args := [] }

/-- 'laws.FnSafeAdopt': WHATEVER THE INPUT: true; the input reads as it did. -/
def fnSafeAdoptSpec : ChangeSpec := { name := "fnSafeAdopt", fn := fun _ => fun
  | [d] => { results := [.lit (.bool true)], args := [d] }
  | _ => none }
def fnSafeAdoptRow : OpenClaim := { program := "ytjpgimcammbhjaa", sum := "567fc21e792a8c28fadf7eb5b1272b348a486f385d952dd94e059feb6c781a86", func := "loop.example/ringoverlay/laws.FnSafeAdopt", spec := "fnSafeAdopt", inPlace := ["slices.overlaps[*loop.example/ringoverlay/impl.peer]"], unfollowed := true, recurses := true, apart := false }
def FnSafeAdoptSaid : Prop := fnSafeAdoptRow.holds Try.pinned (OpenSpec.ofChange fnSafeAdoptSpec)

/-- ITS FALSE NEIGHBOUR: 'it returns false'. Refute it at one input. -/
def fnSafeAdoptWrong : ChangeSpec := { name := "fnSafeAdopt", fn := fun _ => fun
  | [d] => { results := [.lit (.bool false)], args := [d] }
  | _ => none }
def FnSafeAdoptWrongFalsely : Prop := fnSafeAdoptRow.holds Try.pinned (OpenSpec.ofChange fnSafeAdoptWrong)

/-- 'laws.FnSafeCloser': WHATEVER THE INPUT: true; the input reads as it did. -/
def fnSafeCloserSpec : ChangeSpec := { name := "fnSafeCloser", fn := fun _ => fun
  | [d] => { results := [.lit (.bool true)], args := [d] }
  | _ => none }
def fnSafeCloserRow : OpenClaim := { program := "ytjpgimcammbhjaa", sum := "567fc21e792a8c28fadf7eb5b1272b348a486f385d952dd94e059feb6c781a86", func := "loop.example/ringoverlay/laws.FnSafeCloser", spec := "fnSafeCloser", inPlace := ["slices.overlaps[*loop.example/ringoverlay/impl.peer]"], unfollowed := true, recurses := true, apart := false }
def FnSafeCloserSaid : Prop := fnSafeCloserRow.holds Try.pinned (OpenSpec.ofChange fnSafeCloserSpec)

/-- ITS FALSE NEIGHBOUR: 'it returns false'. Refute it at one input. -/
def fnSafeCloserWrong : ChangeSpec := { name := "fnSafeCloser", fn := fun _ => fun
  | [d] => { results := [.lit (.bool false)], args := [d] }
  | _ => none }
def FnSafeCloserWrongFalsely : Prop := fnSafeCloserRow.holds Try.pinned (OpenSpec.ofChange fnSafeCloserWrong)

/-- 'laws.FnSafeNotify': WHATEVER THE INPUT: true; the input reads as it did. -/
def fnSafeNotifySpec : ChangeSpec := { name := "fnSafeNotify", fn := fun _ => fun
  | [d] => { results := [.lit (.bool true)], args := [d] }
  | _ => none }
def fnSafeNotifyRow : OpenClaim := { program := "ytjpgimcammbhjaa", sum := "567fc21e792a8c28fadf7eb5b1272b348a486f385d952dd94e059feb6c781a86", func := "loop.example/ringoverlay/laws.FnSafeNotify", spec := "fnSafeNotify", inPlace := ["slices.overlaps[*loop.example/ringoverlay/impl.peer]"], unfollowed := true, recurses := true, apart := false }
def FnSafeNotifySaid : Prop := fnSafeNotifyRow.holds Try.pinned (OpenSpec.ofChange fnSafeNotifySpec)

/-- ITS FALSE NEIGHBOUR: 'it returns false'. Refute it at one input. -/
def fnSafeNotifyWrong : ChangeSpec := { name := "fnSafeNotify", fn := fun _ => fun
  | [d] => { results := [.lit (.bool false)], args := [d] }
  | _ => none }
def FnSafeNotifyWrongFalsely : Prop := fnSafeNotifyRow.holds Try.pinned (OpenSpec.ofChange fnSafeNotifyWrong)

/-- 'laws.FnSafeStabilize': WHATEVER THE INPUT: true; the input reads as it did. -/
def fnSafeStabilizeSpec : ChangeSpec := { name := "fnSafeStabilize", fn := fun _ => fun
  | [d] => { results := [.lit (.bool true)], args := [d] }
  | _ => none }
def fnSafeStabilizeRow : OpenClaim := { program := "ytjpgimcammbhjaa", sum := "567fc21e792a8c28fadf7eb5b1272b348a486f385d952dd94e059feb6c781a86", func := "loop.example/ringoverlay/laws.FnSafeStabilize", spec := "fnSafeStabilize", inPlace := ["slices.overlaps[*loop.example/ringoverlay/impl.peer]"], unfollowed := true, recurses := true, apart := false }
def FnSafeStabilizeSaid : Prop := fnSafeStabilizeRow.holds Try.pinned (OpenSpec.ofChange fnSafeStabilizeSpec)

/-- ITS FALSE NEIGHBOUR: 'it returns false'. Refute it at one input. -/
def fnSafeStabilizeWrong : ChangeSpec := { name := "fnSafeStabilize", fn := fun _ => fun
  | [d] => { results := [.lit (.bool false)], args := [d] }
  | _ => none }
def FnSafeStabilizeWrongFalsely : Prop := fnSafeStabilizeRow.holds Try.pinned (OpenSpec.ofChange fnSafeStabilizeWrong)

/- THE SECOND FORM. 'bulk': how many values and letters a reading holds, each counted each time it is reached (what is shared counts as often as it is met; a slice's spare places count too). A statement '..UptoSaid' is the law's where the arguments, and the package variables that the reading takes, are together of bulk at most 1048576: NARROWER than '..Said'. Prove '..Said' where nothing that the law and all that it calls make is longer than what came in: it says more and counts as full. Else prove '..UptoSaid'. A law counts once. -/
mutual
def uptoBulk {H : Type} : DataW H → Nat
  | .lit (.string bytes) => bytes.length + 1
  | .lit _ => 1
  | .nil => 1
  | .ptr d => uptoBulk d + 1
  | .slice elems spare => uptoBulkAll elems + uptoBulkAll spare + 1
  | .agg parts => uptoBulkAll parts + 1
  | .iface _ d => uptoBulk d + 1
  | .map entries => uptoBulkEntries entries + 1
  | .held _ => 1
def uptoBulkAll {H : Type} : List (DataW H) → Nat
  | [] => 0
  | d :: r => uptoBulk d + uptoBulkAll r
def uptoBulkEntries {H : Type} : List (Lit × DataW H) → Nat
  | [] => 0
  | x :: r => uptoBulkEntry x + uptoBulkEntries r
def uptoBulkEntry {H : Type} : Lit × DataW H → Nat
  | (.string bytes, d) => bytes.length + uptoBulk d + 1
  | (_, d) => uptoBulk d + 1
 end
def uptoSmall : (H : Type) → List (DataW H) → Bool := fun _ ds => decide (uptoBulkAll ds ≤ 1048576)
def OpenSpec.upto (s : _root_.Go.ChangeSpec) : _root_.Go.OpenSpec := { _root_.Go.OpenSpec.ofChange s with cond := some uptoSmall }

/-- 'laws.FnSafeAdopt', WHERE WHAT IT READS IS OF BULK AT MOST 1048576: true; the input reads as it did. -/
def fnSafeAdoptUptoRow : OpenClaim := { program := "ytjpgimcammbhjaa", sum := "567fc21e792a8c28fadf7eb5b1272b348a486f385d952dd94e059feb6c781a86", func := "loop.example/ringoverlay/laws.FnSafeAdopt", spec := "fnSafeAdopt", inPlace := ["slices.overlaps[*loop.example/ringoverlay/impl.peer]"], unfollowed := true, recurses := true, apart := false, narrowed := true }
def FnSafeAdoptUptoSaid : Prop := fnSafeAdoptUptoRow.holds Try.pinned (OpenSpec.upto fnSafeAdoptSpec)

/-- 'laws.FnSafeCloser', WHERE WHAT IT READS IS OF BULK AT MOST 1048576: true; the input reads as it did. -/
def fnSafeCloserUptoRow : OpenClaim := { program := "ytjpgimcammbhjaa", sum := "567fc21e792a8c28fadf7eb5b1272b348a486f385d952dd94e059feb6c781a86", func := "loop.example/ringoverlay/laws.FnSafeCloser", spec := "fnSafeCloser", inPlace := ["slices.overlaps[*loop.example/ringoverlay/impl.peer]"], unfollowed := true, recurses := true, apart := false, narrowed := true }
def FnSafeCloserUptoSaid : Prop := fnSafeCloserUptoRow.holds Try.pinned (OpenSpec.upto fnSafeCloserSpec)

/-- 'laws.FnSafeNotify', WHERE WHAT IT READS IS OF BULK AT MOST 1048576: true; the input reads as it did. -/
def fnSafeNotifyUptoRow : OpenClaim := { program := "ytjpgimcammbhjaa", sum := "567fc21e792a8c28fadf7eb5b1272b348a486f385d952dd94e059feb6c781a86", func := "loop.example/ringoverlay/laws.FnSafeNotify", spec := "fnSafeNotify", inPlace := ["slices.overlaps[*loop.example/ringoverlay/impl.peer]"], unfollowed := true, recurses := true, apart := false, narrowed := true }
def FnSafeNotifyUptoSaid : Prop := fnSafeNotifyUptoRow.holds Try.pinned (OpenSpec.upto fnSafeNotifySpec)

/-- 'laws.FnSafeStabilize', WHERE WHAT IT READS IS OF BULK AT MOST 1048576: true; the input reads as it did. -/
def fnSafeStabilizeUptoRow : OpenClaim := { program := "ytjpgimcammbhjaa", sum := "567fc21e792a8c28fadf7eb5b1272b348a486f385d952dd94e059feb6c781a86", func := "loop.example/ringoverlay/laws.FnSafeStabilize", spec := "fnSafeStabilize", inPlace := ["slices.overlaps[*loop.example/ringoverlay/impl.peer]"], unfollowed := true, recurses := true, apart := false, narrowed := true }
def FnSafeStabilizeUptoSaid : Prop := fnSafeStabilizeUptoRow.holds Try.pinned (OpenSpec.upto fnSafeStabilizeSpec)

end Rows
end Go.Proofs.Ytjpgimcammbhjaa
