/-
  No cell of these rows narrows 'for every input' (looked for: loops, veiled, ifaces, maps, wideKeys, modest, calm, conditions, laid).
  DERIVED. THE GIVEN ROWS OF THIS SEAT. 3 by the template 'for every input the law returns true; each argument reads behind the call as it read before'; 0 by the template 'total and deterministic' (their statements: YtdlapnelehehgabTotals.lean).
  GIVEN WITH THE SEED: the statements are not yours to turn. If you find one false, say at which input.
  Laid BY PROGRAM, IN A SANDBOX (cutbox-rows.mjs): the forced cells as the released guide's own fill.sh prints them over the translation 2c752936f6cf717a… (all of the seat's roots in one cut). By AI agents, Wed Nov 11 2026. No macro, syntax, notation, axiom, sorry.
-/
import Derived.Test.YtdlapnelehehgabChecked
import GoSem.Claim
import GoSem.ClaimJoined
import GoSem.ClaimMapViews
import Derived.JoinedTies
import Derived.KernelRfl
namespace Go.Proofs.Ytdlapnelehehgab
/- THE CELL 'sum', in the pinned program and in every row, IS THE sha256 OF THE DUMP (.gsa) THAT YtdlapnelehehgabProg.lean LOADS. Nothing in Lean hashes anything: it is a label: what it is worth is what the hold of that sum in a sandbox is worth. -/
noncomputable def Try.pinned : Pinned := { name := "ytdlapnelehehgab", sum := "2c752936f6cf717a5f830983847373ba8167cae9c818bcaaf654a7cf6ce63a57", checked := Try.checked }
namespace Rows
def none {H : Type} : Left H := { results := [], args := [] }

/-- 'laws.FnExactCachePut': WHATEVER THE INPUT: true; the input reads as it did. -/
def fnExactCachePutSpec : ChangeSpec := { name := "fnExactCachePut", fn := fun _ => fun
  | [d1, d2, d3, d4] => { results := [.lit (.bool true)], args := [d1, d2, d3, d4] }
  | _ => none }
def fnExactCachePutRow : OpenClaim := { program := "ytdlapnelehehgab", sum := "2c752936f6cf717a5f830983847373ba8167cae9c818bcaaf654a7cf6ce63a57", func := "loop.example/ringoverlay/laws.FnExactCachePut", spec := "fnExactCachePut", inPlace := ["slices.overlaps[loop.example/ringoverlay/impl.Entry]"], unfollowed := true, recurses := true, apart := false }
def FnExactCachePutSaid : Prop := fnExactCachePutRow.holds Try.pinned (OpenSpec.ofChange fnExactCachePutSpec)

/-- ITS FALSE NEIGHBOUR: 'it returns false'. Refute it at one input. -/
def fnExactCachePutWrong : ChangeSpec := { name := "fnExactCachePut", fn := fun _ => fun
  | [d1, d2, d3, d4] => { results := [.lit (.bool false)], args := [d1, d2, d3, d4] }
  | _ => none }
def FnExactCachePutWrongFalsely : Prop := fnExactCachePutRow.holds Try.pinned (OpenSpec.ofChange fnExactCachePutWrong)

/-- 'laws.FnExactCacheDrop': WHATEVER THE INPUT: true; the input reads as it did. -/
def fnExactCacheDropSpec : ChangeSpec := { name := "fnExactCacheDrop", fn := fun _ => fun
  | [d1, d2] => { results := [.lit (.bool true)], args := [d1, d2] }
  | _ => none }
def fnExactCacheDropRow : OpenClaim := { program := "ytdlapnelehehgab", sum := "2c752936f6cf717a5f830983847373ba8167cae9c818bcaaf654a7cf6ce63a57", func := "loop.example/ringoverlay/laws.FnExactCacheDrop", spec := "fnExactCacheDrop", unfollowed := true, recurses := true, apart := false }
def FnExactCacheDropSaid : Prop := fnExactCacheDropRow.holds Try.pinned (OpenSpec.ofChange fnExactCacheDropSpec)

/-- ITS FALSE NEIGHBOUR: 'it returns false'. Refute it at one input. -/
def fnExactCacheDropWrong : ChangeSpec := { name := "fnExactCacheDrop", fn := fun _ => fun
  | [d1, d2] => { results := [.lit (.bool false)], args := [d1, d2] }
  | _ => none }
def FnExactCacheDropWrongFalsely : Prop := fnExactCacheDropRow.holds Try.pinned (OpenSpec.ofChange fnExactCacheDropWrong)

/-- 'laws.FnExactCacheSweep': WHATEVER THE INPUT: true; the input reads as it did. -/
def fnExactCacheSweepSpec : ChangeSpec := { name := "fnExactCacheSweep", fn := fun _ => fun
  | [d1, d2] => { results := [.lit (.bool true)], args := [d1, d2] }
  | _ => none }
def fnExactCacheSweepRow : OpenClaim := { program := "ytdlapnelehehgab", sum := "2c752936f6cf717a5f830983847373ba8167cae9c818bcaaf654a7cf6ce63a57", func := "loop.example/ringoverlay/laws.FnExactCacheSweep", spec := "fnExactCacheSweep", unfollowed := true, recurses := true, apart := false }
def FnExactCacheSweepSaid : Prop := fnExactCacheSweepRow.holds Try.pinned (OpenSpec.ofChange fnExactCacheSweepSpec)

/-- ITS FALSE NEIGHBOUR: 'it returns false'. Refute it at one input. -/
def fnExactCacheSweepWrong : ChangeSpec := { name := "fnExactCacheSweep", fn := fun _ => fun
  | [d1, d2] => { results := [.lit (.bool false)], args := [d1, d2] }
  | _ => none }
def FnExactCacheSweepWrongFalsely : Prop := fnExactCacheSweepRow.holds Try.pinned (OpenSpec.ofChange fnExactCacheSweepWrong)

/- THE SECOND FORM. 'bulk': how many values and letters a reading holds, each counted each time it is reached (what is shared counts as often as it is met; a slice's spare places count too). A statement '..UptoSaid' is the law's where the arguments, and the package variables that the reading takes, are together of bulk at most 1048576: NARROWER than '..Said'. Prove '..Said' where nothing that the law and all that it calls make is longer than what came in: it says more and counts as full. Else prove '..UptoSaid'. A law counts once. -/
mutual
def uptoBulk {H : Type} : DataW H → Nat
  | .lit (.string bytes) => bytes.length + 1
  | .lit _ => 1
  | .nil => 1
  | .ptr d => uptoBulk d + 1
  | .slice elems spare => uptoBulkAll elems + uptoBulkAll spare + 1
  | .agg parts => uptoBulkAll parts + 1
  | .iface _ d => uptoBulk d + 1
  | .map entries => uptoBulkEntries entries + 1
  | .held _ => 1
def uptoBulkAll {H : Type} : List (DataW H) → Nat
  | [] => 0
  | d :: r => uptoBulk d + uptoBulkAll r
def uptoBulkEntries {H : Type} : List (Lit × DataW H) → Nat
  | [] => 0
  | x :: r => uptoBulkEntry x + uptoBulkEntries r
def uptoBulkEntry {H : Type} : Lit × DataW H → Nat
  | (.string bytes, d) => bytes.length + uptoBulk d + 1
  | (_, d) => uptoBulk d + 1
 end
def uptoSmall : (H : Type) → List (DataW H) → Bool := fun _ ds => decide (uptoBulkAll ds ≤ 1048576)
def OpenSpec.upto (s : _root_.Go.ChangeSpec) : _root_.Go.OpenSpec := { _root_.Go.OpenSpec.ofChange s with cond := some uptoSmall }

/-- 'laws.FnExactCachePut', WHERE WHAT IT READS IS OF BULK AT MOST 1048576: true; the input reads as it did. -/
def fnExactCachePutUptoRow : OpenClaim := { program := "ytdlapnelehehgab", sum := "2c752936f6cf717a5f830983847373ba8167cae9c818bcaaf654a7cf6ce63a57", func := "loop.example/ringoverlay/laws.FnExactCachePut", spec := "fnExactCachePut", inPlace := ["slices.overlaps[loop.example/ringoverlay/impl.Entry]"], unfollowed := true, recurses := true, apart := false, narrowed := true }
def FnExactCachePutUptoSaid : Prop := fnExactCachePutUptoRow.holds Try.pinned (OpenSpec.upto fnExactCachePutSpec)

/-- 'laws.FnExactCacheDrop', WHERE WHAT IT READS IS OF BULK AT MOST 1048576: true; the input reads as it did. -/
def fnExactCacheDropUptoRow : OpenClaim := { program := "ytdlapnelehehgab", sum := "2c752936f6cf717a5f830983847373ba8167cae9c818bcaaf654a7cf6ce63a57", func := "loop.example/ringoverlay/laws.FnExactCacheDrop", spec := "fnExactCacheDrop", unfollowed := true, recurses := true, apart := false, narrowed := true }
def FnExactCacheDropUptoSaid : Prop := fnExactCacheDropUptoRow.holds Try.pinned (OpenSpec.upto fnExactCacheDropSpec)

/-- 'laws.FnExactCacheSweep', WHERE WHAT IT READS IS OF BULK AT MOST 1048576: true; the input reads as it did. -/
def fnExactCacheSweepUptoRow : OpenClaim := { program := "ytdlapnelehehgab", sum := "2c752936f6cf717a5f830983847373ba8167cae9c818bcaaf654a7cf6ce63a57", func := "loop.example/ringoverlay/laws.FnExactCacheSweep", spec := "fnExactCacheSweep", unfollowed := true, recurses := true, apart := false, narrowed := true }
def FnExactCacheSweepUptoSaid : Prop := fnExactCacheSweepUptoRow.holds Try.pinned (OpenSpec.upto fnExactCacheSweepSpec)

end Rows
end Go.Proofs.Ytdlapnelehehgab
