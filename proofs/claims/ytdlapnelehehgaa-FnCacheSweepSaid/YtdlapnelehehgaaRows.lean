/-
  No cell of these rows narrows 'for every input' (looked for: loops, veiled, ifaces, maps, wideKeys, modest, calm, conditions, laid).
  DERIVED. THE GIVEN ROWS OF THIS SEAT. 12 by the template 'for every input the law returns true; each argument reads behind the call as it read before'; 0 by the template 'total and deterministic' (their statements: YtdlapnelehehgaaTotals.lean).
  GIVEN WITH THE SEED: the statements are not yours to turn. If you find one false, say at which input.
  Laid BY PROGRAM, IN A SANDBOX (cutbox-rows.mjs): the forced cells as the released guide's own fill.sh prints them over the translation 94ee0c18bfecf94c… (all of the seat's roots in one cut). By AI agents, Wed Nov 11 2026. No macro, syntax, notation, axiom, sorry.
-/
import Derived.Test.YtdlapnelehehgaaChecked
import GoSem.Claim
import GoSem.ClaimJoined
import GoSem.ClaimMapViews
import Derived.JoinedTies
import Derived.KernelRfl
namespace Go.Proofs.Ytdlapnelehehgaa
/- THE CELL 'sum', in the pinned program and in every row, IS THE sha256 OF THE DUMP (.gsa) THAT YtdlapnelehehgaaProg.lean LOADS. Nothing in Lean hashes anything: it is a label: what it is worth is what the hold of that sum in a sandbox is worth. -/
noncomputable def Try.pinned : Pinned := { name := "ytdlapnelehehgaa", sum := "94ee0c18bfecf94c6c92adcec5cccd6bdcd67bae85726918ff932d03a3e817ae", checked := Try.checked }
namespace Rows
def none {H : Type} : Left H := { results := [], args := [] }

/-- 'laws.FnCachePut': WHATEVER THE INPUT: true; the input reads as it did. -/
def fnCachePutSpec : ChangeSpec := { name := "fnCachePut", fn := fun _ => fun
  | [d] => { results := [.lit (.bool true)], args := [d] }
  | _ => none }
def fnCachePutRow : OpenClaim := { program := "ytdlapnelehehgaa", sum := "94ee0c18bfecf94c6c92adcec5cccd6bdcd67bae85726918ff932d03a3e817ae", func := "loop.example/ringoverlay/laws.FnCachePut", spec := "fnCachePut", inPlace := ["slices.overlaps[loop.example/ringoverlay/impl.Entry]"], unfollowed := true, recurses := true, apart := false }
def FnCachePutSaid : Prop := fnCachePutRow.holds Try.pinned (OpenSpec.ofChange fnCachePutSpec)

/-- ITS FALSE NEIGHBOUR: 'it returns false'. Refute it at one input. -/
def fnCachePutWrong : ChangeSpec := { name := "fnCachePut", fn := fun _ => fun
  | [d] => { results := [.lit (.bool false)], args := [d] }
  | _ => none }
def FnCachePutWrongFalsely : Prop := fnCachePutRow.holds Try.pinned (OpenSpec.ofChange fnCachePutWrong)

/-- 'laws.FnCacheLife': WHATEVER THE INPUT: true; the input reads as it did. -/
def fnCacheLifeSpec : ChangeSpec := { name := "fnCacheLife", fn := fun _ => fun
  | [d1, d2] => { results := [.lit (.bool true)], args := [d1, d2] }
  | _ => none }
def fnCacheLifeRow : OpenClaim := { program := "ytdlapnelehehgaa", sum := "94ee0c18bfecf94c6c92adcec5cccd6bdcd67bae85726918ff932d03a3e817ae", func := "loop.example/ringoverlay/laws.FnCacheLife", spec := "fnCacheLife", inPlace := ["slices.overlaps[loop.example/ringoverlay/impl.Entry]"], unfollowed := true, recurses := true, apart := false }
def FnCacheLifeSaid : Prop := fnCacheLifeRow.holds Try.pinned (OpenSpec.ofChange fnCacheLifeSpec)

/-- ITS FALSE NEIGHBOUR: 'it returns false'. Refute it at one input. -/
def fnCacheLifeWrong : ChangeSpec := { name := "fnCacheLife", fn := fun _ => fun
  | [d1, d2] => { results := [.lit (.bool false)], args := [d1, d2] }
  | _ => none }
def FnCacheLifeWrongFalsely : Prop := fnCacheLifeRow.holds Try.pinned (OpenSpec.ofChange fnCacheLifeWrong)

/-- 'laws.FnCacheStale': WHATEVER THE INPUT: true; the input reads as it did. -/
def fnCacheStaleSpec : ChangeSpec := { name := "fnCacheStale", fn := fun _ => fun
  | [d] => { results := [.lit (.bool true)], args := [d] }
  | _ => none }
def fnCacheStaleRow : OpenClaim := { program := "ytdlapnelehehgaa", sum := "94ee0c18bfecf94c6c92adcec5cccd6bdcd67bae85726918ff932d03a3e817ae", func := "loop.example/ringoverlay/laws.FnCacheStale", spec := "fnCacheStale", unfollowed := true, recurses := true, apart := false }
def FnCacheStaleSaid : Prop := fnCacheStaleRow.holds Try.pinned (OpenSpec.ofChange fnCacheStaleSpec)

/-- ITS FALSE NEIGHBOUR: 'it returns false'. Refute it at one input. -/
def fnCacheStaleWrong : ChangeSpec := { name := "fnCacheStale", fn := fun _ => fun
  | [d] => { results := [.lit (.bool false)], args := [d] }
  | _ => none }
def FnCacheStaleWrongFalsely : Prop := fnCacheStaleRow.holds Try.pinned (OpenSpec.ofChange fnCacheStaleWrong)

/-- 'laws.FnCacheOthers': WHATEVER THE INPUT: true; the input reads as it did. -/
def fnCacheOthersSpec : ChangeSpec := { name := "fnCacheOthers", fn := fun _ => fun
  | [d] => { results := [.lit (.bool true)], args := [d] }
  | _ => none }
def fnCacheOthersRow : OpenClaim := { program := "ytdlapnelehehgaa", sum := "94ee0c18bfecf94c6c92adcec5cccd6bdcd67bae85726918ff932d03a3e817ae", func := "loop.example/ringoverlay/laws.FnCacheOthers", spec := "fnCacheOthers", inPlace := ["slices.overlaps[loop.example/ringoverlay/impl.Entry]"], unfollowed := true, recurses := true, apart := false }
def FnCacheOthersSaid : Prop := fnCacheOthersRow.holds Try.pinned (OpenSpec.ofChange fnCacheOthersSpec)

/-- ITS FALSE NEIGHBOUR: 'it returns false'. Refute it at one input. -/
def fnCacheOthersWrong : ChangeSpec := { name := "fnCacheOthers", fn := fun _ => fun
  | [d] => { results := [.lit (.bool false)], args := [d] }
  | _ => none }
def FnCacheOthersWrongFalsely : Prop := fnCacheOthersRow.holds Try.pinned (OpenSpec.ofChange fnCacheOthersWrong)

/-- 'laws.FnCacheSize': WHATEVER THE INPUT: true; the input reads as it did. -/
def fnCacheSizeSpec : ChangeSpec := { name := "fnCacheSize", fn := fun _ => fun
  | [d] => { results := [.lit (.bool true)], args := [d] }
  | _ => none }
def fnCacheSizeRow : OpenClaim := { program := "ytdlapnelehehgaa", sum := "94ee0c18bfecf94c6c92adcec5cccd6bdcd67bae85726918ff932d03a3e817ae", func := "loop.example/ringoverlay/laws.FnCacheSize", spec := "fnCacheSize", inPlace := ["slices.overlaps[loop.example/ringoverlay/impl.Entry]"], unfollowed := true, recurses := true, apart := false }
def FnCacheSizeSaid : Prop := fnCacheSizeRow.holds Try.pinned (OpenSpec.ofChange fnCacheSizeSpec)

/-- ITS FALSE NEIGHBOUR: 'it returns false'. Refute it at one input. -/
def fnCacheSizeWrong : ChangeSpec := { name := "fnCacheSize", fn := fun _ => fun
  | [d] => { results := [.lit (.bool false)], args := [d] }
  | _ => none }
def FnCacheSizeWrongFalsely : Prop := fnCacheSizeRow.holds Try.pinned (OpenSpec.ofChange fnCacheSizeWrong)

/-- 'laws.FnCachePutTwice': WHATEVER THE INPUT: true; the input reads as it did. -/
def fnCachePutTwiceSpec : ChangeSpec := { name := "fnCachePutTwice", fn := fun _ => fun
  | [d] => { results := [.lit (.bool true)], args := [d] }
  | _ => none }
def fnCachePutTwiceRow : OpenClaim := { program := "ytdlapnelehehgaa", sum := "94ee0c18bfecf94c6c92adcec5cccd6bdcd67bae85726918ff932d03a3e817ae", func := "loop.example/ringoverlay/laws.FnCachePutTwice", spec := "fnCachePutTwice", inPlace := ["slices.overlaps[loop.example/ringoverlay/impl.Entry]"], unfollowed := true, recurses := true, apart := false }
def FnCachePutTwiceSaid : Prop := fnCachePutTwiceRow.holds Try.pinned (OpenSpec.ofChange fnCachePutTwiceSpec)

/-- ITS FALSE NEIGHBOUR: 'it returns false'. Refute it at one input. -/
def fnCachePutTwiceWrong : ChangeSpec := { name := "fnCachePutTwice", fn := fun _ => fun
  | [d] => { results := [.lit (.bool false)], args := [d] }
  | _ => none }
def FnCachePutTwiceWrongFalsely : Prop := fnCachePutTwiceRow.holds Try.pinned (OpenSpec.ofChange fnCachePutTwiceWrong)

/-- 'laws.FnCacheReplace': WHATEVER THE INPUT: true; the input reads as it did. -/
def fnCacheReplaceSpec : ChangeSpec := { name := "fnCacheReplace", fn := fun _ => fun
  | [d1, d2] => { results := [.lit (.bool true)], args := [d1, d2] }
  | _ => none }
def fnCacheReplaceRow : OpenClaim := { program := "ytdlapnelehehgaa", sum := "94ee0c18bfecf94c6c92adcec5cccd6bdcd67bae85726918ff932d03a3e817ae", func := "loop.example/ringoverlay/laws.FnCacheReplace", spec := "fnCacheReplace", inPlace := ["slices.overlaps[loop.example/ringoverlay/impl.Entry]"], unfollowed := true, recurses := true, apart := false }
def FnCacheReplaceSaid : Prop := fnCacheReplaceRow.holds Try.pinned (OpenSpec.ofChange fnCacheReplaceSpec)

/-- ITS FALSE NEIGHBOUR: 'it returns false'. Refute it at one input. -/
def fnCacheReplaceWrong : ChangeSpec := { name := "fnCacheReplace", fn := fun _ => fun
  | [d1, d2] => { results := [.lit (.bool false)], args := [d1, d2] }
  | _ => none }
def FnCacheReplaceWrongFalsely : Prop := fnCacheReplaceRow.holds Try.pinned (OpenSpec.ofChange fnCacheReplaceWrong)

/-- 'laws.FnCacheDrop': WHATEVER THE INPUT: true; the input reads as it did. -/
def fnCacheDropSpec : ChangeSpec := { name := "fnCacheDrop", fn := fun _ => fun
  | [d1, d2] => { results := [.lit (.bool true)], args := [d1, d2] }
  | _ => none }
def fnCacheDropRow : OpenClaim := { program := "ytdlapnelehehgaa", sum := "94ee0c18bfecf94c6c92adcec5cccd6bdcd67bae85726918ff932d03a3e817ae", func := "loop.example/ringoverlay/laws.FnCacheDrop", spec := "fnCacheDrop", unfollowed := true, recurses := true, apart := false }
def FnCacheDropSaid : Prop := fnCacheDropRow.holds Try.pinned (OpenSpec.ofChange fnCacheDropSpec)

/-- ITS FALSE NEIGHBOUR: 'it returns false'. Refute it at one input. -/
def fnCacheDropWrong : ChangeSpec := { name := "fnCacheDrop", fn := fun _ => fun
  | [d1, d2] => { results := [.lit (.bool false)], args := [d1, d2] }
  | _ => none }
def FnCacheDropWrongFalsely : Prop := fnCacheDropRow.holds Try.pinned (OpenSpec.ofChange fnCacheDropWrong)

/-- 'laws.FnCacheSweep': WHATEVER THE INPUT: true; the input reads as it did. -/
def fnCacheSweepSpec : ChangeSpec := { name := "fnCacheSweep", fn := fun _ => fun
  | [d] => { results := [.lit (.bool true)], args := [d] }
  | _ => none }
def fnCacheSweepRow : OpenClaim := { program := "ytdlapnelehehgaa", sum := "94ee0c18bfecf94c6c92adcec5cccd6bdcd67bae85726918ff932d03a3e817ae", func := "loop.example/ringoverlay/laws.FnCacheSweep", spec := "fnCacheSweep", unfollowed := true, recurses := true, apart := false }
def FnCacheSweepSaid : Prop := fnCacheSweepRow.holds Try.pinned (OpenSpec.ofChange fnCacheSweepSpec)

/-- ITS FALSE NEIGHBOUR: 'it returns false'. Refute it at one input. -/
def fnCacheSweepWrong : ChangeSpec := { name := "fnCacheSweep", fn := fun _ => fun
  | [d] => { results := [.lit (.bool false)], args := [d] }
  | _ => none }
def FnCacheSweepWrongFalsely : Prop := fnCacheSweepRow.holds Try.pinned (OpenSpec.ofChange fnCacheSweepWrong)

/-- 'laws.FnCacheSweepGet': WHATEVER THE INPUT: true; the input reads as it did. -/
def fnCacheSweepGetSpec : ChangeSpec := { name := "fnCacheSweepGet", fn := fun _ => fun
  | [d1, d2] => { results := [.lit (.bool true)], args := [d1, d2] }
  | _ => none }
def fnCacheSweepGetRow : OpenClaim := { program := "ytdlapnelehehgaa", sum := "94ee0c18bfecf94c6c92adcec5cccd6bdcd67bae85726918ff932d03a3e817ae", func := "loop.example/ringoverlay/laws.FnCacheSweepGet", spec := "fnCacheSweepGet", unfollowed := true, recurses := true, apart := false }
def FnCacheSweepGetSaid : Prop := fnCacheSweepGetRow.holds Try.pinned (OpenSpec.ofChange fnCacheSweepGetSpec)

/-- ITS FALSE NEIGHBOUR: 'it returns false'. Refute it at one input. -/
def fnCacheSweepGetWrong : ChangeSpec := { name := "fnCacheSweepGet", fn := fun _ => fun
  | [d1, d2] => { results := [.lit (.bool false)], args := [d1, d2] }
  | _ => none }
def FnCacheSweepGetWrongFalsely : Prop := fnCacheSweepGetRow.holds Try.pinned (OpenSpec.ofChange fnCacheSweepGetWrong)

/-- 'laws.FnExactCacheValid': WHATEVER THE INPUT: true; the input reads as it did. -/
def fnExactCacheValidSpec : ChangeSpec := { name := "fnExactCacheValid", fn := fun _ => fun
  | [d] => { results := [.lit (.bool true)], args := [d] }
  | _ => none }
def fnExactCacheValidRow : OpenClaim := { program := "ytdlapnelehehgaa", sum := "94ee0c18bfecf94c6c92adcec5cccd6bdcd67bae85726918ff932d03a3e817ae", func := "loop.example/ringoverlay/laws.FnExactCacheValid", spec := "fnExactCacheValid", apart := false }
def FnExactCacheValidSaid : Prop := fnExactCacheValidRow.holds Try.pinned (OpenSpec.ofChange fnExactCacheValidSpec)

/-- ITS FALSE NEIGHBOUR: 'it returns false'. Refute it at one input. -/
def fnExactCacheValidWrong : ChangeSpec := { name := "fnExactCacheValid", fn := fun _ => fun
  | [d] => { results := [.lit (.bool false)], args := [d] }
  | _ => none }
def FnExactCacheValidWrongFalsely : Prop := fnExactCacheValidRow.holds Try.pinned (OpenSpec.ofChange fnExactCacheValidWrong)

/-- 'laws.FnExactCacheGet': WHATEVER THE INPUT: true; the input reads as it did. -/
def fnExactCacheGetSpec : ChangeSpec := { name := "fnExactCacheGet", fn := fun _ => fun
  | [d1, d2, d3] => { results := [.lit (.bool true)], args := [d1, d2, d3] }
  | _ => none }
def fnExactCacheGetRow : OpenClaim := { program := "ytdlapnelehehgaa", sum := "94ee0c18bfecf94c6c92adcec5cccd6bdcd67bae85726918ff932d03a3e817ae", func := "loop.example/ringoverlay/laws.FnExactCacheGet", spec := "fnExactCacheGet", unfollowed := true, recurses := true, apart := false }
def FnExactCacheGetSaid : Prop := fnExactCacheGetRow.holds Try.pinned (OpenSpec.ofChange fnExactCacheGetSpec)

/-- ITS FALSE NEIGHBOUR: 'it returns false'. Refute it at one input. -/
def fnExactCacheGetWrong : ChangeSpec := { name := "fnExactCacheGet", fn := fun _ => fun
  | [d1, d2, d3] => { results := [.lit (.bool false)], args := [d1, d2, d3] }
  | _ => none }
def FnExactCacheGetWrongFalsely : Prop := fnExactCacheGetRow.holds Try.pinned (OpenSpec.ofChange fnExactCacheGetWrong)

/- THE SECOND FORM. 'bulk': how many values and letters a reading holds, each counted each time it is reached (what is shared counts as often as it is met; a slice's spare places count too). A statement '..UptoSaid' is the law's where the arguments, and the package variables that the reading takes, are together of bulk at most 1048576: NARROWER than '..Said'. Prove '..Said' where nothing that the law and all that it calls make is longer than what came in: it says more and counts as full. Else prove '..UptoSaid'. A law counts once. -/
mutual
def uptoBulk {H : Type} : DataW H → Nat
  | .lit (.string bytes) => bytes.length + 1
  | .lit _ => 1
  | .nil => 1
  | .ptr d => uptoBulk d + 1
  | .slice elems spare => uptoBulkAll elems + uptoBulkAll spare + 1
  | .agg parts => uptoBulkAll parts + 1
  | .iface _ d => uptoBulk d + 1
  | .map entries => uptoBulkEntries entries + 1
  | .held _ => 1
def uptoBulkAll {H : Type} : List (DataW H) → Nat
  | [] => 0
  | d :: r => uptoBulk d + uptoBulkAll r
def uptoBulkEntries {H : Type} : List (Lit × DataW H) → Nat
  | [] => 0
  | x :: r => uptoBulkEntry x + uptoBulkEntries r
def uptoBulkEntry {H : Type} : Lit × DataW H → Nat
  | (.string bytes, d) => bytes.length + uptoBulk d + 1
  | (_, d) => uptoBulk d + 1
 end
def uptoSmall : (H : Type) → List (DataW H) → Bool := fun _ ds => decide (uptoBulkAll ds ≤ 1048576)
def OpenSpec.upto (s : _root_.Go.ChangeSpec) : _root_.Go.OpenSpec := { _root_.Go.OpenSpec.ofChange s with cond := some uptoSmall }

/-- 'laws.FnCachePut', WHERE WHAT IT READS IS OF BULK AT MOST 1048576: true; the input reads as it did. -/
def fnCachePutUptoRow : OpenClaim := { program := "ytdlapnelehehgaa", sum := "94ee0c18bfecf94c6c92adcec5cccd6bdcd67bae85726918ff932d03a3e817ae", func := "loop.example/ringoverlay/laws.FnCachePut", spec := "fnCachePut", inPlace := ["slices.overlaps[loop.example/ringoverlay/impl.Entry]"], unfollowed := true, recurses := true, apart := false, narrowed := true }
def FnCachePutUptoSaid : Prop := fnCachePutUptoRow.holds Try.pinned (OpenSpec.upto fnCachePutSpec)

/-- 'laws.FnCacheLife', WHERE WHAT IT READS IS OF BULK AT MOST 1048576: true; the input reads as it did. -/
def fnCacheLifeUptoRow : OpenClaim := { program := "ytdlapnelehehgaa", sum := "94ee0c18bfecf94c6c92adcec5cccd6bdcd67bae85726918ff932d03a3e817ae", func := "loop.example/ringoverlay/laws.FnCacheLife", spec := "fnCacheLife", inPlace := ["slices.overlaps[loop.example/ringoverlay/impl.Entry]"], unfollowed := true, recurses := true, apart := false, narrowed := true }
def FnCacheLifeUptoSaid : Prop := fnCacheLifeUptoRow.holds Try.pinned (OpenSpec.upto fnCacheLifeSpec)

/-- 'laws.FnCacheStale', WHERE WHAT IT READS IS OF BULK AT MOST 1048576: true; the input reads as it did. -/
def fnCacheStaleUptoRow : OpenClaim := { program := "ytdlapnelehehgaa", sum := "94ee0c18bfecf94c6c92adcec5cccd6bdcd67bae85726918ff932d03a3e817ae", func := "loop.example/ringoverlay/laws.FnCacheStale", spec := "fnCacheStale", unfollowed := true, recurses := true, apart := false, narrowed := true }
def FnCacheStaleUptoSaid : Prop := fnCacheStaleUptoRow.holds Try.pinned (OpenSpec.upto fnCacheStaleSpec)

/-- 'laws.FnCacheOthers', WHERE WHAT IT READS IS OF BULK AT MOST 1048576: true; the input reads as it did. -/
def fnCacheOthersUptoRow : OpenClaim := { program := "ytdlapnelehehgaa", sum := "94ee0c18bfecf94c6c92adcec5cccd6bdcd67bae85726918ff932d03a3e817ae", func := "loop.example/ringoverlay/laws.FnCacheOthers", spec := "fnCacheOthers", inPlace := ["slices.overlaps[loop.example/ringoverlay/impl.Entry]"], unfollowed := true, recurses := true, apart := false, narrowed := true }
def FnCacheOthersUptoSaid : Prop := fnCacheOthersUptoRow.holds Try.pinned (OpenSpec.upto fnCacheOthersSpec)

/-- 'laws.FnCacheSize', WHERE WHAT IT READS IS OF BULK AT MOST 1048576: true; the input reads as it did. -/
def fnCacheSizeUptoRow : OpenClaim := { program := "ytdlapnelehehgaa", sum := "94ee0c18bfecf94c6c92adcec5cccd6bdcd67bae85726918ff932d03a3e817ae", func := "loop.example/ringoverlay/laws.FnCacheSize", spec := "fnCacheSize", inPlace := ["slices.overlaps[loop.example/ringoverlay/impl.Entry]"], unfollowed := true, recurses := true, apart := false, narrowed := true }
def FnCacheSizeUptoSaid : Prop := fnCacheSizeUptoRow.holds Try.pinned (OpenSpec.upto fnCacheSizeSpec)

/-- 'laws.FnCachePutTwice', WHERE WHAT IT READS IS OF BULK AT MOST 1048576: true; the input reads as it did. -/
def fnCachePutTwiceUptoRow : OpenClaim := { program := "ytdlapnelehehgaa", sum := "94ee0c18bfecf94c6c92adcec5cccd6bdcd67bae85726918ff932d03a3e817ae", func := "loop.example/ringoverlay/laws.FnCachePutTwice", spec := "fnCachePutTwice", inPlace := ["slices.overlaps[loop.example/ringoverlay/impl.Entry]"], unfollowed := true, recurses := true, apart := false, narrowed := true }
def FnCachePutTwiceUptoSaid : Prop := fnCachePutTwiceUptoRow.holds Try.pinned (OpenSpec.upto fnCachePutTwiceSpec)

/-- 'laws.FnCacheReplace', WHERE WHAT IT READS IS OF BULK AT MOST 1048576: true; the input reads as it did. -/
def fnCacheReplaceUptoRow : OpenClaim := { program := "ytdlapnelehehgaa", sum := "94ee0c18bfecf94c6c92adcec5cccd6bdcd67bae85726918ff932d03a3e817ae", func := "loop.example/ringoverlay/laws.FnCacheReplace", spec := "fnCacheReplace", inPlace := ["slices.overlaps[loop.example/ringoverlay/impl.Entry]"], unfollowed := true, recurses := true, apart := false, narrowed := true }
def FnCacheReplaceUptoSaid : Prop := fnCacheReplaceUptoRow.holds Try.pinned (OpenSpec.upto fnCacheReplaceSpec)

/-- 'laws.FnCacheDrop', WHERE WHAT IT READS IS OF BULK AT MOST 1048576: true; the input reads as it did. -/
def fnCacheDropUptoRow : OpenClaim := { program := "ytdlapnelehehgaa", sum := "94ee0c18bfecf94c6c92adcec5cccd6bdcd67bae85726918ff932d03a3e817ae", func := "loop.example/ringoverlay/laws.FnCacheDrop", spec := "fnCacheDrop", unfollowed := true, recurses := true, apart := false, narrowed := true }
def FnCacheDropUptoSaid : Prop := fnCacheDropUptoRow.holds Try.pinned (OpenSpec.upto fnCacheDropSpec)

/-- 'laws.FnCacheSweep', WHERE WHAT IT READS IS OF BULK AT MOST 1048576: true; the input reads as it did. -/
def fnCacheSweepUptoRow : OpenClaim := { program := "ytdlapnelehehgaa", sum := "94ee0c18bfecf94c6c92adcec5cccd6bdcd67bae85726918ff932d03a3e817ae", func := "loop.example/ringoverlay/laws.FnCacheSweep", spec := "fnCacheSweep", unfollowed := true, recurses := true, apart := false, narrowed := true }
def FnCacheSweepUptoSaid : Prop := fnCacheSweepUptoRow.holds Try.pinned (OpenSpec.upto fnCacheSweepSpec)

/-- 'laws.FnCacheSweepGet', WHERE WHAT IT READS IS OF BULK AT MOST 1048576: true; the input reads as it did. -/
def fnCacheSweepGetUptoRow : OpenClaim := { program := "ytdlapnelehehgaa", sum := "94ee0c18bfecf94c6c92adcec5cccd6bdcd67bae85726918ff932d03a3e817ae", func := "loop.example/ringoverlay/laws.FnCacheSweepGet", spec := "fnCacheSweepGet", unfollowed := true, recurses := true, apart := false, narrowed := true }
def FnCacheSweepGetUptoSaid : Prop := fnCacheSweepGetUptoRow.holds Try.pinned (OpenSpec.upto fnCacheSweepGetSpec)

/-- 'laws.FnExactCacheValid', WHERE WHAT IT READS IS OF BULK AT MOST 1048576: true; the input reads as it did. -/
def fnExactCacheValidUptoRow : OpenClaim := { program := "ytdlapnelehehgaa", sum := "94ee0c18bfecf94c6c92adcec5cccd6bdcd67bae85726918ff932d03a3e817ae", func := "loop.example/ringoverlay/laws.FnExactCacheValid", spec := "fnExactCacheValid", apart := false, narrowed := true }
def FnExactCacheValidUptoSaid : Prop := fnExactCacheValidUptoRow.holds Try.pinned (OpenSpec.upto fnExactCacheValidSpec)

/-- 'laws.FnExactCacheGet', WHERE WHAT IT READS IS OF BULK AT MOST 1048576: true; the input reads as it did. -/
def fnExactCacheGetUptoRow : OpenClaim := { program := "ytdlapnelehehgaa", sum := "94ee0c18bfecf94c6c92adcec5cccd6bdcd67bae85726918ff932d03a3e817ae", func := "loop.example/ringoverlay/laws.FnExactCacheGet", spec := "fnExactCacheGet", unfollowed := true, recurses := true, apart := false, narrowed := true }
def FnExactCacheGetUptoSaid : Prop := fnExactCacheGetUptoRow.holds Try.pinned (OpenSpec.upto fnExactCacheGetSpec)

end Rows
end Go.Proofs.Ytdlapnelehehgaa
