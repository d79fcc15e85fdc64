/- The walks of the exact laws of rings. -/
import Derived.Test.YtcbbdhmloniolaaMarkR
import Derived.Test.YtcbbdhmloniolaaNet2
namespace Go.Proofs.Ytcbbdhmloniolaa
open Go.RowKit
set_option linter.unusedVariables false

theorem small_max {r : List Nd} (h : szR r ≤ 1048576) : r.length ≤ maxLen := by unfold maxLen; have := (small_of h).1; omega
theorem ids_small {r : List Nd} (h : szR r ≤ 1048576) : (idsV r).length ≤ 1048576 := by
  have := (small_of h).1
  unfold idsV; split
  · rw [ids_len]; exact this
  · simp
theorem pr_small {r : List Nd} (h : szR r ≤ 1048576) : (prV r).length ≤ 1048576 := by
  have := (small_of h).1
  have := prTo_len r r.length
  unfold prV prL; split
  · omega
  · simp




end Go.Proofs.Ytcbbdhmloniolaa
