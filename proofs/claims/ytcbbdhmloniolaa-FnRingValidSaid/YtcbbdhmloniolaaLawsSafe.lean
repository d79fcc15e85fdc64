/- The walks of the laws of safe rings. -/
import Derived.Test.YtcbbdhmloniolaaMH
import Derived.Test.YtcbbdhmloniolaaMA
namespace Go.Proofs.Ytcbbdhmloniolaa
open Go.RowKit
set_option linter.unusedVariables false

/-- a drawn ring -/
def DrewR (w : World) (e : Ending) (w' : World) : Prop :=
  ∃ N cap r, e = .returned (.slice (some ⟨N, 0, none⟩) r.length cap) ∧ RingAt w' (some ⟨N, 0, none⟩) r ∧ r.length ≤ 10 ∧ r.length ≤ cap ∧ Below w.heap.size w w'







end Go.Proofs.Ytcbbdhmloniolaa
