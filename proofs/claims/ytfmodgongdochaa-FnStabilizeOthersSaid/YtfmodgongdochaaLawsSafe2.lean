/- The walks of the laws of safe rings: live successors. -/
import Derived.Test.YtfmodgongdochaaLawsSafe
namespace Go.Proofs.Ytfmodgongdochaa
open Go.RowKit
set_option linter.unusedVariables false

/-- what nodeAt tells -/
def idAt (r : List Nd) (i : Int) : Int := if liveB r i then i else -1
def NodeAtPost (r : List Nd) (i : Int) (w : World) (e : Ending) (w' : World) : Prop :=
  ∃ (b : Int) (a : Option Addr) (l c : Nat), e = .returned (.agg #[.int .i64 (idAt r i), .int .i64 b, .slice a l c]) ∧ Below w.heap.size w w'


theorem field_id (v b : Int) (a : Option Addr) (l c : Nat) (w : World) : (Instr.field 31 (.agg #[.int .i64 v, .int .i64 b, .slice a l c]) 0).run Try.prog w = .ok (.int .i64 v) w := by kernel_rfl

end Go.Proofs.Ytfmodgongdochaa
