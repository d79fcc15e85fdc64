/- What the laws of single steps share. -/
import Derived.Test.YtcbbdhmloniolaaLawsDrop2
import Derived.Test.YtcbbdhmloniolaaNwRing
import Derived.Test.YtcbbdhmloniolaaLawsSafe2
namespace Go.Proofs.Ytcbbdhmloniolaa
open Go.RowKit
set_option linter.unusedVariables false

theorem fieldId (v b : Int) (a : Option Addr) (l c : Nat) (w : World) : (Instr.field 28 (.agg #[.int .i64 v, .int .i64 b, .slice a l c]) 0).run Try.prog w = .ok (.int .i64 v) w := by kernel_rfl
theorem fieldAft (v b : Int) (a : Option Addr) (l c : Nat) (w : World) : (Instr.field 28 (.agg #[.int .i64 v, .int .i64 b, .slice a l c]) 2).run Try.prog w = .ok (.slice a l c) w := by kernel_rfl
end Go.Proofs.Ytcbbdhmloniolaa
