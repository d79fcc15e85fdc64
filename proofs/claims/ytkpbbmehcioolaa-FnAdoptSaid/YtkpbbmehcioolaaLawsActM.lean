/- What the laws of single steps share. -/
import Derived.Test.YtkpbbmehcioolaaLawsDrop2
import Derived.Test.YtkpbbmehcioolaaNwRing
import Derived.Test.YtkpbbmehcioolaaLawsSafe2
namespace Go.Proofs.Ytkpbbmehcioolaa
open Go.RowKit
set_option linter.unusedVariables false

theorem fieldId (v b : Int) (a : Option Addr) (l c : Nat) (w : World) : (Instr.field 31 (.agg #[.int .i64 v, .int .i64 b, .slice a l c]) 0).run Try.prog w = .ok (.int .i64 v) w := by kernel_rfl
theorem fieldAft (v b : Int) (a : Option Addr) (l c : Nat) (w : World) : (Instr.field 31 (.agg #[.int .i64 v, .int .i64 b, .slice a l c]) 2).run Try.prog w = .ok (.slice a l c) w := by kernel_rfl
end Go.Proofs.Ytkpbbmehcioolaa
