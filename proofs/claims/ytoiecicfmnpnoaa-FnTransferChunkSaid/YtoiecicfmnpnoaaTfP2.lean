/- Transfers: the program's new, resumed and acknowledged transfers; valid chunks. -/
import Derived.Test.YtoiecicfmnpnoaaTfP
namespace Go.Proofs.Ytoiecicfmnpnoaa
open Go.RowKit
set_option linter.unusedVariables false

attribute [local go_sem ↓] Go.wp_at_zero Go.wp_at_succ

theorem run_max2p {P : Program} (ts : Array TypeId) (t : TypeId) (k k' : IntKind) (x y : Int) (w : World) : (Builtin.max_ ts t #[.int k x, .int k' y]).run P w = .ok (.int k (max x y)) w := by
  simp [Builtin.max_, Builtin.max2]; omega
attribute [local go_sem ↓] run_max2p




end Go.Proofs.Ytoiecicfmnpnoaa
