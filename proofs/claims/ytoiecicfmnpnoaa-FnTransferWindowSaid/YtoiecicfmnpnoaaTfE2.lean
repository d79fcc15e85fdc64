/- Transfers and chunks: the laws' copies. -/
import Derived.Test.YtoiecicfmnpnoaaTfE
namespace Go.Proofs.Ytoiecicfmnpnoaa
open Go.RowKit
set_option linter.unusedVariables false

attribute [local go_sem ↓] Go.wp_at_zero Go.wp_at_succ

/-- a row in a block of its own -/
def RowAt (w : World) (base : Nat) (g : Nat) (zs : List Int) : Prop := RowOf w g zs ∧ base ≤ g
theorem RowOf.kept' {w w' : World} {g : Nat} {zs : List Int} (h : RowOf w g zs) (e : w'.heap[g]? = w.heap[g]?) : RowOf w' g zs := by
  obtain ⟨cs, hc, rest⟩ := h
  exact ⟨cs, e.trans hc, rest⟩
theorem RowOf.lt' {w : World} {g : Nat} {zs : List Int} (h : RowOf w g zs) : g < w.heap.size := by
  obtain ⟨cs, hc, rest⟩ := h
  exact heap_lt hc


end Go.Proofs.Ytoiecicfmnpnoaa
