/- What dropping writes. -/
import Derived.Test.YtcbbdhmloniolaaLawsDrop
import Derived.Deep.DrawnRows
import Derived.Test.YtcbbdhmloniolaaLawsH
import Derived.Test.YtcbbdhmloniolaaDrawS
namespace Go.Proofs.Ytcbbdhmloniolaa
open Go.RowKit
set_option linter.unusedVariables false

attribute [local go_sem ↓] Go.wp_at_zero Go.wp_at_succ

theorem cell_lt2 {w : World} {p : Addr} {v : Value} (h : w.cell? p = some v) : p.block < w.heap.size := by
  rcases Nat.lt_or_ge p.block w.heap.size with hlt | hge
  · exact hlt
  · exfalso
    have hn : w.heap[p.block]? = none := Array.getElem?_eq_none hge
    simp [World.cell?, hn] at h
theorem bcell2 {w w' : World} {a : Addr} {v : Value} (h : Below w.heap.size w w') (hc : w.cell? a = some v) : w'.cell? a = some v := by rw [h.cell (cell_lt2 hc)]; exact hc


end Go.Proofs.Ytcbbdhmloniolaa
