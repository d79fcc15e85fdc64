/- Drawing lookups; comparing two slices of numbers in the laws. -/
import Derived.Test.YtblhaccjngjekaaRowsI
import Derived.Deep.RegionWith
namespace Go.Proofs.Ytblhaccjngjekaa
open Go.RowKit
set_option linter.unusedVariables false

attribute [local go_sem ↓] Go.wp_at_zero Go.wp_at_succ


/-- what drawing nodes and a number leaves -/
def OneDrew (q K : Nat) (w : World) (e : Ending) (w' : World) : Prop :=
  ∃ (a : Option Addr) (cap : Nat) (zs : List Int) (id : Int), e = .returned (.tuple #[.slice a zs.length cap, .int .i64 id]) ∧ IntsFrom w' w.heap.size a zs ∧ zs.length ≤ 20 ∧ zs.length ≤ cap ∧ Ready w' q K ∧ w.grownBy w' (some q)


theorem IntsFrom.down {w : World} {base base' : Nat} {a : Option Addr} {zs : List Int} (h : IntsFrom w base a zs) (hb : base' ≤ base) : IntsFrom w base' a zs := by
  rcases h with h0 | ⟨b, off, ha, h1, h2, h3⟩
  · exact .inl h0
  · exact .inr ⟨b, off, ha, by omega, h2, h3⟩

/-- drawn nodes and two drawn numbers -/
def DrewN2 (w : World) (e : Ending) (w' : World) : Prop :=
  ∃ (a : Option Addr) (cap : Nat) (zs : List Int) (x y : Int), e = .returned (.tuple #[.slice a zs.length cap, .int .i64 x, .int .i64 y]) ∧ IntsFrom w' w.heap.size a zs ∧ zs.length ≤ 20 ∧ zs.length ≤ cap ∧ Below w.heap.size w w'





end Go.Proofs.Ytblhaccjngjekaa
