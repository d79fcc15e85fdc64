/- The walks of the laws of safe rings. -/
import Derived.Test.YtndjkokipiikpaaMH
import Derived.Test.YtndjkokipiikpaaMA
namespace Go.Proofs.Ytndjkokipiikpaa
open Go.RowKit
set_option linter.unusedVariables false

/-- a drawn ring -/
def DrewR (w : World) (e : Ending) (w' : World) : Prop :=
  ∃ N cap r, e = .returned (.slice (some ⟨N, 0, none⟩) r.length cap) ∧ RingAt w' (some ⟨N, 0, none⟩) r ∧ r.length ≤ 10 ∧ r.length ≤ cap ∧ Below w.heap.size w w'



theorem cbtw_as (v : Bool) (a x b : Int) (w : World) (hv : btwB a x b = v) :
    Calls Try.prog 38 #[.int .i64 a, .int .i64 x, .int .i64 b] w fun e w' => e = .returned (.bool v) ∧ w = w' := by subst hv; exact cbtw_any a x b w


theorem lhas_as (v : Bool) (a : Option Addr) (len cap : Nat) (zs : List Int) (n : Int) (w : World) (h : IntsAt w a zs) (hz : zs.length = len) (hm : len ≤ maxLen) (hv : hasB zs n = v) :
    Calls Try.prog 71 #[.slice a len cap, .int .i64 n] w fun e w' => e = .returned (.bool v) ∧ w = w' := by subst hv; exact lhas_any a len cap zs n w h hz hm


end Go.Proofs.Ytndjkokipiikpaa
