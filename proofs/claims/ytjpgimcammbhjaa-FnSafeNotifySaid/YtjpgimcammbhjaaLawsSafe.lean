/- The walks of the laws of safe rings. -/
import Derived.Test.YtjpgimcammbhjaaMH
import Derived.Test.YtjpgimcammbhjaaMA
namespace Go.Proofs.Ytjpgimcammbhjaa
open Go.RowKit
set_option linter.unusedVariables false

/-- a drawn ring -/
def DrewR (w : World) (e : Ending) (w' : World) : Prop :=
  ∃ N cap r, e = .returned (.slice (some ⟨N, 0, none⟩) r.length cap) ∧ RingAt w' (some ⟨N, 0, none⟩) r ∧ r.length ≤ 10 ∧ r.length ≤ cap ∧ Below w.heap.size w w'





theorem lhas_as (v : Bool) (a : Option Addr) (len cap : Nat) (zs : List Int) (n : Int) (w : World) (h : IntsAt w a zs) (hz : zs.length = len) (hm : len ≤ maxLen) (hv : hasB zs n = v) :
    Calls Try.prog 33 #[.slice a len cap, .int .i64 n] w fun e w' => e = .returned (.bool v) ∧ w = w' := by subst hv; exact lhas_any a len cap zs n w h hz hm


end Go.Proofs.Ytjpgimcammbhjaa
