/- The draws of the other steps: a ring and one node or two. -/
import Derived.Test.YtfmodgongdochaaDrawS
namespace Go.Proofs.Ytfmodgongdochaa
open Go.RowKit
set_option linter.unusedVariables false


set_option maxHeartbeats 1000000 in
theorem drawRingStabilize (s : Option Addr) (len cap : Nat) (w : World) (h : BytesAt w s len cap) :
    Calls Try.prog 4 #[.slice s len cap] w (DrewRI w) := by
  go_enter Try.func4, Try.ntmps4
  go_wp2_with fail
  refine (open_any s len cap w h).mono ?_
  rintro e w0 ⟨rfl, hr0, hb0, hz0⟩
  have HZ := Lib.hid hz0
  clear hz0
  go_wp2_with fail
  refine (bent_any w.heap.size 5 w0 (hr0.less (by omega))).mono ?_
  rintro e w1 ⟨N, cap1, F, r, z, rfl, ho, h10, h1, h2, hr1, hg1⟩
  have HO := Lib.hid ho.ring
  clear ho
  go_wp2
  go_ret2
  have hz := HZ.out
  exact ⟨N, cap1, r, z, rfl, HO.out, h10, h1, h2, below_of_grown hb0 (Nat.le_refl _) (by omega) hg1⟩

/-- a drawn ring and two drawn nodes -/
def DrewRK (w : World) (e : Ending) (w' : World) : Prop :=
  ∃ (N cap : Nat) (r : List Nd) (x y : Int), e = .returned (.tuple #[.slice (some ⟨N, 0, none⟩) r.length cap, .int .i64 x, .int .i64 y]) ∧ RingAt w' (some ⟨N, 0, none⟩) r ∧ r.length ≤ 10 ∧ r.length ≤ cap ∧ cap ≤ maxLen ∧ Below w.heap.size w w'



end Go.Proofs.Ytfmodgongdochaa
