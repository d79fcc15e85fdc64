/- The draw of a ring, a position and a node: DrawRingJoin. -/
import Derived.Test.YtndjkokipiikpaaDrawS
namespace Go.Proofs.Ytndjkokipiikpaa
open Go.RowKit
set_option linter.unusedVariables false

def DrewRJ (w : World) (e : Ending) (w' : World) : Prop :=
  ∃ (N cap : Nat) (r : List Nd) (x y : Int), e = .returned (.tuple #[.slice (some ⟨N, 0, none⟩) r.length cap, .int .i64 x, .int .i64 y]) ∧ RingAt w' (some ⟨N, 0, none⟩) r ∧ r.length ≤ 10 ∧ r.length ≤ cap ∧ cap ≤ maxLen ∧ Below w.heap.size w w'

set_option maxHeartbeats 1000000 in
theorem drawRingJoin (s : Option Addr) (len cap : Nat) (w : World) (h : BytesAt w s len cap) :
    Calls Try.prog 21 #[.slice s len cap] w (DrewRJ w) := by
  have h64 : ¬ (64 : Int) = 0 := by decide
  go_enter Try.func21, Try.ntmps21
  go_wp2_with fail
  refine (open_any s len cap w h).mono ?_
  rintro e w0 ⟨rfl, hr0, hb0, hz0⟩
  have HZ := Lib.hid hz0
  clear hz0
  go_wp2_with fail
  refine (spoilt_any w.heap.size 8 w0 (hr0.less (by omega))).mono ?_
  rintro e w1 ⟨N, cap1, F, r, rfl, ho, h1, h2, h10, hr1, hg1⟩
  have HO := Lib.hid ho
  clear ho
  go_wp2_with fail
  refine (member_any w.heap.size 4 N cap1 w0.heap.size F r w1 hr1 HO.out (by have := HZ.out; omega) h10).mono ?_
  rintro e w2 ⟨z, rfl, hr2, hk2⟩
  have HEND : Hid (∀ w' x, Kept w.heap.size w2 w' → DrewRJ w (.returned (.tuple #[.slice (some ⟨N, 0, none⟩) r.length cap1, .int .i64 x, .int .i64 z])) w') := fun w' x hk => by
    have hz := HZ.out
    have hk' := hk2.trans hk
    exact ⟨N, cap1, r, x, z, rfl, (own_kept HO.out hk' (by omega)).ring, h10, h1, h2, (below_of_grown hb0 (Nat.le_refl _) (by omega) hg1).trans (hk'.below (Nat.le_refl _))⟩
  go_wp2_with fail
  all_goals
    refine (pick_r w.heap.size 3 12 w2 hr2 (by omega) (by omega)).mono ?_
    rintro e w3 ⟨v, hv0, hv1, rfl, hr3, hk3⟩
    go_wp2_with fail
    refine (pick_r w.heap.size 2 10 w3 hr3 (by omega) (by omega)).mono ?_
    rintro e w4 ⟨u, hu0, hu1, rfl, hr4, hk4⟩
    by_cases hu : u = 0
    · subst hu
      go_wp2_with fail
      refine (point_r w.heap.size 0 w4 hr4).mono ?_
      rintro e w5 ⟨x, hx0, hx1, rfl, hr5, hk5⟩
      go_wp2
      go_ret3
      exact HEND.out _ _ ((hk3.trans hk4).trans hk5)
    · go_wp2
      go_ret3
      exact HEND.out _ _ (hk3.trans hk4)

end Go.Proofs.Ytndjkokipiikpaa
