/- The draws of the other steps: a ring and one node or two. -/
import Derived.Test.YtcbbdhmloniolaaDrawS
namespace Go.Proofs.Ytcbbdhmloniolaa
open Go.RowKit
set_option linter.unusedVariables false


set_option maxHeartbeats 1000000 in
theorem drawRingStabilize (s : Option Addr) (len cap : Nat) (w : World) (h : BytesAt w s len cap) :
    Calls Try.prog 27 #[.slice s len cap] w (DrewRI w) := by
  go_enter Try.func27, Try.ntmps27
  go_wp2_with fail
  refine (open_any s len cap w h).mono ?_
  rintro e w0 ⟨rfl, hr0, hb0, hz0⟩
  have HZ := Lib.hid hz0
  clear hz0
  go_wp2_with fail
  refine (bent_any w.heap.size 5 w0 (hr0.less (by omega))).mono ?_
  rintro e w1 ⟨N, cap1, F, r, z, rfl, ho, h10, h1, h2, hr1, hg1⟩
  have HO := Lib.hid ho.ring
  clear ho
  go_wp2
  go_ret2
  have hz := HZ.out
  exact ⟨N, cap1, r, z, rfl, HO.out, h10, h1, h2, below_of_grown hb0 (Nat.le_refl _) (by omega) hg1⟩

/-- a drawn ring and two drawn nodes -/
def DrewRK (w : World) (e : Ending) (w' : World) : Prop :=
  ∃ (N cap : Nat) (r : List Nd) (x y : Int), e = .returned (.tuple #[.slice (some ⟨N, 0, none⟩) r.length cap, .int .i64 x, .int .i64 y]) ∧ RingAt w' (some ⟨N, 0, none⟩) r ∧ r.length ≤ 10 ∧ r.length ≤ cap ∧ cap ≤ maxLen ∧ Below w.heap.size w w'

set_option maxHeartbeats 1000000 in
theorem drawRingCloser (s : Option Addr) (len cap : Nat) (w : World) (h : BytesAt w s len cap) :
    Calls Try.prog 19 #[.slice s len cap] w (DrewRK w) := by
  go_enter Try.func19, Try.ntmps19
  go_wp2_with fail
  refine (open_any s len cap w h).mono ?_
  rintro e w0 ⟨rfl, hr0, hb0, hz0⟩
  have HZ := Lib.hid hz0
  clear hz0
  go_wp2_with fail
  refine (spoilt_any w.heap.size 8 w0 (hr0.less (by omega))).mono ?_
  rintro e w1 ⟨N, cap1, F, r, rfl, ho, h1, h2, h10, hr1, hg1⟩
  have HO := Lib.hid ho
  clear ho
  go_wp2_with fail
  refine (member_any w.heap.size 4 N cap1 w0.heap.size F r w1 hr1 HO.out (by have := HZ.out; omega) h10).mono ?_
  rintro e w2 ⟨x, rfl, hr2, hk2⟩
  have HO2 := Lib.hid (own_kept HO.out hk2 (by have := HZ.out; omega))
  go_wp2_with fail
  refine (member_any w.heap.size 0 N cap1 w0.heap.size F r w2 hr2 HO2.out (by have := HZ.out; omega) h10).mono ?_
  rintro e w3 ⟨y, rfl, hr3, hk3⟩
  have HEND : Hid (DrewRK w (.returned (.tuple #[.slice (some ⟨N, 0, none⟩) r.length cap1, .int .i64 x, .int .i64 y])) w3) := by
    have hz := HZ.out
    have hk' := hk2.trans hk3
    exact ⟨N, cap1, r, x, y, rfl, (own_kept HO.out hk' (by omega)).ring, h10, h1, h2, (below_of_grown hb0 (Nat.le_refl _) (by omega) hg1).trans (hk'.below (Nat.le_refl _))⟩
  go_wp2
  go_ret3
  exact HEND.out

set_option maxHeartbeats 1000000 in
theorem drawRingNotify (s : Option Addr) (len cap : Nat) (w : World) (h : BytesAt w s len cap) :
    Calls Try.prog 12 #[.slice s len cap] w (DrewRK w) := by
  go_enter Try.func12, Try.ntmps12
  go_wp2_with fail
  refine (drawRingCloser s len cap w h).mono ?_
  rintro e w1 ⟨N, cap1, r, x, y, rfl, hr, h10, h1, h2, hB⟩
  have HR := Lib.hid hr
  clear hr
  go_wp2
  go_ret3
  exact ⟨N, cap1, r, x, y, rfl, HR.out, h10, h1, h2, hB⟩

end Go.Proofs.Ytcbbdhmloniolaa
