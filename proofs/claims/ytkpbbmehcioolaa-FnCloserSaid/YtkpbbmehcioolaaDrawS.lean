/- Drawing a ring and a node of it. -/
import Derived.Test.YtkpbbmehcioolaaMH
namespace Go.Proofs.Ytkpbbmehcioolaa
open Go.RowKit
set_option linter.unusedVariables false

/-- what drawing a member leaves -/
def MemPost (q K : Nat) (w : World) (e : Ending) (w' : World) : Prop := ∃ z : Int, e = .returned (.int .i64 z) ∧ Ready w' q K ∧ Kept q w w'

set_option maxHeartbeats 1000000 in
theorem member_any (q K N cap : Nat) (base : Nat) (F : Nat → Nat) (r : List Nd) (w : World) (hr : Ready w q (K + 4)) (ho : RingOwn w base w.heap.size N r F) (hq : q < base) (h10 : r.length ≤ 10) :
    Calls Try.prog 40 #[.pointer (some ⟨q, 0, none⟩), .slice (some ⟨N, 0, none⟩) r.length cap] w (MemPost q K w) := by
  have HO := Lib.hid ho
  clear ho
  go_enter Try.func40, Try.ntmps40
  go_wp2_with fail
  refine (pick_r q (K + 3) 10 w hr (by omega) (by omega)).mono ?_
  rintro e w1 ⟨v, hv0, hv1, rfl, hr1, hk1⟩
  rcases bool_cases (v == 0) with hz | hz
  · rcases bool_cases ((r.length : Int) == 0) with hl | hl
    · have hpos : 1 ≤ r.length := by rcases Nat.eq_zero_or_pos r.length with h | h; rw [h] at hl; simp at hl; exact h
      go_wp2_with fail
      refine (pick_r q K (r.length : Int) w1 (hr1.less (by omega)) (by omega) (by omega)).mono ?_
      rintro e w2 ⟨u, hu0, hu1, rfl, hr2, hk2⟩
      obtain ⟨j, rfl⟩ := Int.eq_ofNat_of_zero_le hu0
      have hj : j < r.length := by omega
      have hc := own_pos (own_kept (own_kept HO.out hk1 hq) hk2 hq) hj
      have hN : N < w2.heap.size := block_of hc
      go_wp2
      go_ret
      exact ⟨_, rfl, hr2, hk1.trans hk2⟩
    · go_wp2_with fail
      refine (point_r q K w1 (hr1.less (by omega))).mono ?_
      rintro e w2 ⟨u, _, _, rfl, hr2, hk2⟩
      go_wp2
      go_ret
      exact ⟨u, rfl, hr2, hk1.trans hk2⟩
  · go_wp2_with fail
    refine (point_r q K w1 (hr1.less (by omega))).mono ?_
    rintro e w2 ⟨u, _, _, rfl, hr2, hk2⟩
    go_wp2
    go_ret
    exact ⟨u, rfl, hr2, hk1.trans hk2⟩

/-- a ring and a position -/
def DrewRI (w : World) (e : Ending) (w' : World) : Prop :=
  ∃ (N cap : Nat) (r : List Nd) (z : Int), e = .returned (.tuple #[.slice (some ⟨N, 0, none⟩) r.length cap, .int .i64 z]) ∧ RingAt w' (some ⟨N, 0, none⟩) r ∧ r.length ≤ 10 ∧ r.length ≤ cap ∧ cap ≤ maxLen ∧ Below w.heap.size w w'

set_option maxHeartbeats 1000000 in
theorem drawRingFail (s : Option Addr) (len cap : Nat) (w : World) (h : BytesAt w s len cap) :
    Calls Try.prog 32 #[.slice s len cap] w (DrewRI w) := by
  go_enter Try.func32, Try.ntmps32
  go_wp2_with fail
  refine (open_any s len cap w h).mono ?_
  rintro e w0 ⟨rfl, hr0, hb0, hz0⟩
  have HZ := Lib.hid hz0
  clear hz0
  go_wp2_with fail
  refine (spoilt_any w.heap.size 5 w0 (hr0.less (by omega))).mono ?_
  rintro e w1 ⟨N, cap1, F, r, rfl, ho, h1, h2, h10, hr1, hg1⟩
  have HO := Lib.hid ho
  clear ho
  go_wp2_with fail
  refine (member_any w.heap.size 1 N cap1 w0.heap.size F r w1 hr1 HO.out (by have := HZ.out; omega) h10).mono ?_
  rintro e w2 ⟨z, rfl, hr2, hk2⟩
  go_wp2
  go_ret2
  have hz := HZ.out
  exact ⟨N, cap1, r, z, rfl, (own_kept HO.out hk2 (by omega)).ring, h10, h1, h2, (below_of_grown hb0 (Nat.le_refl _) (by omega) hg1).trans (hk2.below (Nat.le_refl _))⟩

/-- what l91Bent leaves -/
def BentPost (q K : Nat) (w : World) (e : Ending) (w' : World) : Prop :=
  ∃ (N cap : Nat) (F : Nat → Nat) (r : List Nd) (z : Int), e = .returned (.tuple #[.slice (some ⟨N, 0, none⟩) r.length cap, .int .i64 z]) ∧ RingOwn w' w.heap.size w'.heap.size N r F ∧ r.length ≤ 10 ∧ r.length ≤ cap ∧ cap ≤ maxLen ∧ Ready w' q K ∧ w.grownBy w' (some q)


end Go.Proofs.Ytkpbbmehcioolaa
