/- Drawing safe rings. -/
import Derived.Test.YtfhjmfcdogpbeaaDrawR
namespace Go.Proofs.Ytfhjmfcdogpbeaa
open Go.RowKit
set_option linter.unusedVariables false

def RingLoop (q K : Nat) (w : World) (k : Nat) (v : Value) (wr : World) : Prop :=
  ∃ N cap F r, v = .slice (some ⟨N, 0, none⟩) r.length cap ∧ RingOwn wr w.heap.size wr.heap.size N r F ∧ r.length ≤ cap ∧ cap ≤ maxLen ∧ safeB r = true ∧ Ready wr q (K + (5 * (24 - k) + 1)) ∧ w.grownBy wr (some q)

set_option maxHeartbeats 2000000 in
theorem ring_any (q K : Nat) (w : World) (h : Ready w q (K + 132)) :
    Calls Try.prog 56 #[.pointer (some ⟨q, 0, none⟩)] w (DrewRing q K w.heap.size w) := by
  have hq := h.lt
  have HR := Lib.hid h
  clear h
  go_enter Try.func56, Try.ntmps56
  go_wp2_with fail
  refine (goodA_any q (K + 121) 3 w (HR.out.less (by omega)) (by omega) (by omega)).mono ?_
  rintro e w1 ⟨g, gc, zs, rfl, hown, hz3, hz10, hr1, hg1, hasc⟩
  have HI := Lib.hid hown.ints
  have HA := Lib.hid hasc
  have HR1 := Lib.hid hr1
  have hcl := hown.cap_le
  clear hown hasc hr1
  go_wp2_with fail
  refine (srnewO_any _ _ gc zs w1 HI.out rfl (by unfold maxLen; omega)).mono ?_
  rintro e w2 ⟨N, c2, F, rfl, ho, h1, h2, hB⟩
  have hnb : newB zs = true := by unfold newB; rw [asc_vld HA.out (by omega) hz10]; simp; omega
  have hnr : newR zs = idR zs := by rw [newR, hnb]; rfl
  have hg2 : w.grownBy w2 (some q) := grown_trans hg1 ⟨hB.os, hB.tape, hB.output, hB.size, fun k hk _ => hB.block k hk⟩
  have hsz := hg1.size
  have h0 : RingLoop q K w 0 (.slice (some ⟨N, 0, none⟩) (newR zs).length c2) w2 := by
    refine ⟨N, c2, F, newR zs, rfl, ho.wide hsz (Nat.le_refl _), h1, h2, ?_, (HR1.out.less (by omega)).below hB (by omega), hg2⟩
    rw [hnr]; exact (ideal_safe HA.out hz3 hz10).1
  have H0 := Lib.hid h0
  clear ho h1 h2 hnb hnr h0 hg2
  go_wp2
  go_loopw [3, 5] (fun v i wr => ∃ k : Nat, k ≤ 24 ∧ i = .int .i64 k ∧ RingLoop q K w k v wr) (fun _ i _ => 24 - (intOf i).toNat)
  case atStart => exact ⟨0, by omega, rfl, H0.out⟩
  case round =>
    obtain ⟨k, hk, rfl, N3, c3, F3, r, rfl, ho3, h31, h32, hs3, hr3, hg3⟩ := hrel
    have HO3 := Lib.hid ho3
    have HC := Lib.hid (And.intro h31 h32)
    have HS := Lib.hid hs3
    have HR3 := Lib.hid hr3
    clear ho3 h31 h32 hs3 hr3
    go_wp2_with fail
    refine (pick_r q (K + 5 * (24 - k)) 24 wr (HR3.out.less (by omega)) (by omega) (by omega)).mono ?_
    rintro e w4 ⟨v, hv0, hv1, rfl, hr4, hk4⟩
    have HO4 := Lib.hid (own_kept HO3.out hk4 hq)
    have HR4 := Lib.hid hr4
    have hg4 : w.grownBy w4 (some q) := grown_trans hg3 hk4.grown
    clear hr4
    by_cases hlt : (k : Int) < v
    · have d0 : decide ((k : Int) < v) = true := by simp; omega
      go_wp2_with fail
      refine (step_any q (K + (5 * (24 - (k + 1)) + 1)) w.heap.size N3 c3 F3 r w4 (HR4.out.less (by omega)) HO4.out hq HS.out HC.out.1 HC.out.2).mono ?_
      rintro e w5 ⟨N5, c5, F5, r5, rfl, ho5, h51, h52, hs5, hr5, hg5⟩
      have HX : Hid (RingLoop q K w (k + 1) (.slice (some ⟨N5, 0, none⟩) r5.length c5) w5) := ⟨N5, c5, F5, r5, rfl, ho5, h51, h52, hs5, hr5, grown_trans hg4 hg5⟩
      clear ho5 h51 h52 hs5 hr5 hg5
      go_wp2
      go_roundw
      case rel => exact ⟨k + 1, by omega, by go_num, HX.out⟩
      case measure => simp [intOf]; omega
    · have d0 : decide ((k : Int) < v) = false := by simp; omega
      go_wp2
      go_ret
      exact ⟨N3, c3, F3, r, rfl, HO4.out, HC.out.1, HC.out.2, HS.out, HR4.out.less (by omega), hg4⟩
end Go.Proofs.Ytfhjmfcdogpbeaa
