/- The walks of the laws of safe rings. -/
import Derived.Test.YtfhjmfcdogpbeaaSpoilt2
import Derived.Test.YtfhjmfcdogpbeaaDrawCircle
namespace Go.Proofs.Ytfhjmfcdogpbeaa
open Go.RowKit
set_option linter.unusedVariables false

/-- a drawn ring -/
def DrewR (w : World) (e : Ending) (w' : World) : Prop :=
  ∃ N cap r, e = .returned (.slice (some ⟨N, 0, none⟩) r.length cap) ∧ RingAt w' (some ⟨N, 0, none⟩) r ∧ r.length ≤ 10 ∧ r.length ≤ cap ∧ Below w.heap.size w w'

theorem drawRingSafe (s : Option Addr) (len cap : Nat) (w : World) (h : BytesAt w s len cap) :
    Calls Try.prog 23 #[.slice s len cap] w (DrewR w) := by
  go_enter Try.func23, Try.ntmps23
  go_wp2_with fail
  refine (open_any s len cap w h).mono ?_
  rintro e w0 ⟨rfl, hr0, hb0, hz0⟩
  have HZ := Lib.hid hz0
  clear hz0
  go_wp2_with fail
  refine (spoilt_any w.heap.size 5 w0 (hr0.less (by omega))).mono ?_
  rintro e w1 ⟨N, cap1, F, r, rfl, ho, h1, h2, h10, hr1, hg1⟩
  go_wp2
  go_ret
  have hz := HZ.out
  exact ⟨N, cap1, r, rfl, ho.ring, h10, h1, below_of_grown hb0 (Nat.le_refl _) (by omega) hg1⟩

theorem drawRingPr (s : Option Addr) (len cap : Nat) (w : World) (h : BytesAt w s len cap) :
    Calls Try.prog 16 #[.slice s len cap] w (DrewR w) := by
  go_enter Try.func16, Try.ntmps16
  go_wp2_with fail
  refine (open_any s len cap w h).mono ?_
  rintro e w0 ⟨rfl, hr0, hb0, hz0⟩
  have HZ := Lib.hid hz0
  clear hz0
  go_wp2_with fail
  refine (spoilt_any w.heap.size 5 w0 (hr0.less (by omega))).mono ?_
  rintro e w1 ⟨N, cap1, F, r, rfl, ho, h1, h2, h10, hr1, hg1⟩
  go_wp2
  go_ret
  have hz := HZ.out
  exact ⟨N, cap1, r, rfl, ho.ring, h10, h1, below_of_grown hb0 (Nat.le_refl _) (by omega) hg1⟩

theorem cbtw_as (v : Bool) (a x b : Int) (w : World) (hv : btwB a x b = v) :
    Calls Try.prog 21 #[.int .i64 a, .int .i64 x, .int .i64 b] w fun e w' => e = .returned (.bool v) ∧ w = w' := by subst hv; exact cbtw_any a x b w

set_option maxHeartbeats 2000000 in
theorem safeOrder (s : Option Addr) (len cap : Nat) (z : List Int) (w : World) (h : RowIn .u8 w s len cap z) :
    Calls Try.prog 6 #[.slice s len cap] w fun e w' => e = .returned (.bool true) ∧ Below w.heap.size w w' := by
  have hb := bytes_of_row h
  have hm : len ≤ maxLen := Nat.le_trans hb.1 hb.2.1
  unfold maxLen at hm
  clear h
  by_cases hl : 1048576 < len
  · go_enter Try.func6, Try.ntmps6
    go_wp2
    go_ret
    exact ⟨rfl, Below.refl _ _⟩
  have hlB : decide ((1048576 : Int) < (len : Int)) = false := by simp; omega
  go_enter Try.func6, Try.ntmps6
  go_wp2_with fail
  refine (drawRingSafe s len cap w hb).mono ?_
  rintro e w1 ⟨N, cap1, r, rfl, hr1, h10, hcap, hB1⟩
  have HI := Lib.hid hr1
  have hmx : r.length ≤ maxLen := by unfold maxLen; omega
  have HM := Lib.hid hmx
  clear hr1 hmx hlB
  go_wp2_with fail
  refine (rsafe_any _ _ _ cap1 r w1 HI.out rfl HM.out rfl).mono ?_
  rintro e w2 ⟨rfl, hb2⟩
  go_wp2_with fail
  refine (ssafe_any _ _ cap1 r w2 (HI.out.keepB hb2 (Nat.le_refl _)) rfl HM.out).mono ?_
  rintro e w3 ⟨rfl, hb3⟩
  have hB3 : Below w1.heap.size w1 w3 := hb2.trans (hb3.mono hb2.size)
  have hBw : Below w.heap.size w w3 := hB1.trans (hB3.mono hB1.size)
  cases hs : safeB r
  · go_wp2
    go_ret
    exact ⟨rfl, hBw⟩
  have HS := Lib.hid hs
  have HI3 := Lib.hid (HI.out.keepB hB3 (Nat.le_refl _))
  clear hs
  go_wp2
  go_loopw [6] (fun i wr => ∃ k : Nat, k ≤ r.length ∧ i = .int .i64 k ∧ Same w3 wr) (fun i _ => r.length - (intOf i).toNat)
  case atStart => exact ⟨0, by omega, rfl, Same.refl _⟩
  case round =>
    obtain ⟨k, hk, rfl, hsm⟩ := hrel
    by_cases hlt : k < r.length
    · obtain ⟨b, off, b3, o3, sc, hab, _, _, hsc, _, hc0, hc1, hc2, hx3, hy3, _⟩ := ring_node (HI3.out.keepB (hsm.below _) (Nat.le_refl _)) (safe_rv HS.out) hlt
      injection hab with hab
      injection hab with hbb hoo
      subst hbb hoo
      rw [Nat.zero_add] at hc0 hc1 hc2
      obtain ⟨hp, hz8, h0, h1, hz9⟩ := nd_open (safe_rv HS.out) hlt
      clear hz8 hz9
      have HB : Hid (btwB (gn r k).pos (gt (gn r k).aft 0) (gt (gn r k).aft 1) = true) := by
        show _ = _
        rw [btwB, (ptB_iff _).2 hp, (ptB_iff _).2 h0, (ptB_iff _).2 h1, safe_order HS.out hlt]; rfl
      have i0 : (0 : Int) ≤ (k : Int) := by omega
      have i1 : (k : Int) < (r.length : Int) := by omega
      go_wp2_with fail
      go_quiet ((go_at_call 21; exact Calls.quiet_of_same (calls_flip (cbtw_as _ _ _ _ _ HB.out))))
      go_wp2
      go_roundw
      case rel => exact ⟨k + 1, by omega, by go_num, hsm.drewN _⟩
      case measure => simp [intOf]; omega
    · go_wp2
      go_ret
      exact ⟨rfl, hBw.trans (hsm.below _)⟩
end Go.Proofs.Ytfhjmfcdogpbeaa
