/- The law of rounds that lead to the ideal ring. -/
import Derived.Test.YtcbbdhmloniolaaLawsCalm
import Derived.Test.YtcbbdhmloniolaaCalmMath4
namespace Go.Proofs.Ytcbbdhmloniolaa
open Go.RowKit
set_option linter.unusedVariables false
attribute [local go_sem ↓] Go.wp_at_zero Go.wp_at_succ
/-- an ideal ring that steps led to is the one that the quiet period leads to -/
theorem ideal_calm {a b : List Nd} (hs : safeB a = true) (h : SetOk a b) (hi : idlB b = true) : b = calmR a := by
  rw [idl_eqR hi, idl_eqR (calm_ideal hs), set_ids h, set_ids (calm_ok hs).1]

set_option maxHeartbeats 4000000 in
theorem calmRounds (s : Option Addr) (len cap : Nat) (z : List Int) (w : World) (h : RowIn .u8 w s len cap z) :
    Calls Try.prog 8 #[.slice s len cap] w fun e w' => e = .returned (.bool true) ∧ Below w.heap.size w w' := by
  have hb := bytes_of_row h
  have hm : len ≤ maxLen := Nat.le_trans hb.1 hb.2.1
  unfold maxLen at hm
  clear h
  by_cases hl : 1048576 < len
  · go_enter Try.func8, Try.ntmps8
    go_wp2
    go_ret
    exact ⟨rfl, Below.refl _ _⟩
  have hlB : decide ((1048576 : Int) < (len : Int)) = false := by simp; omega
  go_enter Try.func8, Try.ntmps8
  go_wp2_with fail
  refine (drawRingCalm s len cap w hb).mono ?_
  rintro e w1 ⟨N, cap1, r, rfl, hr1, h10, hcap, hB1⟩
  have HI := Lib.hid hr1
  have HM : Hid (r.length ≤ maxLen) := by show _ ≤ maxLen; unfold maxLen; omega
  clear hr1 hlB
  obtain ⟨R, hR⟩ : ∃ R, R = calmS r := ⟨_, rfl⟩
  have HSM : Hid (Small R) := by show Small R; rw [hR]; exact small_of (calmS_sz r)
  have HRE := Lib.hid hR
  clear hR
  go_wp2_with fail
  refine (rcalm_any _ _ cap1 r w1 HI.out rfl HM.out).mono ?_
  rw [← HRE.out]
  rintro e w2 ⟨N2, c2, F2, rfl, ho2, hc2, hcm2, hb2⟩
  have O2 := Lib.hid ho2.ring
  clear ho2
  go_wp2_with fail
  refine (srcalm_any _ _ cap1 r w2 (HI.out.keepB hb2 (Nat.le_refl _)) rfl HM.out).mono ?_
  rw [← HRE.out]
  rintro e w3 ⟨N3, c3, F3, rfl, ho3, _, _, hb3⟩
  have O3 := Lib.hid ho3.ring
  clear ho3
  have O2b := Lib.hid (O2.out.keepB hb3 (Nat.le_refl _))
  have hB13 : Below w1.heap.size w1 w3 := hb2.trans (hb3.mono hb2.size)
  go_wp2_with fail
  refine (sameRing_same _ _ _ c2 c3 R w3 O2b.out O3.out rfl HSM.out).mono ?_
  rintro e w4 ⟨rfl, hb4⟩
  have hB14 : Below w1.heap.size w1 w4 := hB13.trans (hb4.mono hB13.size)
  have O4 := Lib.hid (O2b.out.keepB hb4 (Nat.le_refl _))
  have P4 := Lib.hid (O3.out.keepB hb4 (Nat.le_refl _))
  go_wp2_with fail
  refine (ssafe_any _ _ cap1 r w4 (HI.out.keepB hB14 (Nat.le_refl _)) rfl HM.out).mono ?_
  rintro e w5 ⟨rfl, hb5⟩
  have hB15 : Below w1.heap.size w1 w5 := hB14.trans (hb5.mono hB14.size)
  have O5 := Lib.hid (O4.out.keepB hb5 (Nat.le_refl _))
  have P5 := Lib.hid (P4.out.keepB hb5 (Nat.le_refl _))
  have hBw : Below w.heap.size w w5 := hB1.trans (hB15.mono hB1.size)
  have HI5 := Lib.hid (HI.out.keepB hB15 (Nat.le_refl _))
  clear hb2 hb3 hb4 hb5 hB13 hB14 hB15
  rcases bool_cases (safeB r) with hs | hs
  · rw [hs]
    clear hs
    go_wp2_with fail
    refine (sameRing_same _ _ _ c2 c3 R w5 O5.out P5.out rfl HSM.out).mono ?_
    rintro e w6 ⟨rfl, hb6⟩
    go_wp2
    go_ret
    exact ⟨rfl, hBw.trans (hb6.mono hBw.size)⟩
  rw [hs]
  have HS := Lib.hid hs
  clear hs
  have HRL : Hid (R.length = r.length) := by show _ = _; rw [HRE.out, calmS_safe HS.out]; exact (calm_ok HS.out).1.len
  go_wp2
  go_loopw [6, 7] (fun x i wr => ∃ (X : List Nd) (k N6 c6 : Nat), SetOk r X ∧ k + mu3 X ≤ 441 ∧ i = .int .i64 k ∧ x = .slice (some ⟨N6, 0, none⟩) r.length c6 ∧ RingAt wr (some ⟨N6, 0, none⟩) X ∧ Below w5.heap.size w5 wr) (fun _ i _ => 441 - (intOf i).toNat)
  case atStart => exact ⟨r, 0, N, cap1, SetOk.refl HS.out, by have := mu3_le h10; omega, rfl, rfl, HI5.out, Below.refl _ _⟩
  case round =>
    obtain ⟨X, k, N6, c6, hok, hk, rfl, rfl, hx, hbr⟩ := hrel
    have HX := Lib.hid hx
    have HOK := Lib.hid hok
    have HXL : Hid (X.length = r.length) := hok.len
    have HK := Lib.hid hk
    have hk5 : (k : Int) < 500 := by omega
    have hkB : decide ((k : Int) < 500) = true := by simp; omega
    clear hx hok
    rcases bool_cases (idlB X) with hi | hi
    · have HID := Lib.hid hi
      clear hi
      have hlt : Hid (mu3 (rndR X) < mu3 X) := step_mu3 HOK.out.safe HID.out
      have HOK1 : Hid (SetOk r (rndR X)) := HOK.out.trans (rnd_ok HOK.out.safe (Nat.le_refl _))
      have HXL1 : Hid ((rndR X).length = r.length) := HOK1.out.len
      have HRR : Hid (roundR X = rndR X) := roundR_safe HOK.out.safe
      clear hk
      go_wp2_with fail
      refine (ridl_any _ _ c6 X wr HX.out HXL.out HM.out).mono ?_
      rw [HID.out]
      rintro e w6 ⟨rfl, hb6⟩
      have hb56 : Below w5.heap.size w5 w6 := hbr.trans (hb6.mono hbr.size)
      have HX6 := Lib.hid (HX.out.keepB hb6 (Nat.le_refl _))
      clear hb6
      go_wp2_with fail
      refine (rround_any _ _ c6 X w6 HX6.out HXL.out HM.out).mono ?_
      rw [HRR.out]
      rintro e w7 ⟨N7, c7, F7, rfl, ho7, _, _, hb7⟩
      have O7 := Lib.hid ho7.ring
      clear ho7
      have hb57 : Below w5.heap.size w5 w7 := hb56.trans (hb7.mono hb56.size)
      rw [HXL1.out]
      go_wp2
      go_roundw
      case rel => exact ⟨rndR X, k + 1, N7, c7, HOK1.out, by have := hlt.out; have := HK.out; omega, by go_num, rfl, O7.out, hb57⟩
      case measure => have := hlt.out; have := HK.out; simp [intOf]; omega
    · have HID := Lib.hid hi
      have HXE : Hid (X = R) := by show _ = _; rw [HRE.out, calmS_safe HS.out]; exact ideal_calm HS.out HOK.out hi
      clear hi hk
      go_wp2_with fail
      refine (ridl_any _ _ c6 X wr HX.out HXL.out HM.out).mono ?_
      rw [HID.out]
      rintro e w6 ⟨rfl, hb6⟩
      have hb56 : Below w5.heap.size w5 w6 := hbr.trans (hb6.mono hbr.size)
      have HX6 : Hid (RingAt w6 (some ⟨N6, 0, none⟩) R) := by show RingAt _ _ _; have := HX.out.keepB hb6 (Nat.le_refl _); rw [HXE.out] at this; exact this
      have O6 := Lib.hid (O5.out.keepB hb56 (Nat.le_refl _))
      have HB6 := Lib.hid (hBw.trans (hb56.mono hBw.size))
      clear hb6
      go_wp2_with fail
      rw [HRL.out]
      refine (sameRing_same _ _ _ c6 c2 R w6 HX6.out O6.out HRL.out HSM.out).mono ?_
      rintro e w7 ⟨rfl, hb7⟩
      go_wp2
      go_ret
      exact ⟨rfl, HB6.out.trans (hb7.mono HB6.out.size)⟩
end Go.Proofs.Ytcbbdhmloniolaa
