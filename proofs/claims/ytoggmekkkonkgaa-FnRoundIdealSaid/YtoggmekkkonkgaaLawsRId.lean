/- The law of rounds in ideal rings. -/
import Derived.Test.YtoggmekkkonkgaaLawsH
import Derived.Test.YtoggmekkkonkgaaNwCalm
import Derived.Test.YtoggmekkkonkgaaLawsSafe
import Derived.Test.YtoggmekkkonkgaaIdealMath
import Derived.Test.YtoggmekkkonkgaaSameB
import Derived.Test.YtoggmekkkonkgaaNwRing
import Derived.Test.YtoggmekkkonkgaaLawsId
namespace Go.Proofs.Ytoggmekkkonkgaa
open Go.RowKit
set_option linter.unusedVariables false
attribute [local go_sem ↓] Go.wp_at_zero Go.wp_at_succ

theorem drawRound2 (s : Option Addr) (len cap : Nat) (w : World) (h : BytesAt w s len cap) :
    Calls Try.prog 16 #[.slice s len cap] w (DrewR w) := by
  go_enter Try.func16, Try.ntmps16
  go_wp2_with fail
  refine (open_any s len cap w h).mono ?_
  rintro e w0 ⟨rfl, hr0, hb0, hz0⟩
  have HZ := Lib.hid hz0
  clear hz0
  go_wp2_with fail
  refine (spoilt_any w.heap.size 5 w0 (hr0.less (by omega))).mono ?_
  rintro e w1 ⟨N, cap1, F, r, rfl, ho, h1, h2, h10, hr1, hg1⟩
  go_wp2
  go_ret
  have hz := HZ.out
  exact ⟨N, cap1, r, rfl, ho.ring, h10, h1, below_of_grown hb0 (Nat.le_refl _) (by omega) hg1⟩

theorem roundR_safe2 {r : List Nd} (h : safeB r = true) : roundR r = rndR r := by unfold roundR; rw [h]; rfl
theorem set_ids2 {a b : List Nd} (h : SetOk a b) : idsOf b = idsOf a := by
  apply List.ext_getElem (by rw [ids_len, ids_len, h.len])
  intro i h1 h2
  rw [ids_len] at h1 h2
  have e1 := ids_gt h1
  have e2 := ids_gt h2
  rw [gt_get (by rw [ids_len]; exact h1)] at e1
  rw [gt_get (by rw [ids_len]; exact h2)] at e2
  rw [e1, e2, h.pos i h2]
theorem idl_eqR2 {a : List Nd} (h : idlB a = true) : a = idR (idsOf a) := by
  unfold idlB at h
  simp only [Bool.and_eq_true] at h
  exact same_eq2 h.2
/-- a round leaves a safe ring as it was just if it is ideal -/
theorem round_idl {r : List Nd} (h : safeB r = true) : sameR (rndR r) r = idlB r := by
  rw [Bool.eq_iff_iff]
  constructor
  · intro e
    exact calm_idl h (fix_calm h (same_eq2 e))
  · intro e
    have e1 : calmR r = r := by
      conv => rhs; rw [idl_eqR2 e]
      rw [idl_eqR2 (calm_ideal h), set_ids2 (calm_ok h).1]
    have e2 := (calm_ok h).2
    rw [e1] at e2
    rw [e2]; exact same_refl r

set_option maxHeartbeats 4000000 in
theorem roundIdeal (s : Option Addr) (len cap : Nat) (z : List Int) (w : World) (h : RowIn .u8 w s len cap z) :
    Calls Try.prog 5 #[.slice s len cap] w fun e w' => e = .returned (.bool true) ∧ Below w.heap.size w w' := by
  have hb := bytes_of_row h
  have hm : len ≤ maxLen := Nat.le_trans hb.1 hb.2.1
  unfold maxLen at hm
  clear h
  by_cases hl : 1048576 < len
  · go_enter Try.func5, Try.ntmps5
    go_wp2
    go_ret
    exact ⟨rfl, Below.refl _ _⟩
  have hlB : decide ((1048576 : Int) < (len : Int)) = false := by simp; omega
  go_enter Try.func5, Try.ntmps5
  go_wp2_with fail
  refine (drawRound2 s len cap w hb).mono ?_
  rintro e w1 ⟨N, cap1, r, rfl, hr1, h10, hcap, hB1⟩
  have HI := Lib.hid hr1
  have HM : Hid (r.length ≤ maxLen) := by show _ ≤ maxLen; unfold maxLen; omega
  clear hr1 hlB
  obtain ⟨R, hR⟩ : ∃ R, R = roundR r := ⟨_, rfl⟩
  have HSM : Hid (Small R) := by show Small R; rw [hR]; exact small_of (round_sz r)
  have HRE := Lib.hid hR
  clear hR
  go_wp2_with fail
  refine (rround_any _ _ cap1 r w1 HI.out rfl HM.out).mono ?_
  rw [← HRE.out]
  rintro e w2 ⟨N2, c2, F2, rfl, ho2, hc2, hcm2, hb2⟩
  have O2 := Lib.hid ho2.ring
  clear ho2
  go_wp2_with fail
  refine (srround_any _ _ cap1 r w2 (HI.out.keepB hb2 (Nat.le_refl _)) rfl HM.out).mono ?_
  rw [← HRE.out]
  rintro e w3 ⟨N3, c3, F3, rfl, ho3, _, _, hb3⟩
  have O3 := Lib.hid ho3.ring
  clear ho3
  have O2b := Lib.hid (O2.out.keepB hb3 (Nat.le_refl _))
  have hB13 : Below w1.heap.size w1 w3 := hb2.trans (hb3.mono hb2.size)
  go_wp2_with fail
  refine (sameRing_same _ _ _ c2 c3 R w3 O2b.out O3.out rfl HSM.out).mono ?_
  rintro e w4 ⟨rfl, hb4⟩
  have hB14 : Below w1.heap.size w1 w4 := hB13.trans (hb4.mono hB13.size)
  have O4 := Lib.hid (O2b.out.keepB hb4 (Nat.le_refl _))
  have P4 := Lib.hid (O3.out.keepB hb4 (Nat.le_refl _))
  go_wp2_with fail
  refine (ssafe_any _ _ cap1 r w4 (HI.out.keepB hB14 (Nat.le_refl _)) rfl HM.out).mono ?_
  rintro e w5 ⟨rfl, hb5⟩
  have hB15 : Below w1.heap.size w1 w5 := hB14.trans (hb5.mono hB14.size)
  have O5 := Lib.hid (O4.out.keepB hb5 (Nat.le_refl _))
  have P5 := Lib.hid (P4.out.keepB hb5 (Nat.le_refl _))
  have hBw : Below w.heap.size w w5 := hB1.trans (hB15.mono hB1.size)
  have HI5 := Lib.hid (HI.out.keepB hB15 (Nat.le_refl _))
  clear hb2 hb3 hb4 hb5 hB13 hB14 hB15
  rcases bool_cases (safeB r) with hs | hs
  · rw [hs]
    clear hs
    go_wp2_with fail
    refine (sameRing_same _ _ _ c2 c3 R w5 O5.out P5.out rfl HSM.out).mono ?_
    rintro e w6 ⟨rfl, hb6⟩
    go_wp2
    go_ret
    exact ⟨rfl, hBw.trans (hb6.mono hBw.size)⟩
  rw [hs]
  have HRL : Hid (R.length ≤ maxLen) := by show _ ≤ maxLen; have := HSM.out.1; unfold maxLen; omega
  obtain ⟨v, hv⟩ : ∃ v, v = idlB r := ⟨_, rfl⟩
  have HV : Hid (sameR R r = v) := by show _ = _; rw [hv, HRE.out, roundR_safe2 hs]; exact round_idl hs
  have HV2 : Hid (idlB r = v) := hv.symm
  have vv : (v == v) = true := by simp
  clear hs hv
  go_wp2_with fail
  refine (sameRing_as v _ _ _ _ c2 cap1 R r w5 O5.out HI5.out rfl rfl HRL.out HM.out HV.out).mono ?_
  rintro e w6 ⟨rfl, hb6⟩
  go_wp2_with fail
  refine (ridl_any _ _ cap1 r w6 (HI5.out.keepB hb6 (Nat.le_refl _)) rfl HM.out).mono ?_
  rw [HV2.out]
  rintro e w7 ⟨rfl, hb7⟩
  have hB7 : Below w.heap.size w w7 := by
    have h6 := hBw.trans (hb6.mono hBw.size)
    exact h6.trans (hb7.mono h6.size)
  clear hb6 hb7 hBw
  go_wp2
  go_ret
  exact ⟨rfl, hB7⟩
end Go.Proofs.Ytoggmekkkonkgaa
