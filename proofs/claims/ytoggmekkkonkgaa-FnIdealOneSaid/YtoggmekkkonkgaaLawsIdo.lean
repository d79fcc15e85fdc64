/- The law of the one ideal ring. -/
import Derived.Test.YtoggmekkkonkgaaLawsH
import Derived.Test.YtoggmekkkonkgaaNwCalm
import Derived.Test.YtoggmekkkonkgaaLawsSafe
import Derived.Test.YtoggmekkkonkgaaIdealMath
import Derived.Test.YtoggmekkkonkgaaSameB
import Derived.Test.YtoggmekkkonkgaaNwRing
import Derived.Test.YtoggmekkkonkgaaLawsId
namespace Go.Proofs.Ytoggmekkkonkgaa
open Go.RowKit
set_option linter.unusedVariables false
attribute [local go_sem ↓] Go.wp_at_zero Go.wp_at_succ

theorem vld_asc2 {zs : List Int} (h : AscP zs) (h1 : 1 ≤ zs.length) (h10 : zs.length ≤ 10) : vldB zs = true := by
  refine vld_yes h1 h10 ?_
  have key : ∀ k, k ≤ zs.length → ascTo zs k = true := by
    intro k
    induction k with
    | zero => intro _; rfl
    | succ k ih =>
      intro hk
      rw [ascTo, ih (by omega), Bool.true_and]
      have h2 := (ptB_iff _).2 (h.1 k (by omega))
      rcases k with _ | j
      · simp [okAt, h2]
      · have h3 := h.2 j (by omega)
        simp [okAt, h2]; exact h3
  exact key _ (Nat.le_refl _)
theorem sameR_comm (a b : List Nd) : sameR a b = sameR b a := by
  rw [Bool.eq_iff_iff]
  constructor
  · intro e; rw [same_eq2 e]; exact same_refl b
  · intro e; rw [same_eq2 e]; exact same_refl a
theorem one_idl (r : List Nd) : idlB r = (newB (idsV r) && sameR (newR (idsV r)) r) := by
  cases hv : rvB r
  · have e : idsV r = [] := by unfold idsV; rw [hv]; rfl
    have e2 : newB [] = false := by unfold newB; simp
    rw [e, e2]; unfold idlB; rw [hv]; rfl
  · have e : idsV r = idsOf r := by unfold idsV; rw [hv]; rfl
    have h10 := rv_len hv
    rw [e]
    by_cases h3 : 3 ≤ r.length
    · have e2 : newB (idsOf r) = true := by
        unfold newB
        rw [vld_asc2 (ids_asc hv) (by rw [ids_len]; omega) (by rw [ids_len]; exact h10), ids_len]
        simpa using h3
      have e3 : newR (idsOf r) = idR (idsOf r) := by unfold newR; rw [e2]; rfl
      rw [e2, e3, sameR_comm]
      unfold idlB; rw [hv]; simp [h3]
    · have e2 : newB (idsOf r) = false := by unfold newB; rw [ids_len]; simp [h3]
      rw [e2]; unfold idlB; simp [h3]

set_option maxHeartbeats 4000000 in
theorem idealOne (s : Option Addr) (len cap : Nat) (z : List Int) (w : World) (h : RowIn .u8 w s len cap z) :
    Calls Try.prog 4 #[.slice s len cap] w fun e w' => e = .returned (.bool true) ∧ Below w.heap.size w w' := by
  have hb := bytes_of_row h
  have hm : len ≤ maxLen := Nat.le_trans hb.1 hb.2.1
  unfold maxLen at hm
  clear h
  by_cases hl : 1048576 < len
  · go_enter Try.func4, Try.ntmps4
    go_wp2
    go_ret
    exact ⟨rfl, Below.refl _ _⟩
  have hlB : decide ((1048576 : Int) < (len : Int)) = false := by simp; omega
  go_enter Try.func4, Try.ntmps4
  go_wp2_with fail
  refine (drawRingIdeal s len cap w hb).mono ?_
  rintro e w1 ⟨N, cap1, r, rfl, hr1, h10, hcap, hB1⟩
  have HI := Lib.hid hr1
  have HM : Hid (r.length ≤ maxLen) := by show _ ≤ maxLen; unfold maxLen; omega
  clear hr1 hlB
  obtain ⟨v, hv⟩ : ∃ v, v = idlB r := ⟨_, rfl⟩
  have HV2 : Hid (idlB r = v) := hv.symm
  have vn : (v != v) = false := by simp
  have vv : (v == v) = true := by simp
  clear hv
  go_wp2_with fail
  refine (ridl_any _ _ cap1 r w1 HI.out rfl HM.out).mono ?_
  rw [HV2.out]
  rintro e w2 ⟨rfl, hb2⟩
  have HI2 := Lib.hid (HI.out.keepB hb2 (Nat.le_refl _))
  go_wp2_with fail
  refine (sridl_any _ _ cap1 r w2 HI2.out rfl HM.out).mono ?_
  rw [HV2.out]
  rintro e w3 ⟨rfl, hb3⟩
  have HI3 := Lib.hid (HI2.out.keepB hb3 (Nat.le_refl _))
  have hB3 : Below w.heap.size w w3 := hB1.trans ((hb2.trans (hb3.mono hb2.size)).mono hB1.size)
  clear hb2 hb3
  obtain ⟨Z, hZ⟩ : ∃ Z, Z = idsV r := ⟨_, rfl⟩
  obtain ⟨R, hR⟩ : ∃ R, R = newR Z := ⟨_, rfl⟩
  obtain ⟨ok, hok⟩ : ∃ ok, ok = newB Z := ⟨_, rfl⟩
  have HZL : Hid (Z.length ≤ maxLen) := by show _ ≤ _; rw [hZ]; unfold maxLen; unfold idsV; split <;> simp [ids_len]; omega
  have HRL : Hid (R.length ≤ maxLen) := by
    show _ ≤ _
    rw [hR, hZ]; unfold maxLen; unfold newR idsV; split <;> split <;> simp [idR_len, ids_len]
    all_goals omega
  have HOK : Hid ((ok && sameR R r) = v) := by show _ = _; rw [← HV2.out, one_idl r, hok, hR, hZ]
  have HZE := Lib.hid hZ
  have HRE := Lib.hid hR
  have HOE := Lib.hid hok
  clear hZ hR hok
  go_wp2_with fail
  refine (rids_any _ _ cap1 r w3 HI3.out rfl HM.out).mono ?_
  rw [← HZE.out]
  rintro e w4 ⟨g4, c4, rfl, ho4, hb4⟩
  have I4 := Lib.hid ho4.ints
  have HI4 := Lib.hid (HI3.out.keepB hb4 (Nat.le_refl _))
  have hB4 : Below w.heap.size w w4 := hB3.trans (hb4.mono hB3.size)
  clear ho4 hb4
  go_wp2_with fail
  refine (rnew_any _ _ c4 Z w4 I4.out rfl HZL.out).mono ?_
  rw [← HRE.out, ← HOE.out]
  rintro e w5 ⟨N5, c5, F5, rfl, ho5, _, _, hb5⟩
  have O5 := Lib.hid ho5.ring
  have HI5 := Lib.hid (HI4.out.keepB hb5 (Nat.le_refl _))
  have hB5 : Below w.heap.size w w5 := hB4.trans (hb5.mono hB4.size)
  clear ho5 hb5
  rcases bool_cases ok with hk | hk
  · have hv0 : v = false := by rw [← HOK.out, hk]; rfl
    clear vn vv
    subst hk
    subst hv0
    go_wp2
    go_ret
    exact ⟨rfl, hB5⟩
  · have HS : Hid (sameR R r = v) := by show _ = _; rw [← HOK.out, hk]; rfl
    subst hk
    go_wp2_with fail
    refine (sameRing_as v _ _ _ _ c5 cap1 R r w5 O5.out HI5.out rfl rfl HRL.out HM.out HS.out).mono ?_
    rintro e w6 ⟨rfl, hb6⟩
    go_wp2
    go_ret
    exact ⟨rfl, hB5.trans (hb6.mono hB5.size)⟩
end Go.Proofs.Ytoggmekkkonkgaa
