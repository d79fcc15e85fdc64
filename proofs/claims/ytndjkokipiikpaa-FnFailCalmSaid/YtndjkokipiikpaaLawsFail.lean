/- The laws of failing. -/
import Derived.Test.YtndjkokipiikpaaNwFail
import Derived.Test.YtndjkokipiikpaaNwCalm
import Derived.Test.YtndjkokipiikpaaLawsH
import Derived.Test.YtndjkokipiikpaaDrawS
namespace Go.Proofs.Ytndjkokipiikpaa
open Go.RowKit
set_option linter.unusedVariables false

theorem prV_of2 {r : List Nd} (h : rvB r = true) : prV r = prL r := by unfold prV; rw [if_pos h]
/-- a node of the cut ring -/
theorem cut_mem {r : List Nd} {k : Nat} (hk : k < r.length) {i : Nat} (hi : i < (cutR r k).length) : ∃ j, j < r.length ∧ j ≠ k ∧ gn (cutR r k) i = gn r j := by
  have hl := cut_len (r := r) hk
  rw [cut_at hk (by omega)]
  by_cases h1 : i < k
  · rw [if_pos h1]; exact ⟨i, by omega, by omega, rfl⟩
  · rw [if_neg h1]; exact ⟨i + 1, by omega, by omega, rfl⟩
theorem cut_of {r : List Nd} {k j : Nat} (hk : k < r.length) (hj : j < r.length) (hne : j ≠ k) : ∃ i, i < (cutR r k).length ∧ gn (cutR r k) i = gn r j := by
  have hl := cut_len (r := r) hk
  by_cases h1 : j < k
  · exact ⟨j, by omega, by rw [cut_at hk (by omega), if_pos h1]⟩
  · exact ⟨j - 1, by omega, by rw [cut_at hk (by omega), if_neg (by omega), show j - 1 + 1 = j by omega]⟩
theorem cut_dead {r : List Nd} {k : Nat} (hv : rvB r = true) (hk : k < r.length) : liveB (cutR r k) (gn r k).pos = false := by
  refine (live_no _ _).2 fun i hi e => ?_
  obtain ⟨j, hj, hne, he⟩ := cut_mem hk hi
  rw [he] at e
  exact hne (rv_inj hv hj hk e)
theorem cut_keepP {r : List Nd} {k : Nat} (hv : rvB r = true) (hk : k < r.length) : KeepP r (cutR r k) := fun x hx hl => by
  rw [prV_of2 hv] at hx
  rw [prV_of2 (cut_rv hv hk)]
  obtain ⟨h1, h2⟩ := (mem_pr _ _).1 hx
  refine (mem_pr _ _).2 ⟨hl, (skd_no _ _).2 fun i hi => ?_⟩
  obtain ⟨j, hj, _, he⟩ := cut_mem hk hi
  rw [he]; exact (skd_no _ _).1 h2 j hj
theorem ridl_as (v : Bool) (a : Option Addr) (len cap : Nat) (r : List Nd) (w : World) (h : RingAt w a r) (hz : r.length = len) (hm : len ≤ maxLen) (hv : idlB r = v) :
    Calls Try.prog 40 #[.slice a len cap] w fun e w' => e = .returned (.bool v) ∧ Below w.heap.size w w' := by subst hv; exact ridl_any a len cap r w h hz hm

set_option maxHeartbeats 4000000 in
theorem failCalm (s : Option Addr) (len cap : Nat) (z : List Int) (w : World) (h : RowIn .u8 w s len cap z) :
    Calls Try.prog 11 #[.slice s len cap] w fun e w' => e = .returned (.bool true) ∧ Below w.heap.size w w' := by
  have hb := bytes_of_row h
  have hm : len ≤ maxLen := Nat.le_trans hb.1 hb.2.1
  unfold maxLen at hm
  clear h
  by_cases hl : 1048576 < len
  · go_enter Try.func11, Try.ntmps11
    go_wp2
    go_ret
    exact ⟨rfl, Below.refl _ _⟩
  have hlB : decide ((1048576 : Int) < (len : Int)) = false := by simp; omega
  go_enter Try.func11, Try.ntmps11
  go_wp2_with fail
  refine (drawRingFail s len cap w hb).mono ?_
  rintro e w1 ⟨N, cap1, r, i, rfl, hr1, h10, hcap, hcm, hB1⟩
  have HI := Lib.hid hr1
  have hmx : r.length ≤ maxLen := by unfold maxLen; omega
  have HM := Lib.hid hmx
  have HIM0 := fun w0 (h : RingAt w0 (some ⟨N, 0, none⟩) r) (hm : r.length ≤ maxLen) => rfail_any _ _ cap1 i r w0 h rfl hm
  have HSP0 := fun w0 (h : RingAt w0 (some ⟨N, 0, none⟩) r) (hm : r.length ≤ maxLen) (hc : r.length ≤ cap1) (hcm : cap1 ≤ maxLen) => sfail_any _ _ cap1 i r w0 h rfl hc hcm
  have HSR0 : szR (failR r i) ≤ 1048576 := fail_sz r i
  obtain ⟨R, hR⟩ : ∃ R, R = failR r i := ⟨_, rfl⟩
  obtain ⟨B, hBB⟩ : ∃ B, B = (failB r i) := ⟨_, rfl⟩
  simp only [← hR, ← hBB] at HIM0 HSP0 HSR0
  have HIM := Lib.hid HIM0
  have HSP := Lib.hid HSP0
  have HSR := Lib.hid HSR0
  have HRE := Lib.hid hR
  have HBE := Lib.hid hBB
  have HMR : Hid (R.length ≤ maxLen) := small_max HSR0
  clear hr1 hmx hlB HIM0 HSP0 HSR0 hR hBB
  go_wp2_with fail
  refine (HIM.out w1 HI.out HM.out).mono ?_
  rintro e w2 ⟨N2, c2, F2, rfl, ho2, hc2, hcm2, hb2⟩
  have HO2 := Lib.hid ho2.ring
  clear ho2
  go_wp2_with fail
  refine (HSP.out w2 (HI.out.keepB hb2 (Nat.le_refl _)) HM.out hcap hcm).mono ?_
  rintro e w3 ⟨N3, c3, F3, rfl, ho3, _, _, hb3⟩
  have HO3 := Lib.hid ho3.ring
  clear ho3
  have v1 : (!B == B) = false := by simp
  have v2 : (B == B) = true := by simp
  go_wp2_with fail
  refine (sameRing_same _ _ _ c2 c3 R w3 (HO2.out.keepB hb3 (Nat.le_refl _)) HO3.out rfl (small_of HSR.out)).mono ?_
  rintro e w4 ⟨rfl, hb4⟩
  have hB24 : Below w2.heap.size w2 w4 := hb3.trans (hb4.mono hb3.size)
  have hB14 : Below w1.heap.size w1 w4 := hb2.trans (hB24.mono hb2.size)
  have hBw : Below w.heap.size w w4 := hB1.trans (hB14.mono hB1.size)
  have HI4 := Lib.hid (HI.out.keepB hB14 (Nat.le_refl _))
  have HR4 := Lib.hid (HO2.out.keepB hB24 (Nat.le_refl _))
  rcases bool_cases B with hbv | hbv
  · subst hbv
    go_wp2_with fail
    refine (sameRing_same _ _ _ c2 c3 R w4 HR4.out (HO3.out.keepB hb4 (Nat.le_refl _)) rfl (small_of HSR.out)).mono ?_
    rintro e w5 ⟨rfl, hb5⟩
    go_wp2
    go_ret
    exact ⟨rfl, hBw.trans (hb5.mono hBw.size)⟩
  subst hbv
  clear v1 v2
  have HF : Hid ((oneB r i = true ∧ liveB r i = true) ∧ sfB (cutR r (idxR r i)) = true ∧ R = cutR r (idxR r i)) := by
    have h1 := HBE.out
    unfold failB at h1
    have h2 : (oneB r i = true ∧ liveB r i = true) ∧ sfB (cutR r (idxR r i)) = true := by simpa using h1.symm
    refine ⟨h2.1, h2.2, ?_⟩
    rw [HRE.out]; unfold failR; rw [h2.1.1, h2.1.2, h2.2]; rfl
  have HS := Lib.hid (one_safe HF.out.1.1)
  have HV := Lib.hid (safe_rv HS.out)
  have HK := Lib.hid (idx_live HF.out.1.2)
  have HSAFE : Hid (safeB R = true) := by show _ = _; rw [HF.out.2.2]; unfold safeB; rw [cut_rv HV.out HK.out.1, HF.out.2.1]; rfl
  have HCA : Hid (calmS R = calmR R) := by show _ = _; unfold calmS; rw [HSAFE.out]; rfl
  have HOK := Lib.hid (calm_ok HSAFE.out).1
  have hlen : (calmR R).length = r.length - 1 := by rw [HOK.out.len, HF.out.2.2, cut_len HK.out.1]
  have HLEN := Lib.hid hlen
  clear hlen
  have hpos : 1 ≤ r.length := by have := HK.out.1; omega
  have HID : Hid (idAt (calmR R) i = -1) := by
    show _ = _
    have hd : liveB (calmR R) i = false := by
      rw [live_same HOK.out.len HOK.out.pos, HF.out.2.2]
      have := cut_dead HV.out HK.out.1
      rwa [HK.out.2.1] at this
    unfold idAt; rw [hd]; rfl
  have HIL := Lib.hid (calm_ideal HSAFE.out)
  go_wp2_with fail
  refine (rcalm_any _ _ c2 R w4 HR4.out rfl HMR.out).mono ?_
  rintro e w5 ⟨N5, c5, F5, rfl, ho5, _, _, hb5⟩
  rw [HCA.out] at ho5 ⊢
  have HO5 := Lib.hid ho5.ring
  clear ho5
  have hm5 : (calmR R).length ≤ maxLen := by rw [HLEN.out]; unfold maxLen; omega
  have HM5 := Lib.hid hm5
  clear hm5
  go_wp2_with fail
  refine (ridl_as true _ _ c5 (calmR R) w5 HO5.out rfl HM5.out HIL.out).mono ?_
  rintro e w6 ⟨rfl, hb6⟩
  go_wp2_with fail
  refine (nodeAt_as (-1) _ _ c5 i (calmR R) w6 (HO5.out.keepB hb6 (Nat.le_refl _)) rfl HM5.out HID.out).mono ?_
  rintro e w7 ⟨b7, a7, l7, c7, rfl, hb7⟩
  have hf := field_id (-1) b7 a7 l7 c7
  have vl : (((calmR R).length : Int) == (r.length : Int) - 1) = true := by rw [HLEN.out]; simp; omega
  go_wp2
  go_ret
  exact ⟨rfl, hBw.trans ((hb5.trans ((hb6.trans (hb7.mono hb6.size)).mono hb5.size)).mono hBw.size)⟩

end Go.Proofs.Ytndjkokipiikpaa
