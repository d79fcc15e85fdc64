/- The laws of joining. -/
import Derived.Test.YtndjkokipiikpaaLawsFail
import Derived.Test.YtndjkokipiikpaaNwJoin2
import Derived.Test.YtndjkokipiikpaaDrawJ
import Derived.Test.YtndjkokipiikpaaLawsH
import Derived.Test.YtndjkokipiikpaaDrawS
namespace Go.Proofs.Ytndjkokipiikpaa
open Go.RowKit
set_option linter.unusedVariables false

theorem join_skd {r : List Nd} {x y : Int} (ha : arg3 r x y = true) (hb : joinB r x y = true) (p : Int) (hpl : liveB r p = true) (hsk : skB (joinN r x y) p = true) : skdB r p = true := by
  unfold arg3 at ha; unfold joinB at hb
  simp only [Bool.and_eq_true, Bool.not_eq_true', decide_eq_true_eq] at ha hb
  obtain ⟨⟨hs, hx⟩, hy⟩ := ha
  obtain ⟨⟨⟨hly, hlx⟩, hl⟩, hbt⟩ := hb
  have hv := safe_rv hs
  obtain ⟨hi, hip, _⟩ := idx_live hly
  obtain ⟨_, hbf, h0, h1, hal⟩ := nd_open hv hi
  have hxp := (ptB_iff x).1 hx
  have hyp := (ptB_iff y).1 hy
  refine skd_of hi ?_
  have hpp := live_pt hv hpl
  have hsk' : (btwI x p (gt (gn r (idxR r y)).aft 0) || btwI (gt (gn r (idxR r y)).aft 0) p (gt (gn r (idxR r y)).aft 1)) = true := hsk
  unfold first at hbt
  have hpx : p ≠ x := fun e => by rw [e] at hpl; rw [hpl] at hlx; cases hlx
  rw [skB, hip]
  simp only [Bool.or_eq_true, btwI_iff] at hsk' hbt ⊢
  omega
theorem join_keepP {r : List Nd} {x y : Int} (ha : arg3 r x y = true) (hb : joinB r x y = true) : KeepP r (insR r (cntR r x) (joinN r x y)) := fun q hx hl => by
  obtain ⟨hs, h10, hn, ho, hs'⟩ := join_pre ha hb
  have hm := ho.1
  rw [prV_of2 (safe_rv hs)] at hx
  rw [prV_of2 (safe_rv hs')]
  obtain ⟨h1, h2⟩ := (mem_pr _ _).1 hx
  refine (mem_pr _ _).2 ⟨hl, (skd_no _ _).2 fun j hj => ?_⟩
  rw [ins_len hm] at hj
  rcases ins_all (n := joinN r x y) hm hj with e | ⟨i, hi, e⟩
  · rw [e]
    cases hsk : skB (joinN r x y) q
    · rfl
    · rw [join_skd ha hb q h1 hsk] at h2; cases h2
  · rw [e]; exact (skd_no _ _).1 h2 i hi
theorem join_live {r : List Nd} {x y : Int} (ha : arg3 r x y = true) (hb : joinB r x y = true) : liveB (insR r (cntR r x) (joinN r x y)) x = true := by
  have hm := (join_pre ha hb).2.2.2.1.1
  refine (live_iff _ _).2 ⟨cntR r x, by rw [ins_len hm]; omega, ?_⟩
  rw [ins_at hm (by omega), if_neg (by omega), if_pos rfl]; rfl

set_option maxHeartbeats 4000000 in
theorem safeJoin (s : Option Addr) (len cap : Nat) (z : List Int) (w : World) (h : RowIn .u8 w s len cap z) :
    Calls Try.prog 3 #[.slice s len cap] w fun e w' => e = .returned (.bool true) ∧ Below w.heap.size w w' := by
  have hb := bytes_of_row h
  have hm : len ≤ maxLen := Nat.le_trans hb.1 hb.2.1
  unfold maxLen at hm
  clear h
  by_cases hl : 1048576 < len
  · go_enter Try.func3, Try.ntmps3
    go_wp2
    go_ret
    exact ⟨rfl, Below.refl _ _⟩
  have hlB : decide ((1048576 : Int) < (len : Int)) = false := by simp; omega
  go_enter Try.func3, Try.ntmps3
  go_wp2_with fail
  refine (drawRingJoin s len cap w hb).mono ?_
  rintro e w1 ⟨N, cap1, r, x, y, rfl, hr1, h10, hcap, hcm, hB1⟩
  have HI := Lib.hid hr1
  have hmx : r.length ≤ maxLen := by unfold maxLen; omega
  have HM := Lib.hid hmx
  have HIM0 := fun w0 (h : RingAt w0 (some ⟨N, 0, none⟩) r) (hm : r.length ≤ maxLen) => rjoin_any _ _ cap1 x y r w0 h rfl hm
  have HSP0 := fun w0 (h : RingAt w0 (some ⟨N, 0, none⟩) r) (hm : r.length ≤ maxLen) (hc : r.length ≤ cap1) (hcm : cap1 ≤ maxLen) => sjoin_any _ _ cap1 x y r w0 h rfl hc hcm
  have HSR0 : szR (joinR r x y) ≤ 1048576 := join_sz r x y
  obtain ⟨R, hR⟩ : ∃ R, R = joinR r x y := ⟨_, rfl⟩
  obtain ⟨B, hBB⟩ : ∃ B, B = (arg3 r x y && joinB r x y) := ⟨_, rfl⟩
  simp only [← hR, ← hBB] at HIM0 HSP0 HSR0
  have HIM := Lib.hid HIM0
  have HSP := Lib.hid HSP0
  have HSR := Lib.hid HSR0
  have HRE := Lib.hid hR
  have HBE := Lib.hid hBB
  have HMR : Hid (R.length ≤ maxLen) := small_max HSR0
  clear hr1 hmx hlB HIM0 HSP0 HSR0 hR hBB
  go_wp2_with fail
  refine (HIM.out w1 HI.out HM.out).mono ?_
  rintro e w2 ⟨N2, c2, F2, rfl, ho2, hc2, hcm2, hb2⟩
  have HO2 := Lib.hid ho2.ring
  clear ho2
  go_wp2_with fail
  refine (HSP.out w2 (HI.out.keepB hb2 (Nat.le_refl _)) HM.out hcap hcm).mono ?_
  rintro e w3 ⟨N3, c3, F3, rfl, ho3, _, _, hb3⟩
  have HO3 := Lib.hid ho3.ring
  clear ho3
  have v1 : (!B == B) = false := by simp
  have v2 : (B == B) = true := by simp
  go_wp2_with fail
  refine (sameRing_same _ _ _ c2 c3 R w3 (HO2.out.keepB hb3 (Nat.le_refl _)) HO3.out rfl (small_of HSR.out)).mono ?_
  rintro e w4 ⟨rfl, hb4⟩
  have hB24 : Below w2.heap.size w2 w4 := hb3.trans (hb4.mono hb3.size)
  have hB14 : Below w1.heap.size w1 w4 := hb2.trans (hB24.mono hb2.size)
  have hBw : Below w.heap.size w w4 := hB1.trans (hB14.mono hB1.size)
  have HI4 := Lib.hid (HI.out.keepB hB14 (Nat.le_refl _))
  have HR4 := Lib.hid (HO2.out.keepB hB24 (Nat.le_refl _))
  rcases bool_cases B with hbv | hbv
  · subst hbv
    go_wp2_with fail
    refine (sameRing_same _ _ _ c2 c3 R w4 HR4.out (HO3.out.keepB hb4 (Nat.le_refl _)) rfl (small_of HSR.out)).mono ?_
    rintro e w5 ⟨rfl, hb5⟩
    go_wp2
    go_ret
    exact ⟨rfl, hBw.trans (hb5.mono hBw.size)⟩
  subst hbv
  clear v1 v2
  have HF : Hid ((arg3 r x y = true ∧ joinB r x y = true) ∧ R = insR r (cntR r x) (joinN r x y)) := by
    have h1 := HBE.out
    have h2 : arg3 r x y = true ∧ joinB r x y = true := by simpa using h1.symm
    refine ⟨h2, ?_⟩
    rw [HRE.out]; unfold joinR; rw [h2.1, h2.2]; rfl
  have HP := Lib.hid (join_pre HF.out.1.1 HF.out.1.2)
  have HS := Lib.hid HP.out.1
  have HV := Lib.hid (safe_rv HS.out)
  have HSAFE : Hid (safeB R = true) := by show _ = _; rw [HF.out.2]; exact HP.out.2.2.2.2
  have HKP : Hid (KeepP r R) := by show KeepP _ _; rw [HF.out.2]; exact join_keepP HF.out.1.1 HF.out.1.2
  go_wp2_with fail
  refine (rsafe_any true _ _ c2 R w4 HR4.out rfl HMR.out HSAFE.out).mono ?_
  rintro e w5 ⟨rfl, hb5⟩
  go_wp2_with fail
  refine (keeps_any _ _ _ _ cap1 c2 r R w5 (HI4.out.keepB hb5 (Nat.le_refl _)) (HR4.out.keepB hb5 (Nat.le_refl _)) rfl rfl HM.out HMR.out HKP.out HV.out).mono ?_
  rintro e w6 ⟨rfl, hb6⟩
  go_wp2
  go_ret
  exact ⟨rfl, hBw.trans ((hb5.trans (hb6.mono hb5.size)).mono hBw.size)⟩


set_option maxHeartbeats 4000000 in
theorem joinCalm (s : Option Addr) (len cap : Nat) (z : List Int) (w : World) (h : RowIn .u8 w s len cap z) :
    Calls Try.prog 10 #[.slice s len cap] w fun e w' => e = .returned (.bool true) ∧ Below w.heap.size w w' := by
  have hb := bytes_of_row h
  have hm : len ≤ maxLen := Nat.le_trans hb.1 hb.2.1
  unfold maxLen at hm
  clear h
  by_cases hl : 1048576 < len
  · go_enter Try.func10, Try.ntmps10
    go_wp2
    go_ret
    exact ⟨rfl, Below.refl _ _⟩
  have hlB : decide ((1048576 : Int) < (len : Int)) = false := by simp; omega
  go_enter Try.func10, Try.ntmps10
  go_wp2_with fail
  refine (drawRingJoin s len cap w hb).mono ?_
  rintro e w1 ⟨N, cap1, r, x, y, rfl, hr1, h10, hcap, hcm, hB1⟩
  have HI := Lib.hid hr1
  have hmx : r.length ≤ maxLen := by unfold maxLen; omega
  have HM := Lib.hid hmx
  have HIM0 := fun w0 (h : RingAt w0 (some ⟨N, 0, none⟩) r) (hm : r.length ≤ maxLen) => rjoin_any _ _ cap1 x y r w0 h rfl hm
  have HSP0 := fun w0 (h : RingAt w0 (some ⟨N, 0, none⟩) r) (hm : r.length ≤ maxLen) (hc : r.length ≤ cap1) (hcm : cap1 ≤ maxLen) => sjoin_any _ _ cap1 x y r w0 h rfl hc hcm
  have HSR0 : szR (joinR r x y) ≤ 1048576 := join_sz r x y
  obtain ⟨R, hR⟩ : ∃ R, R = joinR r x y := ⟨_, rfl⟩
  obtain ⟨B, hBB⟩ : ∃ B, B = (arg3 r x y && joinB r x y) := ⟨_, rfl⟩
  simp only [← hR, ← hBB] at HIM0 HSP0 HSR0
  have HIM := Lib.hid HIM0
  have HSP := Lib.hid HSP0
  have HSR := Lib.hid HSR0
  have HRE := Lib.hid hR
  have HBE := Lib.hid hBB
  have HMR : Hid (R.length ≤ maxLen) := small_max HSR0
  clear hr1 hmx hlB HIM0 HSP0 HSR0 hR hBB
  go_wp2_with fail
  refine (HIM.out w1 HI.out HM.out).mono ?_
  rintro e w2 ⟨N2, c2, F2, rfl, ho2, hc2, hcm2, hb2⟩
  have HO2 := Lib.hid ho2.ring
  clear ho2
  go_wp2_with fail
  refine (HSP.out w2 (HI.out.keepB hb2 (Nat.le_refl _)) HM.out hcap hcm).mono ?_
  rintro e w3 ⟨N3, c3, F3, rfl, ho3, _, _, hb3⟩
  have HO3 := Lib.hid ho3.ring
  clear ho3
  have v1 : (!B == B) = false := by simp
  have v2 : (B == B) = true := by simp
  go_wp2_with fail
  refine (sameRing_same _ _ _ c2 c3 R w3 (HO2.out.keepB hb3 (Nat.le_refl _)) HO3.out rfl (small_of HSR.out)).mono ?_
  rintro e w4 ⟨rfl, hb4⟩
  have hB24 : Below w2.heap.size w2 w4 := hb3.trans (hb4.mono hb3.size)
  have hB14 : Below w1.heap.size w1 w4 := hb2.trans (hB24.mono hb2.size)
  have hBw : Below w.heap.size w w4 := hB1.trans (hB14.mono hB1.size)
  have HI4 := Lib.hid (HI.out.keepB hB14 (Nat.le_refl _))
  have HR4 := Lib.hid (HO2.out.keepB hB24 (Nat.le_refl _))
  rcases bool_cases B with hbv | hbv
  · subst hbv
    go_wp2_with fail
    refine (sameRing_same _ _ _ c2 c3 R w4 HR4.out (HO3.out.keepB hb4 (Nat.le_refl _)) rfl (small_of HSR.out)).mono ?_
    rintro e w5 ⟨rfl, hb5⟩
    go_wp2
    go_ret
    exact ⟨rfl, hBw.trans (hb5.mono hBw.size)⟩
  subst hbv
  clear v1 v2
  have HF : Hid ((arg3 r x y = true ∧ joinB r x y = true) ∧ R = insR r (cntR r x) (joinN r x y)) := by
    have h1 := HBE.out
    have h2 : arg3 r x y = true ∧ joinB r x y = true := by simpa using h1.symm
    refine ⟨h2, ?_⟩
    rw [HRE.out]; unfold joinR; rw [h2.1, h2.2]; rfl
  have HP := Lib.hid (join_pre HF.out.1.1 HF.out.1.2)
  have HS := Lib.hid HP.out.1
  have HV := Lib.hid (safe_rv HS.out)
  have HSAFE : Hid (safeB R = true) := by show _ = _; rw [HF.out.2]; exact HP.out.2.2.2.2
  have HCA : Hid (calmS R = calmR R) := by show _ = _; unfold calmS; rw [HSAFE.out]; rfl
  have HOK := Lib.hid (calm_ok HSAFE.out).1
  have hlen : (calmR R).length = r.length + 1 := by rw [HOK.out.len, HF.out.2, ins_len HP.out.2.2.2.1.1]
  have HLEN := Lib.hid hlen
  clear hlen
  have HID : Hid (idAt (calmR R) x = x) := by
    show _ = _
    have hd : liveB (calmR R) x = true := by
      rw [live_same HOK.out.len HOK.out.pos, HF.out.2]
      exact join_live HF.out.1.1 HF.out.1.2
    unfold idAt; rw [if_pos hd]
  have HIL := Lib.hid (calm_ideal HSAFE.out)
  go_wp2_with fail
  refine (rcalm_any _ _ c2 R w4 HR4.out rfl HMR.out).mono ?_
  rintro e w5 ⟨N5, c5, F5, rfl, ho5, _, _, hb5⟩
  rw [HCA.out] at ho5 ⊢
  have HO5 := Lib.hid ho5.ring
  clear ho5
  have hm5 : (calmR R).length ≤ maxLen := by rw [HLEN.out]; unfold maxLen; omega
  have HM5 := Lib.hid hm5
  clear hm5
  go_wp2_with fail
  refine (ridl_as true _ _ c5 (calmR R) w5 HO5.out rfl HM5.out HIL.out).mono ?_
  rintro e w6 ⟨rfl, hb6⟩
  go_wp2_with fail
  refine (nodeAt_as x _ _ c5 x (calmR R) w6 (HO5.out.keepB hb6 (Nat.le_refl _)) rfl HM5.out HID.out).mono ?_
  rintro e w7 ⟨b7, a7, l7, c7, rfl, hb7⟩
  have hf := field_id x b7 a7 l7 c7
  have vl : (((calmR R).length : Int) == (r.length : Int) + 1) = true := by rw [HLEN.out]; simp
  go_wp2
  go_ret
  exact ⟨rfl, hBw.trans ((hb5.trans ((hb6.trans (hb7.mono hb6.size)).mono hb5.size)).mono hBw.size)⟩

end Go.Proofs.Ytndjkokipiikpaa
