/- The walks of the laws of principals. -/
import Derived.Test.YtihkpofdpjkegaaLawsSafe2
namespace Go.Proofs.Ytihkpofdpjkegaa
open Go.RowKit
set_option linter.unusedVariables false

set_option maxHeartbeats 1000000 in
theorem sameInts_same (a1 a2 : Option Addr) (len cap1 cap2 : Nat) (zs : List Int) (w : World) (h1 : IntsAt w a1 zs) (h2 : IntsAt w a2 zs) (hz : zs.length = len) (hm : len ≤ 1048576) :
    Calls Try.prog 16 #[.slice a1 len cap1, .slice a2 len cap2] w fun e w' => e = .returned (.bool true) ∧ Same w w' := by
  have H1 := Lib.hid h1
  have H2 := Lib.hid h2
  have HZ := Lib.hid hz
  clear h1 h2 hz
  have hne : ((len : Int) != (len : Int)) = false := by simp
  go_enter Try.func16, Try.ntmps16
  go_wp2
  go_loopw [5] (fun i wr => ∃ k : Nat, k ≤ len ∧ i = .int .i64 k ∧ Same w wr) (fun i _ => len - (intOf i).toNat)
  case atStart => exact ⟨0, by omega, rfl, Same.refl _⟩
  case round =>
    obtain ⟨k, hk, rfl, hsame⟩ := hrel
    by_cases hlt : k < len
    · have h' : ∃ b off, a1 = some ⟨b, off, none⟩ ∧ wr.cell? ⟨b, off + k, none⟩ = some (.int .i64 (gt zs k)) := by
        rcases H1.out with h0 | ⟨b, off, ha, hb, hc⟩
        · have := HZ.out; rw [h0] at this; simp at this; omega
        · exact ⟨b, off, ha, (hsame.cell _).trans (hc k (by rw [HZ.out]; exact hlt))⟩
      have h'' : ∃ b off, a2 = some ⟨b, off, none⟩ ∧ wr.cell? ⟨b, off + k, none⟩ = some (.int .i64 (gt zs k)) := by
        rcases H2.out with h0 | ⟨b, off, ha, hb, hc⟩
        · have := HZ.out; rw [h0] at this; simp at this; omega
        · exact ⟨b, off, ha, (hsame.cell _).trans (hc k (by rw [HZ.out]; exact hlt))⟩
      obtain ⟨b, off, ha, hc⟩ := h'
      obtain ⟨b2, off2, ha2, hc2⟩ := h''
      subst ha ha2
      have hv : ((gt zs k) != (gt zs k)) = false := by simp
      have hlt' : (k : Int) < (len : Int) := by omega
      have h0' : (0 : Int) ≤ (k : Int) := by omega
      go_wp2
      go_quiet (fail)
      go_wp2
      go_roundw
      case rel => exact ⟨k + 1, by omega, by go_num, hsame.drewN _⟩
      case measure => simp [intOf]; omega
    · go_wp2
      go_ret
      exact ⟨rfl, hsame⟩

set_option maxHeartbeats 4000000 in
theorem principals (s : Option Addr) (len cap : Nat) (z : List Int) (w : World) (h : RowIn .u8 w s len cap z) :
    Calls Try.prog 3 #[.slice s len cap] w fun e w' => e = .returned (.bool true) ∧ Below w.heap.size w w' := by
  have hb := bytes_of_row h
  have hm : len ≤ maxLen := Nat.le_trans hb.1 hb.2.1
  unfold maxLen at hm
  clear h
  by_cases hl : 1048576 < len
  · go_enter Try.func3, Try.ntmps3
    go_wp2
    go_ret
    exact ⟨rfl, Below.refl _ _⟩
  have hlB : decide ((1048576 : Int) < (len : Int)) = false := by simp; omega
  go_enter Try.func3, Try.ntmps3
  go_wp2_with fail
  refine (drawRingPr s len cap w hb).mono ?_
  rintro e w1 ⟨N, cap1, r, rfl, hr1, h10, hcap, hB1⟩
  have HI := Lib.hid hr1
  have hmx : r.length ≤ maxLen := by unfold maxLen; omega
  have HM := Lib.hid hmx
  clear hr1 hmx hlB
  go_wp2_with fail
  refine (rpr_any _ _ cap1 r w1 HI.out rfl HM.out).mono ?_
  rintro e w2 ⟨gp, cp, rfl, hop, hb2⟩
  have HOP := Lib.hid hop.ints
  have hgp := hop.lt.2
  clear hop
  go_wp2_with fail
  refine (srpr_any _ _ cap1 r w2 (HI.out.keepB hb2 (Nat.le_refl _)) rfl HM.out).mono ?_
  rintro e w3 ⟨gq, cq, rfl, hoq, hb3⟩
  have HOQ := Lib.hid hoq.ints
  clear hoq
  have hB3 : Below w1.heap.size w1 w3 := hb2.trans (hb3.mono hb2.size)
  have hBw : Below w.heap.size w w3 := hB1.trans (hB3.mono hB1.size)
  have HP3 := Lib.hid (HOP.out.keepB hb3 (Nat.le_refl _))
  have HI3 := Lib.hid (HI.out.keepB hB3 (Nat.le_refl _))
  have hpl : (prV r).length ≤ r.length := by
    have := prTo_len r r.length
    unfold prV prL; split
    · omega
    · simp
  go_wp2_with fail
  refine (sameInts_same _ _ _ _ _ (prV r) w3 HP3.out HOQ.out rfl (by omega)).mono ?_
  rintro e w4 ⟨rfl, hs4⟩
  have hBw4 : Below w.heap.size w w4 := hBw.trans (hs4.below _)
  have HP4 := Lib.hid (HP3.out.keepB (hs4.below _) (Nat.le_refl _))
  have HQ4 := Lib.hid (HOQ.out.keepB (hs4.below _) (Nat.le_refl _))
  have HI4 := Lib.hid (HI3.out.keepB (hs4.below _) (Nat.le_refl _))
  have hgp4 : gp < w4.heap.size := by have := hb3.size; have := (hs4.below 0).size; omega
  cases hv : rvB r
  · have HV := Lib.hid hv
    clear hv
    go_wp2_with fail
    refine (srv_as false _ _ cap1 r w4 HI4.out rfl HM.out HV.out).mono ?_
    rintro e w5 ⟨rfl, hb5⟩
    go_wp2_with fail
    refine (sameInts_same _ _ _ _ _ (prV r) w5 (HP4.out.keepB hb5 (Nat.le_refl _)) (HQ4.out.keepB hb5 (Nat.le_refl _)) rfl (by omega)).mono ?_
    rintro e w6 ⟨rfl, hs6⟩
    go_wp2
    go_ret
    exact ⟨rfl, hBw4.trans ((hb5.mono hBw4.size).trans (hs6.below _))⟩
  have HV := Lib.hid hv
  clear hv
  go_wp2_with fail
  refine (srv_as true _ _ cap1 r w4 HI4.out rfl HM.out HV.out).mono ?_
  rintro e w5 ⟨rfl, hb5⟩
  have hBw5 : Below w.heap.size w w5 := hBw4.trans (hb5.mono hBw4.size)
  have HI5 := Lib.hid (HI4.out.keepB hb5 (Nat.le_refl _))
  have HP5 := Lib.hid (HP4.out.keepB hb5 (Nat.le_refl _))
  have HPV : Hid (prV r = prL r) := by show _ = _; simp [prV, HV.out]
  go_wp2
  go_loopw [6] (fun i wr => ∃ k : Nat, k ≤ r.length ∧ i = .int .i64 k ∧ Below w5.heap.size w5 wr) (fun i _ => r.length - (intOf i).toNat)
  case atStart => exact ⟨0, by omega, rfl, Below.refl _ _⟩
  case round =>
    obtain ⟨k, hk, rfl, hsm⟩ := hrel
    obtain ⟨wo, rfl⟩ : ∃ x, x = wr := ⟨_, rfl⟩
    by_cases hlt : k < r.length
    · go_wp2
      go_loopw [7, 8] (fun sk i wi => ∃ m : Nat, m ≤ r.length ∧ i = .int .i64 m ∧ sk = .bool (anyTo (fun j => skB (gn r j) (gn r k).pos) m) ∧ Below w5.heap.size w5 wi) (fun _ i _ => r.length - (intOf i).toNat)
      case atStart => exact ⟨0, by omega, rfl, rfl, hsm⟩
      case round =>
        obtain ⟨m, hmm, rfl, rfl, hbi⟩ := hrel
        obtain ⟨wi, rfl⟩ : ∃ x, x = wr := ⟨_, rfl⟩
        by_cases hmt : m < r.length
        · have hri := HI5.out.keepB hbi (Nat.le_refl _)
          obtain ⟨b, off, b3, o3, sc, hab, hbl, hb3l, hsc, hscm, hc0, hc1, hc2, hx3, hy3, hin⟩ := ring_node hri HV.out hmt
          injection hab with hab
          injection hab with hbb hoo
          subst hbb hoo
          rw [Nat.zero_add] at hc0 hc1 hc2
          obtain ⟨b', off', b3', o3', sc', hab', _, _, _, _, hd0, _, _, _, _, _⟩ := ring_node hri HV.out hlt
          injection hab' with hab'
          injection hab' with hbb hoo
          subst hbb hoo
          rw [Nat.zero_add] at hd0
          obtain ⟨hp, hz8, h0, h1, hz9⟩ := nd_open HV.out hmt
          have hxp := (nd_open HV.out hlt).1
          have HC1 : Hid (btwB (gn r m).pos (gn r k).pos (gt (gn r m).aft 0) = btwI (gn r m).pos (gn r k).pos (gt (gn r m).aft 0)) := by
            show _ = _
            rw [btwB, (ptB_iff _).2 hp, (ptB_iff _).2 hxp, (ptB_iff _).2 h0]; simp
          have HC2 : Hid (btwB (gt (gn r m).aft 0) (gn r k).pos (gt (gn r m).aft 1) = btwI (gt (gn r m).aft 0) (gn r k).pos (gt (gn r m).aft 1)) := by
            show _ = _
            rw [btwB, (ptB_iff _).2 h0, (ptB_iff _).2 hxp, (ptB_iff _).2 h1]; simp
          have HSK : Hid (anyTo (fun j => skB (gn r j) (gn r k).pos) (m + 1) = (anyTo (fun j => skB (gn r j) (gn r k).pos) m || (btwI (gn r m).pos (gn r k).pos (gt (gn r m).aft 0) || btwI (gt (gn r m).aft 0) (gn r k).pos (gt (gn r m).aft 1)))) := rfl
          have i0 : (0 : Int) ≤ (k : Int) := by omega
          have i1 : (k : Int) < (r.length : Int) := by omega
          have i2 : (0 : Int) ≤ (m : Int) := by omega
          have i3 : (m : Int) < (r.length : Int) := by omega
          clear hri hz8 hz9 hin hscm
          have HBA : Hid (∀ o, Below w5.heap.size w5 (wi.alloc o)) := fun o => hbi.alloc hbi.size o
          rcases bool_cases (anyTo (fun j => skB (gn r j) (gn r k).pos) m) with ha | ha
          rotate_left
          · rw [ha]
            have HE : Hid (anyTo (fun j => skB (gn r j) (gn r k).pos) (m + 1) = true) := by show _ = _; rw [HSK.out, ha]; rfl
            clear ha
            go_wp2_with fail
            go_quiet (fail)
            go_wp2
            go_roundw
            case rel => exact ⟨m + 1, by omega, by go_num, by rw [HE.out], ((HBA.out _).trans (((Same.refl _).drewN _).below _))⟩
            case measure => simp [intOf]; omega
          rw [ha]
          rcases bool_cases (btwI (gn r m).pos (gn r k).pos (gt (gn r m).aft 0)) with hq1 | hq1
          rotate_left
          · have HE : Hid (anyTo (fun j => skB (gn r j) (gn r k).pos) (m + 1) = true) := by show _ = _; rw [HSK.out, ha, hq1]; rfl
            have HQ1 := Lib.hid (HC1.out.trans hq1)
            clear ha hq1
            go_wp2_with fail
            go_quiet ((go_at_call 18; exact Calls.quiet_of_same (calls_flip (cbtw_as _ _ _ _ _ HQ1.out))))
            go_wp2
            go_roundw
            case rel => exact ⟨m + 1, by omega, by go_num, by rw [HE.out], ((HBA.out _).trans (((Same.refl _).drewN _).below _))⟩
            case measure => simp [intOf]; omega
          have HQ1 := Lib.hid (HC1.out.trans hq1)
          have HE : Hid (anyTo (fun j => skB (gn r j) (gn r k).pos) (m + 1) = btwI (gt (gn r m).aft 0) (gn r k).pos (gt (gn r m).aft 1)) := by show _ = _; rw [HSK.out, ha, hq1]; rfl
          clear ha hq1
          rcases bool_cases (btwI (gt (gn r m).aft 0) (gn r k).pos (gt (gn r m).aft 1)) with hq2 | hq2
          all_goals
            have HQ2 := Lib.hid (HC2.out.trans hq2)
            have HE2 := Lib.hid (HE.out.trans hq2)
            clear hq2
            go_wp2_with fail
            go_quiet ((go_at_call 18; first | exact Calls.quiet_of_same (calls_flip (cbtw_as _ _ _ _ _ HQ1.out)) | exact Calls.quiet_of_same (calls_flip (cbtw_as _ _ _ _ _ HQ2.out))))
            go_wp2
            go_roundw
            case rel => exact ⟨m + 1, by omega, by go_num, by rw [HE2.out], ((HBA.out _).trans (((Same.refl _).drewN _).below _))⟩
            case measure => simp [intOf]; omega
        · have hmr : m = r.length := by omega
          have hri := HI5.out.keepB hbi (Nat.le_refl _)
          obtain ⟨b', off', b3', o3', sc', hab', _, _, _, _, hd0, _, _, _, _, _⟩ := ring_node hri HV.out hlt
          injection hab' with hab'
          injection hab' with hbb hoo
          subst hbb hoo
          rw [Nat.zero_add] at hd0
          have HSD : Hid (anyTo (fun j => skB (gn r j) (gn r k).pos) m = skdB r (gn r k).pos) := by show _ = _; rw [hmr]; rfl
          have hhas : hasB (prV r) (gn r k).pos = !skdB r (gn r k).pos := by
            rw [HPV.out, Bool.eq_iff_iff, hasB_iff, mem_pr, live_at hlt]; simp
          have HPW := Lib.hid (HP5.out.keepB hbi (Nat.le_refl _))
          clear hri hmr
          rw [HSD.out]
          rcases bool_cases (skdB r (gn r k).pos) with hsd | hsd
          all_goals
            rw [hsd] at hhas ⊢
            have HH := Lib.hid hhas
            clear hsd hhas
            go_wp2_with fail
            refine (lhas_as _ _ _ _ (prV r) _ wi HPW.out rfl (by unfold maxLen; omega) HH.out).mono ?_
            rintro e w7 ⟨rfl, rfl⟩
            go_wp2
            go_roundw
            case rel => exact ⟨k + 1, by omega, by go_num, hbi⟩
            case measure => simp [intOf]; omega
    · go_wp2
      go_ret
      exact ⟨rfl, hBw5.trans (hsm.mono hBw5.size)⟩
end Go.Proofs.Ytihkpofdpjkegaa
