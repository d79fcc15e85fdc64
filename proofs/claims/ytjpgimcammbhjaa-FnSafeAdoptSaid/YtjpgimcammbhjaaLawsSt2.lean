/- A ring stays safe by adopting successors, closer ones, notifying and stabilizing. -/
import Derived.Test.YtjpgimcammbhjaaNwRing
import Derived.Test.YtjpgimcammbhjaaLawsDrop
import Derived.Test.YtjpgimcammbhjaaDrawK
namespace Go.Proofs.Ytjpgimcammbhjaa
open Go.RowKit
set_option linter.unusedVariables false

theorem one_safeK {r : List Nd} {i o : Int} (h : (oneB r i && ptB o) = true) : safeB r = true := by simp at h; exact one_safe h.1
theorem KeepP.refl (r : List Nd) : KeepP r r := fun _ h _ => h
theorem KeepP.then {a b c : List Nd} (h : KeepP a b) (k : KeepP b c) (hbc : SetOk b c) : KeepP a c := fun x hx hl => k x (h x hx (by rw [← live_same hbc.len hbc.pos]; exact hl)) hl
theorem fol_keepP {r : List Nd} {k : Nat} {o : Int} (h : safeB r = true) (hk : k < r.length) (hl : liveB r o = true) (hb : o = gt (gn r k).aft 0 ∨ btwI (gn r k).pos o (gt (gn r k).aft 0) = true) : KeepP r (folR r k (idxR r o)) := by
  have hok := (fol_ok h hk hl hb).1
  obtain ⟨hv, hls, _⟩ := (safe_iff r).1 h
  obtain ⟨hs, hso, _⟩ := idx_live hl
  obtain ⟨hp, _, h0, h1, ha⟩ := nd_open hv hk
  obtain ⟨hp', _, h0', h1', ha'⟩ := nd_open hv hs
  rw [hso] at hp'
  refine set_keepP hv (safe_rv hok.safe) hk rfl fun p hpl hsk => ?_
  have hpp := live_pt hv hpl
  rw [sk_wAft, hso] at hsk
  rcases Bool.or_eq_true _ _ ▸ hsk with hsk | hsk
  · refine skd_of hk ?_
    rw [skB]
    simp only [Bool.or_eq_true, btwI_iff] at hsk hb ⊢
    omega
  · refine skd_of hs ?_
    rw [skB, hso, hsk]; rfl
theorem adopt_keepP {r : List Nd} {k : Nat} (h : safeB r = true) (hk : k < r.length) : KeepP r (adoptR r k) := by
  unfold adoptR; split
  · rename_i hb; exact fol_keepP h hk hb (.inl rfl)
  · exact KeepP.refl r
theorem closer_keepP {r : List Nd} {k : Nat} {o : Int} (h : safeB r = true) (hk : k < r.length) : KeepP r (closerR r k o) := by
  unfold closerR; split
  · rename_i hb
    unfold closerB at hb
    obtain ⟨h1, h2⟩ := Bool.and_eq_true _ _ ▸ hb
    exact fol_keepP h hk h1 (.inr h2)
  · exact KeepP.refl r
theorem not_keepP {r : List Nd} {k : Nat} {o : Int} (h : safeB r = true) (hk : k < r.length) : KeepP r (notR r k o) := by
  have hok := not_ok (o := o) h hk
  unfold notR at hok ⊢
  split
  · rename_i hb
    rw [if_pos hb] at hok
    exact set_keepP (safe_rv h) (safe_rv hok.safe) hk rfl fun p hpl hsk => skd_of hk hsk
  · exact KeepP.refl r
theorem drop2_keepP {r : List Nd} {k : Nat} (h : safeB r = true) (hk : k < r.length) : KeepP r (drop2 r k) := by
  have ho := drop_ok h hk
  have hk' : k < (dropR r k).length := by rw [ho.len]; exact hk
  unfold drop2; split
  · exact (drop_keepP h hk).then (drop_keepP ho.safe hk') (drop_ok ho.safe hk')
  · exact drop_keepP h hk
theorem stab_keepP {r : List Nd} {k : Nat} (h : safeB r = true) (hk : k < r.length) : KeepP r (stabR r k) := by
  obtain ⟨_, ho⟩ := drop_first h hk
  have hk1 : k < (drop2 r k).length := by rw [ho.len]; exact hk
  have k2 : KeepP r (stab2 r k) := (drop2_keepP h hk).then (adopt_keepP ho.safe hk1) (adopt_ok ho.safe hk1)
  obtain ⟨h2, hl2⟩ := stab2_ok h hk
  have hk2 : k < (stab2 r k).length := by rw [h2.len]; exact hk
  have k3 : KeepP r (stab3 r k) := by
    unfold stab3; split
    · exact k2.then (closer_keepP h2.safe hk2) (closer_ok h2.safe hk2)
    · exact k2
  obtain ⟨h3, hl3⟩ := stab3_ok h hk
  exact k3.then (not_keepP h3.safe (idx_live hl3).1) (not_ok h3.safe (idx_live hl3).1)

set_option maxHeartbeats 4000000 in
theorem safeAdopt (s : Option Addr) (len cap : Nat) (z : List Int) (w : World) (h : RowIn .u8 w s len cap z) :
    Calls Try.prog 3 #[.slice s len cap] w fun e w' => e = .returned (.bool true) ∧ Below w.heap.size w w' := by
  have hb := bytes_of_row h
  have hm : len ≤ maxLen := Nat.le_trans hb.1 hb.2.1
  unfold maxLen at hm
  clear h
  by_cases hl : 1048576 < len
  · go_enter Try.func3, Try.ntmps3
    go_wp2
    go_ret
    exact ⟨rfl, Below.refl _ _⟩
  have hlB : decide ((1048576 : Int) < (len : Int)) = false := by simp; omega
  go_enter Try.func3, Try.ntmps3
  go_wp2_with fail
  refine (drawRingAdopt s len cap w hb).mono ?_
  rintro e w1 ⟨N, cap1, r, i, rfl, hr1, h10, hcap, hcm, hB1⟩
  have HI := Lib.hid hr1
  have hmx : r.length ≤ maxLen := by unfold maxLen; omega
  have HM := Lib.hid hmx
  have HIM0 := fun w0 (h : RingAt w0 (some ⟨N, 0, none⟩) r) (hm : r.length ≤ maxLen) => radopt_any _ _ cap1 i r w0 h rfl hm
  have HSP0 := fun w0 (h : RingAt w0 (some ⟨N, 0, none⟩) r) (hm : r.length ≤ maxLen) (hc : r.length ≤ cap1) (hcm : cap1 ≤ maxLen) => sradopt_any _ _ cap1 i r w0 h rfl hm
  have HSR0 : szR (selR r (oneB r i) i (adoptR r)) ≤ 1048576 := sel_sz4 (fun hs k hk => safe_rv (adopt_ok hs hk).safe) one_safe
  obtain ⟨R, hR⟩ : ∃ R, R = selR r (oneB r i) i (adoptR r) := ⟨_, rfl⟩
  obtain ⟨B, hBB⟩ : ∃ B, B = (selB r (oneB r i) i (adoptB r)) := ⟨_, rfl⟩
  simp only [← hR, ← hBB] at HIM0 HSP0 HSR0
  have HIM := Lib.hid HIM0
  have HSP := Lib.hid HSP0
  have HSR := Lib.hid HSR0
  have HRE := Lib.hid hR
  have HBE := Lib.hid hBB
  have HMR : Hid (R.length ≤ maxLen) := small_max HSR0
  clear hr1 hmx hlB HIM0 HSP0 HSR0 hR hBB
  go_wp2_with fail
  refine (HIM.out w1 HI.out HM.out).mono ?_
  rintro e w2 ⟨N2, c2, F2, rfl, ho2, hc2, hcm2, hb2⟩
  have HO2 := Lib.hid ho2.ring
  clear ho2
  go_wp2_with fail
  refine (HSP.out w2 (HI.out.keepB hb2 (Nat.le_refl _)) HM.out hcap hcm).mono ?_
  rintro e w3 ⟨N3, c3, F3, rfl, ho3, _, _, hb3⟩
  have HO3 := Lib.hid ho3.ring
  clear ho3
  have v1 : (!B == B) = false := by simp
  have v2 : (B == B) = true := by simp
  go_wp2_with fail
  refine (sameRing_same _ _ _ c2 c3 R w3 (HO2.out.keepB hb3 (Nat.le_refl _)) HO3.out rfl (small_of HSR.out)).mono ?_
  rintro e w4 ⟨rfl, hb4⟩
  have hB24 : Below w2.heap.size w2 w4 := hb3.trans (hb4.mono hb3.size)
  have hB14 : Below w1.heap.size w1 w4 := hb2.trans (hB24.mono hb2.size)
  have hBw : Below w.heap.size w w4 := hB1.trans (hB14.mono hB1.size)
  have HI4 := Lib.hid (HI.out.keepB hB14 (Nat.le_refl _))
  have HR4 := Lib.hid (HO2.out.keepB hB24 (Nat.le_refl _))
  rcases bool_cases B with hbv | hbv
  · subst hbv
    go_wp2_with fail
    refine (sameRing_same _ _ _ c2 c3 R w4 HR4.out (HO3.out.keepB hb4 (Nat.le_refl _)) rfl (small_of HSR.out)).mono ?_
    rintro e w5 ⟨rfl, hb5⟩
    go_wp2
    go_ret
    exact ⟨rfl, hBw.trans (hb5.mono hBw.size)⟩
  subst hbv
  clear v1 v2
  have HF : Hid ((oneB r i = true ∧ liveB r i = true) ∧ R = adoptR r (idxR r i)) := by
    have h1 := HBE.out
    unfold selB at h1
    have h2 : oneB r i = true ∧ liveB r i = true := by have h3 := h1.symm; simp only [Bool.and_eq_true] at h3; exact h3.1
    refine ⟨h2, ?_⟩
    rw [HRE.out]; unfold selR; rw [h2.1, h2.2]; rfl
  have HS := Lib.hid (one_safe HF.out.1.1)
  have HV := Lib.hid (safe_rv HS.out)
  have HK := Lib.hid (idx_live HF.out.1.2)
  have HSAFE : Hid (safeB R = true) := by show _ = _; rw [HF.out.2]; exact (adopt_ok HS.out HK.out.1).safe
  have HKP : Hid (KeepP r R) := by show KeepP _ _; rw [HF.out.2]; exact adopt_keepP HS.out HK.out.1
  go_wp2_with fail
  refine (rsafe_any true _ _ c2 R w4 HR4.out rfl HMR.out HSAFE.out).mono ?_
  rintro e w5 ⟨rfl, hb5⟩
  go_wp2_with fail
  refine (keeps_any _ _ _ _ cap1 c2 r R w5 (HI4.out.keepB hb5 (Nat.le_refl _)) (HR4.out.keepB hb5 (Nat.le_refl _)) rfl rfl HM.out HMR.out HKP.out HV.out).mono ?_
  rintro e w6 ⟨rfl, hb6⟩
  go_wp2
  go_ret
  exact ⟨rfl, hBw.trans ((hb5.trans (hb6.mono hb5.size)).mono hBw.size)⟩

set_option maxHeartbeats 4000000 in
theorem safeStabilize (s : Option Addr) (len cap : Nat) (z : List Int) (w : World) (h : RowIn .u8 w s len cap z) :
    Calls Try.prog 6 #[.slice s len cap] w fun e w' => e = .returned (.bool true) ∧ Below w.heap.size w w' := by
  have hb := bytes_of_row h
  have hm : len ≤ maxLen := Nat.le_trans hb.1 hb.2.1
  unfold maxLen at hm
  clear h
  by_cases hl : 1048576 < len
  · go_enter Try.func6, Try.ntmps6
    go_wp2
    go_ret
    exact ⟨rfl, Below.refl _ _⟩
  have hlB : decide ((1048576 : Int) < (len : Int)) = false := by simp; omega
  go_enter Try.func6, Try.ntmps6
  go_wp2_with fail
  refine (drawRingStabilize s len cap w hb).mono ?_
  rintro e w1 ⟨N, cap1, r, i, rfl, hr1, h10, hcap, hcm, hB1⟩
  have HI := Lib.hid hr1
  have hmx : r.length ≤ maxLen := by unfold maxLen; omega
  have HM := Lib.hid hmx
  have HIM0 := fun w0 (h : RingAt w0 (some ⟨N, 0, none⟩) r) (hm : r.length ≤ maxLen) => rstab_any _ _ cap1 i r w0 h rfl hm
  have HSP0 := fun w0 (h : RingAt w0 (some ⟨N, 0, none⟩) r) (hm : r.length ≤ maxLen) (hc : r.length ≤ cap1) (hcm : cap1 ≤ maxLen) => srstab_any _ _ cap1 i r w0 h rfl hm
  have HSR0 : szR (selR r (oneB r i) i (stabR r)) ≤ 1048576 := sel_sz4 (fun hs k hk => safe_rv (stab_ok hs hk).safe) one_safe
  obtain ⟨R, hR⟩ : ∃ R, R = selR r (oneB r i) i (stabR r) := ⟨_, rfl⟩
  obtain ⟨B, hBB⟩ : ∃ B, B = (selB r (oneB r i) i (fun _ => true)) := ⟨_, rfl⟩
  simp only [← hR, ← hBB] at HIM0 HSP0 HSR0
  have HIM := Lib.hid HIM0
  have HSP := Lib.hid HSP0
  have HSR := Lib.hid HSR0
  have HRE := Lib.hid hR
  have HBE := Lib.hid hBB
  have HMR : Hid (R.length ≤ maxLen) := small_max HSR0
  clear hr1 hmx hlB HIM0 HSP0 HSR0 hR hBB
  go_wp2_with fail
  refine (HIM.out w1 HI.out HM.out).mono ?_
  rintro e w2 ⟨N2, c2, F2, rfl, ho2, hc2, hcm2, hb2⟩
  have HO2 := Lib.hid ho2.ring
  clear ho2
  go_wp2_with fail
  refine (HSP.out w2 (HI.out.keepB hb2 (Nat.le_refl _)) HM.out hcap hcm).mono ?_
  rintro e w3 ⟨N3, c3, F3, rfl, ho3, _, _, hb3⟩
  have HO3 := Lib.hid ho3.ring
  clear ho3
  have v1 : (!B == B) = false := by simp
  have v2 : (B == B) = true := by simp
  go_wp2_with fail
  refine (sameRing_same _ _ _ c2 c3 R w3 (HO2.out.keepB hb3 (Nat.le_refl _)) HO3.out rfl (small_of HSR.out)).mono ?_
  rintro e w4 ⟨rfl, hb4⟩
  have hB24 : Below w2.heap.size w2 w4 := hb3.trans (hb4.mono hb3.size)
  have hB14 : Below w1.heap.size w1 w4 := hb2.trans (hB24.mono hb2.size)
  have hBw : Below w.heap.size w w4 := hB1.trans (hB14.mono hB1.size)
  have HI4 := Lib.hid (HI.out.keepB hB14 (Nat.le_refl _))
  have HR4 := Lib.hid (HO2.out.keepB hB24 (Nat.le_refl _))
  rcases bool_cases B with hbv | hbv
  · subst hbv
    go_wp2_with fail
    refine (sameRing_same _ _ _ c2 c3 R w4 HR4.out (HO3.out.keepB hb4 (Nat.le_refl _)) rfl (small_of HSR.out)).mono ?_
    rintro e w5 ⟨rfl, hb5⟩
    go_wp2
    go_ret
    exact ⟨rfl, hBw.trans (hb5.mono hBw.size)⟩
  subst hbv
  clear v1 v2
  have HF : Hid ((oneB r i = true ∧ liveB r i = true) ∧ R = stabR r (idxR r i)) := by
    have h1 := HBE.out
    unfold selB at h1
    have h2 : oneB r i = true ∧ liveB r i = true := by have h3 := h1.symm; simp only [Bool.and_eq_true] at h3; exact h3.1
    refine ⟨h2, ?_⟩
    rw [HRE.out]; unfold selR; rw [h2.1, h2.2]; rfl
  have HS := Lib.hid (one_safe HF.out.1.1)
  have HV := Lib.hid (safe_rv HS.out)
  have HK := Lib.hid (idx_live HF.out.1.2)
  have HSAFE : Hid (safeB R = true) := by show _ = _; rw [HF.out.2]; exact (stab_ok HS.out HK.out.1).safe
  have HKP : Hid (KeepP r R) := by show KeepP _ _; rw [HF.out.2]; exact stab_keepP HS.out HK.out.1
  go_wp2_with fail
  refine (rsafe_any true _ _ c2 R w4 HR4.out rfl HMR.out HSAFE.out).mono ?_
  rintro e w5 ⟨rfl, hb5⟩
  go_wp2_with fail
  refine (keeps_any _ _ _ _ cap1 c2 r R w5 (HI4.out.keepB hb5 (Nat.le_refl _)) (HR4.out.keepB hb5 (Nat.le_refl _)) rfl rfl HM.out HMR.out HKP.out HV.out).mono ?_
  rintro e w6 ⟨rfl, hb6⟩
  go_wp2
  go_ret
  exact ⟨rfl, hBw.trans ((hb5.trans (hb6.mono hb5.size)).mono hBw.size)⟩

set_option maxHeartbeats 4000000 in
theorem safeCloser (s : Option Addr) (len cap : Nat) (z : List Int) (w : World) (h : RowIn .u8 w s len cap z) :
    Calls Try.prog 4 #[.slice s len cap] w fun e w' => e = .returned (.bool true) ∧ Below w.heap.size w w' := by
  have hb := bytes_of_row h
  have hm : len ≤ maxLen := Nat.le_trans hb.1 hb.2.1
  unfold maxLen at hm
  clear h
  by_cases hl : 1048576 < len
  · go_enter Try.func4, Try.ntmps4
    go_wp2
    go_ret
    exact ⟨rfl, Below.refl _ _⟩
  have hlB : decide ((1048576 : Int) < (len : Int)) = false := by simp; omega
  go_enter Try.func4, Try.ntmps4
  go_wp2_with fail
  refine (drawRingCloser s len cap w hb).mono ?_
  rintro e w1 ⟨N, cap1, r, i, o, rfl, hr1, h10, hcap, hcm, hB1⟩
  have HI := Lib.hid hr1
  have hmx : r.length ≤ maxLen := by unfold maxLen; omega
  have HM := Lib.hid hmx
  have HIM0 := fun w0 (h : RingAt w0 (some ⟨N, 0, none⟩) r) (hm : r.length ≤ maxLen) => rcloser_any _ _ cap1 i o r w0 h rfl hm
  have HSP0 := fun w0 (h : RingAt w0 (some ⟨N, 0, none⟩) r) (hm : r.length ≤ maxLen) (hc : r.length ≤ cap1) (hcm : cap1 ≤ maxLen) => srcloser_any _ _ cap1 i o r w0 h rfl hm
  have HSR0 : szR (selR r (oneB r i && ptB o) i (fun k => closerR r k o)) ≤ 1048576 := sel_sz4 (fun hs k hk => safe_rv (closer_ok (o := o) hs hk).safe) one_safeK
  obtain ⟨R, hR⟩ : ∃ R, R = selR r (oneB r i && ptB o) i (fun k => closerR r k o) := ⟨_, rfl⟩
  obtain ⟨B, hBB⟩ : ∃ B, B = (selB r (oneB r i && ptB o) i (fun k => closerB r k o)) := ⟨_, rfl⟩
  simp only [← hR, ← hBB] at HIM0 HSP0 HSR0
  have HIM := Lib.hid HIM0
  have HSP := Lib.hid HSP0
  have HSR := Lib.hid HSR0
  have HRE := Lib.hid hR
  have HBE := Lib.hid hBB
  have HMR : Hid (R.length ≤ maxLen) := small_max HSR0
  clear hr1 hmx hlB HIM0 HSP0 HSR0 hR hBB
  go_wp2_with fail
  refine (HIM.out w1 HI.out HM.out).mono ?_
  rintro e w2 ⟨N2, c2, F2, rfl, ho2, hc2, hcm2, hb2⟩
  have HO2 := Lib.hid ho2.ring
  clear ho2
  go_wp2_with fail
  refine (HSP.out w2 (HI.out.keepB hb2 (Nat.le_refl _)) HM.out hcap hcm).mono ?_
  rintro e w3 ⟨N3, c3, F3, rfl, ho3, _, _, hb3⟩
  have HO3 := Lib.hid ho3.ring
  clear ho3
  have v1 : (!B == B) = false := by simp
  have v2 : (B == B) = true := by simp
  go_wp2_with fail
  refine (sameRing_same _ _ _ c2 c3 R w3 (HO2.out.keepB hb3 (Nat.le_refl _)) HO3.out rfl (small_of HSR.out)).mono ?_
  rintro e w4 ⟨rfl, hb4⟩
  have hB24 : Below w2.heap.size w2 w4 := hb3.trans (hb4.mono hb3.size)
  have hB14 : Below w1.heap.size w1 w4 := hb2.trans (hB24.mono hb2.size)
  have hBw : Below w.heap.size w w4 := hB1.trans (hB14.mono hB1.size)
  have HI4 := Lib.hid (HI.out.keepB hB14 (Nat.le_refl _))
  have HR4 := Lib.hid (HO2.out.keepB hB24 (Nat.le_refl _))
  rcases bool_cases B with hbv | hbv
  · subst hbv
    go_wp2_with fail
    refine (sameRing_same _ _ _ c2 c3 R w4 HR4.out (HO3.out.keepB hb4 (Nat.le_refl _)) rfl (small_of HSR.out)).mono ?_
    rintro e w5 ⟨rfl, hb5⟩
    go_wp2
    go_ret
    exact ⟨rfl, hBw.trans (hb5.mono hBw.size)⟩
  subst hbv
  clear v1 v2
  have HF : Hid (((oneB r i && ptB o) = true ∧ liveB r i = true) ∧ R = closerR r (idxR r i) o) := by
    have h1 := HBE.out
    unfold selB at h1
    have h2 : (oneB r i && ptB o) = true ∧ liveB r i = true := by have h3 := h1.symm; rw [Bool.and_eq_true, Bool.and_eq_true] at h3; exact h3.1
    refine ⟨h2, ?_⟩
    rw [HRE.out]; unfold selR; rw [h2.1, h2.2]; rfl
  have HS := Lib.hid (one_safeK HF.out.1.1)
  have HV := Lib.hid (safe_rv HS.out)
  have HK := Lib.hid (idx_live HF.out.1.2)
  have HSAFE : Hid (safeB R = true) := by show _ = _; rw [HF.out.2]; exact (closer_ok (o := o) HS.out HK.out.1).safe
  have HKP : Hid (KeepP r R) := by show KeepP _ _; rw [HF.out.2]; exact closer_keepP (o := o) HS.out HK.out.1
  go_wp2_with fail
  refine (rsafe_any true _ _ c2 R w4 HR4.out rfl HMR.out HSAFE.out).mono ?_
  rintro e w5 ⟨rfl, hb5⟩
  go_wp2_with fail
  refine (keeps_any _ _ _ _ cap1 c2 r R w5 (HI4.out.keepB hb5 (Nat.le_refl _)) (HR4.out.keepB hb5 (Nat.le_refl _)) rfl rfl HM.out HMR.out HKP.out HV.out).mono ?_
  rintro e w6 ⟨rfl, hb6⟩
  go_wp2
  go_ret
  exact ⟨rfl, hBw.trans ((hb5.trans (hb6.mono hb5.size)).mono hBw.size)⟩

set_option maxHeartbeats 4000000 in
theorem safeNotify (s : Option Addr) (len cap : Nat) (z : List Int) (w : World) (h : RowIn .u8 w s len cap z) :
    Calls Try.prog 5 #[.slice s len cap] w fun e w' => e = .returned (.bool true) ∧ Below w.heap.size w w' := by
  have hb := bytes_of_row h
  have hm : len ≤ maxLen := Nat.le_trans hb.1 hb.2.1
  unfold maxLen at hm
  clear h
  by_cases hl : 1048576 < len
  · go_enter Try.func5, Try.ntmps5
    go_wp2
    go_ret
    exact ⟨rfl, Below.refl _ _⟩
  have hlB : decide ((1048576 : Int) < (len : Int)) = false := by simp; omega
  go_enter Try.func5, Try.ntmps5
  go_wp2_with fail
  refine (drawRingNotify s len cap w hb).mono ?_
  rintro e w1 ⟨N, cap1, r, i, o, rfl, hr1, h10, hcap, hcm, hB1⟩
  have HI := Lib.hid hr1
  have hmx : r.length ≤ maxLen := by unfold maxLen; omega
  have HM := Lib.hid hmx
  have HIM0 := fun w0 (h : RingAt w0 (some ⟨N, 0, none⟩) r) (hm : r.length ≤ maxLen) => rnot_any _ _ cap1 i o r w0 h rfl hm
  have HSP0 := fun w0 (h : RingAt w0 (some ⟨N, 0, none⟩) r) (hm : r.length ≤ maxLen) (hc : r.length ≤ cap1) (hcm : cap1 ≤ maxLen) => srnot_any _ _ cap1 i o r w0 h rfl hm
  have HSR0 : szR (selR r (oneB r i && ptB o) i (fun k => notR r k o)) ≤ 1048576 := sel_sz4 (fun hs k hk => safe_rv (not_ok (o := o) hs hk).safe) one_safeK
  obtain ⟨R, hR⟩ : ∃ R, R = selR r (oneB r i && ptB o) i (fun k => notR r k o) := ⟨_, rfl⟩
  obtain ⟨B, hBB⟩ : ∃ B, B = (selB r (oneB r i && ptB o) i (fun k => notB r k o)) := ⟨_, rfl⟩
  simp only [← hR, ← hBB] at HIM0 HSP0 HSR0
  have HIM := Lib.hid HIM0
  have HSP := Lib.hid HSP0
  have HSR := Lib.hid HSR0
  have HRE := Lib.hid hR
  have HBE := Lib.hid hBB
  have HMR : Hid (R.length ≤ maxLen) := small_max HSR0
  clear hr1 hmx hlB HIM0 HSP0 HSR0 hR hBB
  go_wp2_with fail
  refine (HIM.out w1 HI.out HM.out).mono ?_
  rintro e w2 ⟨N2, c2, F2, rfl, ho2, hc2, hcm2, hb2⟩
  have HO2 := Lib.hid ho2.ring
  clear ho2
  go_wp2_with fail
  refine (HSP.out w2 (HI.out.keepB hb2 (Nat.le_refl _)) HM.out hcap hcm).mono ?_
  rintro e w3 ⟨N3, c3, F3, rfl, ho3, _, _, hb3⟩
  have HO3 := Lib.hid ho3.ring
  clear ho3
  have v1 : (!B == B) = false := by simp
  have v2 : (B == B) = true := by simp
  go_wp2_with fail
  refine (sameRing_same _ _ _ c2 c3 R w3 (HO2.out.keepB hb3 (Nat.le_refl _)) HO3.out rfl (small_of HSR.out)).mono ?_
  rintro e w4 ⟨rfl, hb4⟩
  have hB24 : Below w2.heap.size w2 w4 := hb3.trans (hb4.mono hb3.size)
  have hB14 : Below w1.heap.size w1 w4 := hb2.trans (hB24.mono hb2.size)
  have hBw : Below w.heap.size w w4 := hB1.trans (hB14.mono hB1.size)
  have HI4 := Lib.hid (HI.out.keepB hB14 (Nat.le_refl _))
  have HR4 := Lib.hid (HO2.out.keepB hB24 (Nat.le_refl _))
  rcases bool_cases B with hbv | hbv
  · subst hbv
    go_wp2_with fail
    refine (sameRing_same _ _ _ c2 c3 R w4 HR4.out (HO3.out.keepB hb4 (Nat.le_refl _)) rfl (small_of HSR.out)).mono ?_
    rintro e w5 ⟨rfl, hb5⟩
    go_wp2
    go_ret
    exact ⟨rfl, hBw.trans (hb5.mono hBw.size)⟩
  subst hbv
  clear v1 v2
  have HF : Hid (((oneB r i && ptB o) = true ∧ liveB r i = true) ∧ R = notR r (idxR r i) o) := by
    have h1 := HBE.out
    unfold selB at h1
    have h2 : (oneB r i && ptB o) = true ∧ liveB r i = true := by have h3 := h1.symm; rw [Bool.and_eq_true, Bool.and_eq_true] at h3; exact h3.1
    refine ⟨h2, ?_⟩
    rw [HRE.out]; unfold selR; rw [h2.1, h2.2]; rfl
  have HS := Lib.hid (one_safeK HF.out.1.1)
  have HV := Lib.hid (safe_rv HS.out)
  have HK := Lib.hid (idx_live HF.out.1.2)
  have HSAFE : Hid (safeB R = true) := by show _ = _; rw [HF.out.2]; exact (not_ok (o := o) HS.out HK.out.1).safe
  have HKP : Hid (KeepP r R) := by show KeepP _ _; rw [HF.out.2]; exact not_keepP (o := o) HS.out HK.out.1
  go_wp2_with fail
  refine (rsafe_any true _ _ c2 R w4 HR4.out rfl HMR.out HSAFE.out).mono ?_
  rintro e w5 ⟨rfl, hb5⟩
  go_wp2_with fail
  refine (keeps_any _ _ _ _ cap1 c2 r R w5 (HI4.out.keepB hb5 (Nat.le_refl _)) (HR4.out.keepB hb5 (Nat.le_refl _)) rfl rfl HM.out HMR.out HKP.out HV.out).mono ?_
  rintro e w6 ⟨rfl, hb6⟩
  go_wp2
  go_ret
  exact ⟨rfl, hBw.trans ((hb5.trans (hb6.mono hb5.size)).mono hBw.size)⟩

end Go.Proofs.Ytjpgimcammbhjaa
