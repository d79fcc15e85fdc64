/- What stabilizing does to the first successor. -/
import Derived.Test.YtcbbdhmloniolaaLawsDrop
import Derived.Deep.DrawnRows
import Derived.Test.YtcbbdhmloniolaaLawsH
import Derived.Test.YtcbbdhmloniolaaDrawS
import Derived.Test.YtcbbdhmloniolaaDrawK
import Derived.Test.YtcbbdhmloniolaaLawsActM
import Derived.Test.YtcbbdhmloniolaaCalmMath
import Derived.Test.YtcbbdhmloniolaaRel
namespace Go.Proofs.Ytcbbdhmloniolaa
open Go.RowKit
set_option linter.unusedVariables false

attribute [local go_sem ↓] Go.wp_at_zero Go.wp_at_succ

theorem not_len (r : List Nd) (k : Nat) (o : Int) : (notR r k o).length = r.length := by unfold notR; split <;> simp
theorem not_pos {r : List Nd} {k : Nat} {o : Int} : ∀ i, i < r.length → (gn (notR r k o) i).pos = (gn r i).pos := fun i hi => by
  unfold notR; split
  · rw [gn_set' hi]; split
    · rename_i e; rw [e]
    · rfl
  · rfl
theorem not_aft {r : List Nd} {k : Nat} {o : Int} : ∀ i, i < r.length → (gn (notR r k o) i).aft = (gn r i).aft := fun i hi => by
  unfold notR; split
  · rw [gn_set' hi]; split
    · rename_i e; rw [e]
    · rfl
  · rfl
/-- behind a stabilizing the first successor is live and knows a live predecessor -/
theorem stab_live {r : List Nd} {k : Nat} (h : safeB r = true) (hk : k < r.length) :
    liveB (stabR r k) (first (stabR r k) k) = true ∧ 0 ≤ (gn (stabR r k) (idxR (stabR r k) (first (stabR r k) k))).bef ∧ liveB (stabR r k) (gn (stabR r k) (idxR (stabR r k) (first (stabR r k) k))).bef = true := by
  obtain ⟨h3, hl3⟩ := stab3_ok h hk
  have hk3 : k < (stab3 r k).length := by rw [h3.len]; exact hk
  have e : stabR r k = notR (stab3 r k) (idxR (stab3 r k) (first (stab3 r k) k)) (gn (stab3 r k) k).pos := rfl
  rw [e]
  generalize stab3 r k = X at *
  clear e
  have hv := safe_rv h3.safe
  obtain ⟨hs, hso, _⟩ := idx_live hl3
  have hf : first (notR X (idxR X (first X k)) (gn X k).pos) k = first X k := by unfold first; rw [not_aft k hk3]
  have hl : ∀ x, liveB (notR X (idxR X (first X k)) (gn X k).pos) x = liveB X x := live_same (not_len _ _ _) not_pos
  rw [hf, hl, idx_same hv (not_len _ _ _) not_pos hl3]
  refine ⟨hl3, ?_⟩
  rw [hl]
  cases hb : notB X (idxR X (first X k)) (gn X k).pos
  · have e : notR X (idxR X (first X k)) (gn X k).pos = X := by unfold notR; rw [hb]; rfl
    rw [e]
    unfold notB at hb
    rw [live_at hk3, hso, decide_eq_false (show ¬ (gn X k).pos = first X k from fun e => (safe_self h3.safe hk3).1 e.symm)] at hb
    simp only [Bool.true_and, Bool.not_false, Bool.not_eq_false'] at hb
    unfold keepB at hb
    obtain ⟨h1, _⟩ := Bool.and_eq_true _ _ ▸ hb
    obtain ⟨h2, h4⟩ := Bool.and_eq_true _ _ ▸ h1
    exact ⟨of_decide_eq_true h2, h4⟩
  · have e : (gn (notR X (idxR X (first X k)) (gn X k).pos) (idxR X (first X k))).bef = (gn X k).pos := by unfold notR; rw [hb, if_pos rfl, gn_set' hs, if_pos rfl]
    rw [e]
    exact ⟨(live_pt hv (live_at hk3)).1, live_at hk3⟩
/-- a live first successor only comes nearer -/
theorem stab_near {r : List Nd} {k : Nat} (h : safeB r = true) (hk : k < r.length) (hl : liveB r (first r k) = true) :
    first (stabR r k) k = first r k ∨ btwI (gn r k).pos (first (stabR r k) k) (first r k) = true := by
  have hb : dropB r k = false := by simp [dropB, show liveB r (gt (gn r k).aft 0) = true from hl]
  have ed : drop2 r k = r := by rw [drop2, hb, if_neg (by simp), dropR, show liveB r (gt (gn r k).aft 0) = true from hl, if_pos rfl]
  have e2 : stab2 r k = adS r k := by rw [stab2, ed, adopt_adS hk hl]
  have hk2 : k < (adS r k).length := by rw [adS, List.length_set]; exact hk
  have f2 : first (adS r k) k = first r k := by rw [first, adS, gn_set' hk, if_pos rfl]; rfl
  have p2 : (gn (adS r k) k).pos = (gn r k).pos := by rw [adS, gn_set' hk, if_pos rfl]; rfl
  have f4 : first (stabR r k) k = first (stab3 r k) k := by
    have hk3 : k < (stab3 r k).length := by rw [(stab3_ok h hk).1.len]; exact hk
    rw [stabR, first, not_aft k hk3]; rfl
  rw [f4, stab3, e2]
  split
  · unfold closerR
    split
    · rename_i hc
      unfold closerB at hc
      obtain ⟨h1, h3⟩ := Bool.and_eq_true _ _ ▸ hc
      refine .inr ?_
      rw [p2, show gt (gn (adS r k) k).aft 0 = first r k from f2] at h3
      have : first (folR (adS r k) k (idxR (adS r k) (gn (adS r k) (idxR (adS r k) (first (adS r k) k))).bef)) k = (gn (adS r k) (idxR (adS r k) (first (adS r k) k))).bef := by
        rw [first, folR, gn_set' hk2, if_pos rfl]
        exact (idx_live h1).2.1
      rw [this]; exact h3
    · exact .inl f2
  · exact .inl f2
theorem nd_of_live {R : List Nd} {x : Int} (hv : rvB R = true) (hl : liveB R x = true) : ndAt R x = ⟨x, (gn R (idxR R x)).bef, [gt (gn R (idxR R x)).aft 0, gt (gn R (idxR R x)).aft 1]⟩ := by
  unfold ndAt; rw [if_pos hl]
  exact nd_ext3 (idx_live hl).2.1 rfl (nd_open hv (idx_live hl).1).2.2.2.2
theorem dist_btw3 {a o b : Int} (ha : 0 ≤ a ∧ a < 64) (ho : 0 ≤ o ∧ o < 64) (hb : 0 ≤ b ∧ b < 64) (hn : b ≠ a) (h : btwI a o b = true) : dstI a o ≤ dstI a b := by
  have h1 : ptB a = true := (ptB_iff a).2 ha
  have h2 : ptB o = true := (ptB_iff o).2 ho
  have h3 : ptB b = true := (ptB_iff b).2 hb
  rw [btwI_iff] at h
  unfold dstI dist
  rw [h1, h2, h3]
  show (o - a) % 64 ≤ (b - a) % 64
  omega

set_option maxRecDepth 20000 in
set_option maxHeartbeats 4000000 in
theorem stabLive (s : Option Addr) (len cap : Nat) (z : List Int) (w : World) (h : RowIn .u8 w s len cap z) :
    Calls Try.prog 6 #[.slice s len cap] w fun e w' => e = .returned (.bool true) ∧ Below w.heap.size w w' := by
  have hb := bytes_of_row h
  have hm : len ≤ maxLen := Nat.le_trans hb.1 hb.2.1
  unfold maxLen at hm
  clear h
  by_cases hl : 1048576 < len
  · go_enter Try.func6, Try.ntmps6
    go_wp2
    go_ret
    exact ⟨rfl, Below.refl _ _⟩
  have hlB : decide ((1048576 : Int) < (len : Int)) = false := by simp; omega
  go_enter Try.func6, Try.ntmps6
  go_wp2_with fail
  refine (drawRingStabilize s len cap w hb).mono ?_
  rintro e w1 ⟨N, cap1, r, i, rfl, hr1, h10, hcap, hcm, hB1⟩
  have HI := Lib.hid hr1
  have hmx : r.length ≤ maxLen := by unfold maxLen; omega
  have HM := Lib.hid hmx
  have HIM0 := fun w0 (h : RingAt w0 (some ⟨N, 0, none⟩) r) (hm : r.length ≤ maxLen) => rstab_any _ _ cap1 i r w0 h rfl hm
  have HSP0 := fun w0 (h : RingAt w0 (some ⟨N, 0, none⟩) r) (hm : r.length ≤ maxLen) (hc : r.length ≤ cap1) (hcm : cap1 ≤ maxLen) => srstab_any _ _ cap1 i r w0 h rfl hm
  have HSR0 : szR (selR r (oneB r i) i (stabR r)) ≤ 1048576 := sel_sz4 (fun hs k hk => safe_rv (stab_ok hs hk).safe) (fun h => by exact (by simpa [oneB] using h : safeB r = true ∧ ptB i = true).1)
  obtain ⟨R, hR⟩ : ∃ R, R = (selR r (oneB r i) i (stabR r)) := ⟨_, rfl⟩
  obtain ⟨B, hBB⟩ : ∃ B, B = (selB r (oneB r i) i (fun _ => true)) := ⟨_, rfl⟩
  simp only [← hR, ← hBB] at HIM0 HSP0 HSR0
  have HIM := Lib.hid HIM0
  have HSP := Lib.hid HSP0
  have HSR := Lib.hid HSR0
  have HRE := Lib.hid hR
  have HBE := Lib.hid hBB
  have HMR : Hid (R.length ≤ maxLen) := small_max HSR0
  clear hr1 hmx hlB HIM0 HSP0 HSR0 hR hBB
  go_wp2_with fail
  refine (HIM.out w1 HI.out HM.out).mono ?_
  rintro e w2 ⟨N2, c2, F2, rfl, ho2, hc2, hcm2, hb2⟩
  have HO2 := Lib.hid ho2.ring
  clear ho2
  go_wp2_with fail
  refine (HSP.out w2 (HI.out.keepB hb2 (Nat.le_refl _)) HM.out hcap hcm).mono ?_
  rintro e w3 ⟨N3, c3, F3, rfl, ho3, _, _, hb3⟩
  have HO3 := Lib.hid ho3.ring
  clear ho3
  have v1 : (!B == B) = false := by simp
  have v2 : (B == B) = true := by simp
  go_wp2_with fail
  refine (sameRing_same _ _ _ c2 c3 R w3 (HO2.out.keepB hb3 (Nat.le_refl _)) HO3.out rfl (small_of HSR.out)).mono ?_
  rintro e w4 ⟨rfl, hb4⟩
  have hB24 : Below w2.heap.size w2 w4 := hb3.trans (hb4.mono hb3.size)
  have hB14 : Below w1.heap.size w1 w4 := hb2.trans (hB24.mono hb2.size)
  have hBw : Below w.heap.size w w4 := hB1.trans (hB14.mono hB1.size)
  have HI4 := Lib.hid (HI.out.keepB hB14 (Nat.le_refl _))
  have HR4 := Lib.hid (HO2.out.keepB hB24 (Nat.le_refl _))
  rcases bool_cases B with hbv | hbv
  · subst hbv
    go_wp2_with fail
    refine (sameRing_same _ _ _ c2 c3 R w4 HR4.out (HO3.out.keepB hb4 (Nat.le_refl _)) rfl (small_of HSR.out)).mono ?_
    rintro e w5 ⟨rfl, hb5⟩
    go_wp2
    go_ret
    exact ⟨rfl, hBw.trans (hb5.mono hBw.size)⟩
  subst hbv
  clear v1 v2
  have HF : Hid ((oneB r i = true ∧ liveB r i = true) ∧ R = stabR r (idxR r i)) := by
    have h1 := HBE.out
    unfold selB at h1
    have h2 : oneB r i = true ∧ liveB r i = true := by simpa using h1.symm
    refine ⟨h2, ?_⟩
    rw [HRE.out]; unfold selR; rw [h2.1, h2.2]; rfl
  have HK := Lib.hid (idx_live HF.out.1.2)
  have HS := Lib.hid (one_safe HF.out.1.1)
  have HSO : Hid (SetOk r R) := by show SetOk _ _; rw [HF.out.2]; exact stab_ok HS.out HK.out.1
  have HVR := Lib.hid (safe_rv HSO.out.safe)
  have HST := stab_live HS.out HK.out.1
  rw [← HF.out.2] at HST
  have hli : liveB R i = true := by rw [live_same HSO.out.len HSO.out.pos]; exact HF.out.1.2
  have hix : idxR R i = idxR r i := idx_same (safe_rv HS.out) HSO.out.len HSO.out.pos HF.out.1.2
  rw [← hix] at HST
  have n1 := nd_of_live HVR.out hli
  obtain ⟨A, hA⟩ : ∃ A, A = first R (idxR R i) := ⟨_, rfl⟩
  rw [show gt (gn R (idxR R i)).aft 0 = A from hA.symm] at n1
  rw [← hA] at HST
  have n2 := nd_of_live HVR.out HST.1
  obtain ⟨Q, hQ⟩ : ∃ Q, Q = (gn R (idxR R A)).bef := ⟨_, rfl⟩
  rw [← hQ] at HST n2
  have n3 := nd_of_live HVR.out HST.2.2
  have hA0 := (live_pt HVR.out HST.1).1
  have hQ0 := HST.2.1
  obtain ⟨A1, hA1⟩ : ∃ x, x = gt (gn R (idxR R i)).aft 1 := ⟨_, rfl⟩
  obtain ⟨B1, hB1'⟩ : ∃ x, x = (gn R (idxR R i)).bef := ⟨_, rfl⟩
  obtain ⟨C0, hC0⟩ : ∃ x, x = gt (gn R (idxR R A)).aft 0 := ⟨_, rfl⟩
  obtain ⟨C1, hC1⟩ : ∃ x, x = gt (gn R (idxR R A)).aft 1 := ⟨_, rfl⟩
  obtain ⟨D0, hD0⟩ : ∃ x, x = gt (gn R (idxR R Q)).aft 0 := ⟨_, rfl⟩
  obtain ⟨D1, hD1⟩ : ∃ x, x = gt (gn R (idxR R Q)).aft 1 := ⟨_, rfl⟩
  obtain ⟨D2, hD2⟩ : ∃ x, x = (gn R (idxR R Q)).bef := ⟨_, rfl⟩
  rw [← hA1, ← hB1'] at n1
  rw [← hC0, ← hC1] at n2
  rw [← hD0, ← hD1, ← hD2] at n3
  have HN1 := Lib.hid n1
  have HN2 := Lib.hid n2
  have HN3 := Lib.hid n3
  have a0 : decide (A ≥ 0) = true := decide_eq_true hA0
  have q0 : decide (Q ≥ 0) = true := decide_eq_true hQ0
  have a0' : decide (0 ≤ A) = true := decide_eq_true hA0
  have q0' : decide (0 ≤ Q) = true := decide_eq_true hQ0
  have f0 : ∀ (v b : Int) (a : Option Addr) (l c : Nat) (w : World), (Instr.field 28 (.agg #[.int .i64 v, .int .i64 b, .slice a l c]) 0).run Try.prog w = .ok (.int .i64 v) w := fieldId
  have f2 : ∀ (v b : Int) (a : Option Addr) (l c : Nat) (w : World), (Instr.field 28 (.agg #[.int .i64 v, .int .i64 b, .slice a l c]) 2).run Try.prog w = .ok (.slice a l c) w := fieldAft
  clear hA hQ hA1 hB1' hC0 hC1 hD0 hD1 hD2 n1 n2 n3 HST hli hix hA0 hQ0 hb2 hb3 hb4 hB24 hB14 HIM HSP hB1 hcap hcm hl hm HBE
  go_wp2_with fail
  have hn1 := nodeAt_full _ _ c2 i R w4 HR4.out rfl HMR.out HVR.out
  unfold NodeFull at hn1
  rw [HN1.out] at hn1
  refine hn1.mono ?_
  rintro e w5 ⟨sa, sc, rfl, hsc, hin5, hb5⟩
  clear hn1
  obtain ⟨b5, o5, rfl, hbl5, hx5, hy5⟩ := ints_two hin5
  have HR5 := Lib.hid (HR4.out.keepB hb5 (Nat.le_refl _))
  have HB5 := Lib.hid (hBw.trans (hb5.mono hBw.size))
  clear hin5 hb5 hBw hy5
  go_wp2_with fail
  have hn1 := nodeAt_full _ _ c2 A R w5 HR5.out rfl HMR.out HVR.out
  unfold NodeFull at hn1
  rw [HN2.out] at hn1
  refine hn1.mono ?_
  rintro e w6 ⟨sa, sd, rfl, hsd, hin6, hb6⟩
  clear hn1
  have HR6 := Lib.hid (HR5.out.keepB hb6 (Nat.le_refl _))
  have HB6 := Lib.hid (HB5.out.trans (hb6.mono HB5.out.size))
  clear hin6 hb6 hx5
  go_wp2_with fail
  have HBA : Hid (Below w6.heap.size w6 (w6.alloc (.cells #[.int .i64 A, .int .i64 Q, .slice sa 2 sd] 28 (0, 0)))) := (Below.refl _ _).alloc (Nat.le_refl _) _
  have HR7 := Lib.hid (HR6.out.keepB HBA.out (Nat.le_refl _))
  have HB7 := Lib.hid (HB6.out.trans (HBA.out.mono HB6.out.size))
  generalize hgw : w6.alloc (.cells #[.int .i64 A, .int .i64 Q, .slice sa 2 sd] 28 (0, 0)) = w7 at HBA HR7 HB7 ⊢
  clear hgw HBA
  have hn1 := nodeAt_full _ _ c2 Q R w7 HR7.out rfl HMR.out HVR.out
  unfold NodeFull at hn1
  rw [HN3.out] at hn1
  refine hn1.mono ?_
  rintro e w8 ⟨sf, se, rfl, hse, hin8, hb8⟩
  clear hn1
  go_wp2
  go_ret
  exact ⟨rfl, HB7.out.trans (hb8.mono HB7.out.size)⟩

set_option maxRecDepth 20000 in
set_option maxHeartbeats 4000000 in
theorem stabNear (s : Option Addr) (len cap : Nat) (z : List Int) (w : World) (h : RowIn .u8 w s len cap z) :
    Calls Try.prog 7 #[.slice s len cap] w fun e w' => e = .returned (.bool true) ∧ Below w.heap.size w w' := by
  have hb := bytes_of_row h
  have hm : len ≤ maxLen := Nat.le_trans hb.1 hb.2.1
  unfold maxLen at hm
  clear h
  by_cases hl : 1048576 < len
  · go_enter Try.func7, Try.ntmps7
    go_wp2
    go_ret
    exact ⟨rfl, Below.refl _ _⟩
  have hlB : decide ((1048576 : Int) < (len : Int)) = false := by simp; omega
  go_enter Try.func7, Try.ntmps7
  go_wp2_with fail
  refine (drawRingStabilize s len cap w hb).mono ?_
  rintro e w1 ⟨N, cap1, r, i, rfl, hr1, h10, hcap, hcm, hB1⟩
  have HI := Lib.hid hr1
  have hmx : r.length ≤ maxLen := by unfold maxLen; omega
  have HM := Lib.hid hmx
  have HIM0 := fun w0 (h : RingAt w0 (some ⟨N, 0, none⟩) r) (hm : r.length ≤ maxLen) => rstab_any _ _ cap1 i r w0 h rfl hm
  have HSP0 := fun w0 (h : RingAt w0 (some ⟨N, 0, none⟩) r) (hm : r.length ≤ maxLen) (hc : r.length ≤ cap1) (hcm : cap1 ≤ maxLen) => srstab_any _ _ cap1 i r w0 h rfl hm
  have HSR0 : szR (selR r (oneB r i) i (stabR r)) ≤ 1048576 := sel_sz4 (fun hs k hk => safe_rv (stab_ok hs hk).safe) (fun h => by exact (by simpa [oneB] using h : safeB r = true ∧ ptB i = true).1)
  obtain ⟨R, hR⟩ : ∃ R, R = (selR r (oneB r i) i (stabR r)) := ⟨_, rfl⟩
  obtain ⟨B, hBB⟩ : ∃ B, B = (selB r (oneB r i) i (fun _ => true)) := ⟨_, rfl⟩
  simp only [← hR, ← hBB] at HIM0 HSP0 HSR0
  have HIM := Lib.hid HIM0
  have HSP := Lib.hid HSP0
  have HSR := Lib.hid HSR0
  have HRE := Lib.hid hR
  have HBE := Lib.hid hBB
  have HMR : Hid (R.length ≤ maxLen) := small_max HSR0
  clear hr1 hmx hlB HIM0 HSP0 HSR0 hR hBB
  go_wp2_with fail
  refine (HIM.out w1 HI.out HM.out).mono ?_
  rintro e w2 ⟨N2, c2, F2, rfl, ho2, hc2, hcm2, hb2⟩
  have HO2 := Lib.hid ho2.ring
  clear ho2
  go_wp2_with fail
  refine (HSP.out w2 (HI.out.keepB hb2 (Nat.le_refl _)) HM.out hcap hcm).mono ?_
  rintro e w3 ⟨N3, c3, F3, rfl, ho3, _, _, hb3⟩
  have HO3 := Lib.hid ho3.ring
  clear ho3
  have v1 : (!B == B) = false := by simp
  have v2 : (B == B) = true := by simp
  go_wp2_with fail
  refine (sameRing_same _ _ _ c2 c3 R w3 (HO2.out.keepB hb3 (Nat.le_refl _)) HO3.out rfl (small_of HSR.out)).mono ?_
  rintro e w4 ⟨rfl, hb4⟩
  have hB24 : Below w2.heap.size w2 w4 := hb3.trans (hb4.mono hb3.size)
  have hB14 : Below w1.heap.size w1 w4 := hb2.trans (hB24.mono hb2.size)
  have hBw : Below w.heap.size w w4 := hB1.trans (hB14.mono hB1.size)
  have HI4 := Lib.hid (HI.out.keepB hB14 (Nat.le_refl _))
  have HR4 := Lib.hid (HO2.out.keepB hB24 (Nat.le_refl _))
  rcases bool_cases B with hbv | hbv
  · subst hbv
    go_wp2_with fail
    refine (sameRing_same _ _ _ c2 c3 R w4 HR4.out (HO3.out.keepB hb4 (Nat.le_refl _)) rfl (small_of HSR.out)).mono ?_
    rintro e w5 ⟨rfl, hb5⟩
    go_wp2
    go_ret
    exact ⟨rfl, hBw.trans (hb5.mono hBw.size)⟩
  subst hbv
  clear v1 v2
  have HF : Hid ((oneB r i = true ∧ liveB r i = true) ∧ R = stabR r (idxR r i)) := by
    have h1 := HBE.out
    unfold selB at h1
    have h2 : oneB r i = true ∧ liveB r i = true := by simpa using h1.symm
    refine ⟨h2, ?_⟩
    rw [HRE.out]; unfold selR; rw [h2.1, h2.2]; rfl
  have HK := Lib.hid (idx_live HF.out.1.2)
  have HS := Lib.hid (one_safe HF.out.1.1)
  have HSO : Hid (SetOk r R) := by show SetOk _ _; rw [HF.out.2]; exact stab_ok HS.out HK.out.1
  have HV := Lib.hid (safe_rv HS.out)
  have HVR := Lib.hid (safe_rv HSO.out.safe)
  have HST : liveB r (first r (idxR r i)) = true → first R (idxR r i) = first r (idxR r i) ∨ btwI (gn r (idxR r i)).pos (first R (idxR r i)) (first r (idxR r i)) = true := fun h => by rw [HF.out.2]; exact stab_near HS.out HK.out.1 h
  have hli : liveB R i = true := by rw [live_same HSO.out.len HSO.out.pos]; exact HF.out.1.2
  have hix : idxR R i = idxR r i := idx_same (safe_rv HS.out) HSO.out.len HSO.out.pos HF.out.1.2
  have n1 := nd_of_live HV.out HF.out.1.2
  have n2 := nd_of_live HVR.out hli
  rw [hix] at n2
  have hAp : 0 ≤ first r (idxR r i) ∧ first r (idxR r i) < 64 := (nd_open HV.out HK.out.1).2.2.1
  have hDp : 0 ≤ first R (idxR r i) ∧ first R (idxR r i) < 64 := (nd_open HVR.out (show idxR r i < R.length by rw [HSO.out.len]; exact HK.out.1)).2.2.1
  have hip : 0 ≤ i ∧ i < 64 := live_pt HV.out HF.out.1.2
  have hse := (safe_self HS.out HK.out.1).1
  rw [HK.out.2.1] at hse HST
  obtain ⟨A, hA⟩ : ∃ A, A = first r (idxR r i) := ⟨_, rfl⟩
  obtain ⟨D, hD⟩ : ∃ D, D = first R (idxR r i) := ⟨_, rfl⟩
  rw [show gt (gn r (idxR r i)).aft 0 = A from hA.symm] at n1 hse
  rw [show gt (gn R (idxR r i)).aft 0 = D from hD.symm] at n2
  rw [← hA, ← hD] at HST
  rw [← hA] at hAp
  rw [← hD] at hDp
  have HDS : Hid (liveB r A = true → dstI i D ≤ dstI i A) := fun h => by
    rcases HST h with e | e
    · rw [e]; exact Int.le_refl _
    · exact dist_btw3 hip hDp hAp hse e
  obtain ⟨A1, hA1⟩ : ∃ x, x = gt (gn r (idxR r i)).aft 1 := ⟨_, rfl⟩
  obtain ⟨P1, hP1⟩ : ∃ x, x = (gn r (idxR r i)).bef := ⟨_, rfl⟩
  obtain ⟨D1, hD1⟩ : ∃ x, x = gt (gn R (idxR r i)).aft 1 := ⟨_, rfl⟩
  obtain ⟨P2, hP2⟩ : ∃ x, x = (gn R (idxR r i)).bef := ⟨_, rfl⟩
  rw [← hA1, ← hP1] at n1
  rw [← hD1, ← hP2] at n2
  have HN1 := Lib.hid n1
  have HN2 := Lib.hid n2
  have hA00 : 0 ≤ A := hAp.1
  clear hA hD hA1 hP1 hD1 hP2 n1 n2 HST hli hix hAp hDp hip hse hb2 hb3 hb4 hB24 hB14 HIM HSP hB1 hcap hcm hl hm HBE
  go_wp2_with fail
  have hn1 := nodeAt_full _ _ cap1 i r w4 HI4.out rfl HM.out HV.out
  unfold NodeFull at hn1
  rw [HN1.out] at hn1
  refine hn1.mono ?_
  rintro e w5 ⟨sa, sc, rfl, hsc, hin5, hb5⟩
  clear hn1
  obtain ⟨b5, o5, rfl, hbl5, hx5, hy5⟩ := ints_two hin5
  have HI5 := Lib.hid (HI4.out.keepB hb5 (Nat.le_refl _))
  have HR5 := Lib.hid (HR4.out.keepB hb5 (Nat.le_refl _))
  have HB5 := Lib.hid (hBw.trans (hb5.mono hBw.size))
  clear hin5 hb5 hBw hy5
  go_wp2_with fail
  have HBA : Hid (Below w5.heap.size w5 (w5.alloc (.cells #[.int .i64 i, .int .i64 P1, .slice (some ⟨b5, o5, none⟩) 2 sc] 28 (0, 0)))) := (Below.refl _ _).alloc (Nat.le_refl _) _
  have HC6 : Hid ((w5.alloc (.cells #[.int .i64 i, .int .i64 P1, .slice (some ⟨b5, o5, none⟩) 2 sc] 28 (0, 0))).cell? ⟨w5.heap.size, 2, none⟩ = some (.slice (some ⟨b5, o5, none⟩) 2 sc)) := by show _ = _; rw [World.cell?_alloc_at _ _ _ _ rfl]; rfl
  have HX6 := Lib.hid (bcell2 HBA.out hx5)
  have HI6 := Lib.hid (HI5.out.keepB HBA.out (Nat.le_refl _))
  have HR6 := Lib.hid (HR5.out.keepB HBA.out (Nat.le_refl _))
  have HB6 := Lib.hid (HB5.out.trans (HBA.out.mono HB5.out.size))
  generalize hgw : w5.alloc (.cells #[.int .i64 i, .int .i64 P1, .slice (some ⟨b5, o5, none⟩) 2 sc] 28 (0, 0)) = w6 at HBA HC6 HX6 HI6 HR6 HB6 ⊢
  generalize hgm : w5.heap.size = m6 at HC6 ⊢
  clear hgw HBA hx5 HI5 HR5 hgm hbl5
  have hn1 := nodeAt_full _ _ c2 i R w6 HR6.out rfl HMR.out HVR.out
  unfold NodeFull at hn1
  rw [HN2.out] at hn1
  refine hn1.mono ?_
  rintro e w7 ⟨sa, sd, rfl, hsd, hin7, hb7⟩
  clear hn1
  obtain ⟨b7, o7, rfl, hbl7, hx7, hy7⟩ := ints_two hin7
  clear hin7 hbl7 hy7
  have HI7 := Lib.hid (HI6.out.keepB hb7 (Nat.le_refl _))
  have HC7 := Lib.hid (bcell2 hb7 HC6.out)
  have HX7 := Lib.hid (bcell2 hb7 HX6.out)
  have HB7 := Lib.hid (HB6.out.trans (hb7.mono HB6.out.size))
  clear HC6 HX6 HI6 HR6 HB6 hb7
  go_wp2_with fail
  have HBA : Hid (Below w7.heap.size w7 (w7.alloc (.cells #[.int .i64 i, .int .i64 P2, .slice (some ⟨b7, o7, none⟩) 2 sd] 28 (0, 0)))) := (Below.refl _ _).alloc (Nat.le_refl _) _
  have HD8 : Hid ((w7.alloc (.cells #[.int .i64 i, .int .i64 P2, .slice (some ⟨b7, o7, none⟩) 2 sd] 28 (0, 0))).cell? ⟨w7.heap.size, 2, none⟩ = some (.slice (some ⟨b7, o7, none⟩) 2 sd)) := by show _ = _; rw [World.cell?_alloc_at _ _ _ _ rfl]; rfl
  have HU8 := Lib.hid (bcell2 HBA.out hx7)
  have HC8 := Lib.hid (bcell2 HBA.out HC7.out)
  have HX8 := Lib.hid (bcell2 HBA.out HX7.out)
  have HI8 := Lib.hid (HI7.out.keepB HBA.out (Nat.le_refl _))
  have HB8 := Lib.hid (HB7.out.trans (HBA.out.mono HB7.out.size))
  generalize hgw : w7.alloc (.cells #[.int .i64 i, .int .i64 P2, .slice (some ⟨b7, o7, none⟩) 2 sd] 28 (0, 0)) = w8 at HBA HD8 HU8 HC8 HX8 HI8 HB8 ⊢
  generalize hgm : w7.heap.size = m8 at HD8 ⊢
  clear hgw hgm HBA hx7 HC7 HX7 HI7 HB7
  obtain ⟨V, hV⟩ : ∃ V, V = (ndAt r A).pos := ⟨_, rfl⟩
  have HCB : Hid (∀ w', Below w8.heap.size w8 w' → Calls Try.prog 16 #[.slice (some ⟨N, 0, none⟩) r.length cap1, .int .i64 A] w' fun e w'' => ∃ (b : Int) (a : Option Addr) (l c : Nat), e = .returned (.agg #[.int .i64 V, .int .i64 b, .slice a l c]) ∧ Below w8.heap.size w8 w'') := fun w' hb' => by
    have hn1 := nodeAt_full _ _ cap1 A r w' (HI8.out.keepB hb' (Nat.le_refl _)) rfl HM.out HV.out
    refine hn1.mono ?_
    rintro e w'' ⟨sa, se, rfl, _, _, hb''⟩
    rw [hV]
    exact ⟨_, _, _, _, rfl, hb'.trans (hb''.mono hb'.size)⟩
  obtain ⟨g, hg⟩ : ∃ g : Int → Int → Int, g = dstI := ⟨_, rfl⟩
  have HCD : Hid (∀ (x y : Int) (w' : World), Calls Try.prog 17 #[.int .i64 x, .int .i64 y] w' fun e w'' => e = .returned (.int .i64 (g x y)) ∧ w' = w'') := fun x y w' => by rw [hg]; exact cdst_any x y w'
  have HGD : Hid (liveB r A = true → g i D ≤ g i A) := by rw [hg]; exact HDS.out
  clear hg HDS
  have e0 : ∀ x : Cls (Below w8.heap.size w8), x.to.cell? ⟨m6, 2, none⟩ = some (.slice (some ⟨b5, o5, none⟩) 2 sc) := fun x => bcell2 x.ok HC8.out
  have e1 : ∀ x : Cls (Below w8.heap.size w8), x.to.cell? ⟨b5, o5, none⟩ = some (.int .i64 A) := fun x => bcell2 x.ok HX8.out
  have e2 : ∀ x : Cls (Below w8.heap.size w8), x.to.cell? ⟨m8, 2, none⟩ = some (.slice (some ⟨b7, o7, none⟩) 2 sd) := fun x => bcell2 x.ok HD8.out
  have e3 : ∀ x : Cls (Below w8.heap.size w8), x.to.cell? ⟨b7, o7, none⟩ = some (.int .i64 D) := fun x => bcell2 x.ok HU8.out
  have f0 : ∀ (v b : Int) (a : Option Addr) (l c : Nat) (w : World), (Instr.field 28 (.agg #[.int .i64 v, .int .i64 b, .slice a l c]) 0).run Try.prog w = .ok (.int .i64 v) w := fieldId
  have hVV : V = if liveB r A then A else -1 := by
    rw [hV]; unfold ndAt
    split
    · rename_i h; exact (idx_live h).2.1
    · rfl
  clear hV
  cases hlq : liveB r A
  · have hvB : decide (V < 0) = true := by rw [hVV, hlq]; rfl
    clear hVV hlq
    go_wp2
    refine wp_region_rel (fun w' => ∃ x : Cls (Below w8.heap.size w8), w' = x.to) (by kernel_rfl) (by kernel_rfl) ⟨⟨_, below_drawn⟩, rfl⟩ ?_
    repeat (refine relEx_want (by rfl) (fun K hK => ?_); go_big_quiet_op; refine hK _ ?_; clear hK K)
    refine relEx_call (fun v => ∃ (b : Int) (a : Option Addr) (l c : Nat), v = .agg #[.int .i64 V, .int .i64 b, .slice a l c]) [(fun u => u = .int .i64 V), (fun u => u = .bool true), (fun u => u = .bool true), (fun u => u = undef), (fun u => u = undef), (fun u => u = undef), (fun u => u = undef), (fun u => u = undef), (fun u => u = undef), (fun u => u = undef), (fun u => u = undef), (fun u => u = undef), (fun u => u = undef), (fun u => u = undef), (fun u => u = undef), (fun u => u = undef), (fun u => u = .bool true), (fun u => u = .bool true)] ⟨_, 0, none, 0, 0, rfl⟩ 16 #[.slice (some ⟨N, 0, none⟩) r.length cap1, .int .i64 A] (fun w => by simp [go_sem]) (fun w hC => ?_) (by rfl) ?_
    · obtain ⟨x, rfl⟩ := hC
      refine (HCB.out _ x.ok).mono ?_
      rintro e w' ⟨b, a, l, c, rfl, hb'⟩
      exact ⟨_, rfl, ⟨b, a, l, c, rfl⟩, ⟨⟨w', hb'⟩, rfl⟩⟩
    rintro v ⟨b9, a9, l9, c9, rfl⟩
    repeat (first
      | (refine relLex_skip (by rfl) ?_; simp only [Act.put, List.setIfInBounds_toArray, List.set_cons_zero, List.set_cons_succ])
      | (refine relLex_want _ (by rfl) ?_ ?_; (focus (intro w hC; first | rfl | exact f0 _ _ _ _ _ _ | (obtain ⟨x, rfl⟩ := hC; simp [go_sem, hvB]; done))); simp only [Act.put, List.setIfInBounds_toArray, List.set_cons_zero, List.set_cons_succ]))
    refine relLex_nil ?_
    intro w9 hw'
    have hba := cls_out hw'
    clear hw' e0 e1 e2 e3
    go_wp2
    go_ret
    exact ⟨rfl, HB8.out.trans (hba.mono HB8.out.size)⟩
  have hvA : V = A := by rw [hVV, hlq]; rfl
  have hgd : decide (g i D ≤ g i A) = true := decide_eq_true (HGD.out hlq)
  have HLQ := Lib.hid hlq
  have hvB : decide (A < 0) = false := by simp; omega
  subst hvA
  clear hVV hlq
  go_wp2
  refine wp_region_rel (fun w' => ∃ x : Cls (Below w8.heap.size w8), w' = x.to) (by kernel_rfl) (by kernel_rfl) ⟨⟨_, below_drawn⟩, rfl⟩ ?_
  repeat (refine relEx_want (by rfl) (fun K hK => ?_); go_big_quiet_op; refine hK _ ?_; clear hK K)
  have HCD2 : Hid (∀ (p q : Int) (x : Cls (Below w8.heap.size w8)), Calls Try.prog 17 #[.int .i64 p, .int .i64 q] x.to fun e w'' => ∃ v, e = .returned v ∧ (fun u => u = .int .i64 (g p q)) v ∧ ∃ y : Cls (Below w8.heap.size w8), w'' = y.to) := fun p q x => (HCD.out p q x.to).mono (fun e w'' ⟨he, hw⟩ => ⟨_, he, rfl, ⟨x, hw.symm⟩⟩)
  refine relEx_call (fun v => ∃ (b : Int) (a : Option Addr) (l c : Nat), v = .agg #[.int .i64 V, .int .i64 b, .slice a l c])
    [(fun u => u = .int .i64 V), (fun u => u = .bool false), (fun u => u = .bool false), (fun u => u = .int .i64 i), (fun u => u = .pointer (some ⟨m8, 2, none⟩)), (fun u => u = .slice (some ⟨b7, o7, none⟩) 2 sd), (fun u => u = .pointer (some ⟨b7, o7, none⟩)), (fun u => u = .int .i64 D), (fun u => u = .int .i64 (g i D)),
     (fun u => u = .int .i64 i), (fun u => u = .pointer (some ⟨m6, 2, none⟩)), (fun u => u = .slice (some ⟨b5, o5, none⟩) 2 sc), (fun u => u = .pointer (some ⟨b5, o5, none⟩)), (fun u => u = .int .i64 V), (fun u => u = .int .i64 (g i V)), (fun u => u = .bool true), (fun u => u = .bool true), (fun u => u = .bool true)] ⟨_, 0, none, 0, 0, rfl⟩ 16 #[.slice (some ⟨N, 0, none⟩) r.length cap1, .int .i64 V] (fun w => by simp [go_sem]) (fun w hC => ?_) (by rfl) ?_
  · obtain ⟨x, rfl⟩ := hC
    refine (HCB.out _ x.ok).mono ?_
    rintro e w' ⟨b, a, l, c, rfl, hb'⟩
    exact ⟨_, rfl, ⟨b, a, l, c, rfl⟩, ⟨⟨w', hb'⟩, rfl⟩⟩
  rintro v ⟨b9, a9, l9, c9, rfl⟩
  iterate 8 (refine relLex_want _ (by rfl) ?_ ?_; (focus (intro w hC; first | rfl | exact f0 _ _ _ _ _ _ | (obtain ⟨x, rfl⟩ := hC; simp [go_sem, hvB, e2, e3]; done))); simp only [Act.put, List.setIfInBounds_toArray, List.set_cons_zero, List.set_cons_succ])
  refine relLex_call 17 #[.int .i64 i, .int .i64 D] (fun w => by simp [go_sem]) (fun w hC => ?_) (by rfl) ⟨_, rfl⟩ ?_
  · obtain ⟨x, rfl⟩ := hC; exact HCD2.out _ _ x
  intro v hv
  subst hv
  simp only [Act.put, List.setIfInBounds_toArray, List.set_cons_zero, List.set_cons_succ]
  iterate 5 (refine relLex_want _ (by rfl) ?_ ?_; (focus (intro w hC; first | rfl | exact f0 _ _ _ _ _ _ | (obtain ⟨x, rfl⟩ := hC; simp [go_sem, e0, e1]; done))); simp only [Act.put, List.setIfInBounds_toArray, List.set_cons_zero, List.set_cons_succ])
  refine relLex_call 17 #[.int .i64 i, .int .i64 V] (fun w => by simp [go_sem]) (fun w hC => ?_) (by rfl) ⟨_, rfl⟩ ?_
  · obtain ⟨x, rfl⟩ := hC; exact HCD2.out _ _ x
  intro v hv
  subst hv
  simp only [Act.put, List.setIfInBounds_toArray, List.set_cons_zero, List.set_cons_succ]
  iterate 3 (refine relLex_want _ (by rfl) ?_ ?_; (focus (intro w hC; first | rfl | exact f0 _ _ _ _ _ _ | (obtain ⟨x, rfl⟩ := hC; simp [go_sem, hgd]; done))); simp only [Act.put, List.setIfInBounds_toArray, List.set_cons_zero, List.set_cons_succ])
  refine relLex_nil ?_
  intro w9 hw'
  have hba := cls_out hw'
  clear hw' e0 e1 e2 e3
  go_wp2
  go_ret
  exact ⟨rfl, HB8.out.trans (hba.mono HB8.out.size)⟩
end Go.Proofs.Ytcbbdhmloniolaa
