/- The laws of failing. -/
import Derived.Test.YtndjkokipiikpaaNwFail
import Derived.Test.YtndjkokipiikpaaNwCalm
import Derived.Test.YtndjkokipiikpaaLawsH
import Derived.Test.YtndjkokipiikpaaDrawS
namespace Go.Proofs.Ytndjkokipiikpaa
open Go.RowKit
set_option linter.unusedVariables false

theorem prV_of2 {r : List Nd} (h : rvB r = true) : prV r = prL r := by unfold prV; rw [if_pos h]
/-- a node of the cut ring -/
theorem cut_mem {r : List Nd} {k : Nat} (hk : k < r.length) {i : Nat} (hi : i < (cutR r k).length) : ∃ j, j < r.length ∧ j ≠ k ∧ gn (cutR r k) i = gn r j := by
  have hl := cut_len (r := r) hk
  rw [cut_at hk (by omega)]
  by_cases h1 : i < k
  · rw [if_pos h1]; exact ⟨i, by omega, by omega, rfl⟩
  · rw [if_neg h1]; exact ⟨i + 1, by omega, by omega, rfl⟩
theorem cut_of {r : List Nd} {k j : Nat} (hk : k < r.length) (hj : j < r.length) (hne : j ≠ k) : ∃ i, i < (cutR r k).length ∧ gn (cutR r k) i = gn r j := by
  have hl := cut_len (r := r) hk
  by_cases h1 : j < k
  · exact ⟨j, by omega, by rw [cut_at hk (by omega), if_pos h1]⟩
  · exact ⟨j - 1, by omega, by rw [cut_at hk (by omega), if_neg (by omega), show j - 1 + 1 = j by omega]⟩
theorem cut_dead {r : List Nd} {k : Nat} (hv : rvB r = true) (hk : k < r.length) : liveB (cutR r k) (gn r k).pos = false := by
  refine (live_no _ _).2 fun i hi e => ?_
  obtain ⟨j, hj, hne, he⟩ := cut_mem hk hi
  rw [he] at e
  exact hne (rv_inj hv hj hk e)
theorem cut_keepP {r : List Nd} {k : Nat} (hv : rvB r = true) (hk : k < r.length) : KeepP r (cutR r k) := fun x hx hl => by
  rw [prV_of2 hv] at hx
  rw [prV_of2 (cut_rv hv hk)]
  obtain ⟨h1, h2⟩ := (mem_pr _ _).1 hx
  refine (mem_pr _ _).2 ⟨hl, (skd_no _ _).2 fun i hi => ?_⟩
  obtain ⟨j, hj, _, he⟩ := cut_mem hk hi
  rw [he]; exact (skd_no _ _).1 h2 j hj
theorem ridl_as (v : Bool) (a : Option Addr) (len cap : Nat) (r : List Nd) (w : World) (h : RingAt w a r) (hz : r.length = len) (hm : len ≤ maxLen) (hv : idlB r = v) :
    Calls Try.prog 40 #[.slice a len cap] w fun e w' => e = .returned (.bool v) ∧ Below w.heap.size w w' := by subst hv; exact ridl_any a len cap r w h hz hm
/-- all nodes but the one at i -/
def restR (r : List Nd) (i : Int) : List Nd := r.filter (fun n => decide (n.pos ≠ i))
def flL (L : List (Nd × Value)) (i : Int) : List (Nd × Value) := L.filter (fun p => decide (p.1.pos ≠ i))
theorem fl_map (L : List (Nd × Value)) (i : Int) : (flL L i).map (·.1) = restR (L.map (·.1)) i := by
  unfold flL restR; rw [List.filter_map]; rfl
theorem fl_next {L : List (Nd × Value)} {j : Nat} {p : Nd × Value} (i : Int) (h : L[j]? = some p) : flL (L.take (j + 1)) i = flL (L.take j) i ++ (if decide (p.1.pos ≠ i) then [p] else []) := by
  unfold flL
  rw [List.take_add_one, h, List.filter_append]
  congr 1
  simp [List.filter_cons]
theorem rest_all {r : List Nd} {i : Int} (h : liveB r i = false) : restR r i = r := by
  unfold restR
  refine List.filter_eq_self.2 fun n hn => ?_
  obtain ⟨j, hj, e⟩ := List.getElem_of_mem hn
  have := (live_no r i).1 h j hj
  rw [gn_get hj, e] at this
  simpa using this
theorem rest_cut {r : List Nd} {i : Int} (hv : rvB r = true) (hl : liveB r i = true) : restR r i = cutR r (idxR r i) := by
  obtain ⟨hk, hp, _⟩ := idx_live hl
  generalize idxR r i = k at hk hp
  have e : r = r.take k ++ r[k] :: r.drop (k + 1) := by rw [← List.drop_eq_getElem_cons hk, List.take_append_drop]
  have hne : ∀ j, (hj : j < r.length) → j ≠ k → decide (r[j].pos ≠ i) = true := fun j hj hjk => by
    have : (gn r j).pos ≠ i := fun e => hjk (rv_inj hv hj hk (by rw [e, hp]))
    rw [gn_get hj] at this; simpa using this
  have h1 : (r.take k).filter (fun n => decide (n.pos ≠ i)) = r.take k := List.filter_eq_self.2 fun n hn => by
    obtain ⟨j, hj, e⟩ := List.getElem_of_mem hn
    rw [List.length_take] at hj
    rw [List.getElem_take] at e
    rw [← e]; exact hne j (by omega) (by omega)
  have h2 : (r.drop (k + 1)).filter (fun n => decide (n.pos ≠ i)) = r.drop (k + 1) := List.filter_eq_self.2 fun n hn => by
    obtain ⟨j, hj, e⟩ := List.getElem_of_mem hn
    rw [List.length_drop] at hj
    rw [List.getElem_drop] at e
    rw [← e]; exact hne (k + 1 + j) (by omega) (by omega)
  have h3 : decide (r[k].pos ≠ i) = false := by rw [gn_get hk] at hp; simpa using hp
  unfold restR
  conv => lhs; rw [e]
  rw [List.filter_append, List.filter_cons, h1, h2, h3]
  rfl
theorem lpoint_as (v : Bool) (n : Int) (w : World) (hv : ptB n = v) : Calls Try.prog 36 #[.int .i64 n] w fun e w' => e = .returned (.bool v) ∧ w = w' := by subst hv; exact isPoint_any n w

set_option maxHeartbeats 4000000 in
theorem failCalm (s : Option Addr) (len cap : Nat) (z : List Int) (w : World) (h : RowIn .u8 w s len cap z) :
    Calls Try.prog 11 #[.slice s len cap] w fun e w' => e = .returned (.bool true) ∧ Below w.heap.size w w' := by
  have hb := bytes_of_row h
  have hm : len ≤ maxLen := Nat.le_trans hb.1 hb.2.1
  unfold maxLen at hm
  clear h
  by_cases hl : 1048576 < len
  · go_enter Try.func11, Try.ntmps11
    go_wp2
    go_ret
    exact ⟨rfl, Below.refl _ _⟩
  have hlB : decide ((1048576 : Int) < (len : Int)) = false := by simp; omega
  go_enter Try.func11, Try.ntmps11
  go_wp2_with fail
  refine (drawRingFail s len cap w hb).mono ?_
  rintro e w1 ⟨N, cap1, r, i, rfl, hr1, h10, hcap, hcm, hB1⟩
  have HI := Lib.hid hr1
  have hmx : r.length ≤ maxLen := by unfold maxLen; omega
  have HM := Lib.hid hmx
  have HIM0 := fun w0 (h : RingAt w0 (some ⟨N, 0, none⟩) r) (hm : r.length ≤ maxLen) => rfail_any _ _ cap1 i r w0 h rfl hm
  have HSP0 := fun w0 (h : RingAt w0 (some ⟨N, 0, none⟩) r) (hm : r.length ≤ maxLen) (hc : r.length ≤ cap1) (hcm : cap1 ≤ maxLen) => sfail_any _ _ cap1 i r w0 h rfl hc hcm
  have HSR0 : szR (failR r i) ≤ 1048576 := fail_sz r i
  obtain ⟨R, hR⟩ : ∃ R, R = failR r i := ⟨_, rfl⟩
  obtain ⟨B, hBB⟩ : ∃ B, B = (failB r i) := ⟨_, rfl⟩
  simp only [← hR, ← hBB] at HIM0 HSP0 HSR0
  have HIM := Lib.hid HIM0
  have HSP := Lib.hid HSP0
  have HSR := Lib.hid HSR0
  have HRE := Lib.hid hR
  have HBE := Lib.hid hBB
  have HMR : Hid (R.length ≤ maxLen) := small_max HSR0
  clear hr1 hmx hlB HIM0 HSP0 HSR0 hR hBB
  go_wp2_with fail
  refine (HIM.out w1 HI.out HM.out).mono ?_
  rintro e w2 ⟨N2, c2, F2, rfl, ho2, hc2, hcm2, hb2⟩
  have HO2 := Lib.hid ho2.ring
  clear ho2
  go_wp2_with fail
  refine (HSP.out w2 (HI.out.keepB hb2 (Nat.le_refl _)) HM.out hcap hcm).mono ?_
  rintro e w3 ⟨N3, c3, F3, rfl, ho3, _, _, hb3⟩
  have HO3 := Lib.hid ho3.ring
  clear ho3
  have v1 : (!B == B) = false := by simp
  have v2 : (B == B) = true := by simp
  go_wp2_with fail
  refine (sameRing_same _ _ _ c2 c3 R w3 (HO2.out.keepB hb3 (Nat.le_refl _)) HO3.out rfl (small_of HSR.out)).mono ?_
  rintro e w4 ⟨rfl, hb4⟩
  have hB24 : Below w2.heap.size w2 w4 := hb3.trans (hb4.mono hb3.size)
  have hB14 : Below w1.heap.size w1 w4 := hb2.trans (hB24.mono hb2.size)
  have hBw : Below w.heap.size w w4 := hB1.trans (hB14.mono hB1.size)
  have HI4 := Lib.hid (HI.out.keepB hB14 (Nat.le_refl _))
  have HR4 := Lib.hid (HO2.out.keepB hB24 (Nat.le_refl _))
  rcases bool_cases B with hbv | hbv
  · subst hbv
    go_wp2_with fail
    refine (sameRing_same _ _ _ c2 c3 R w4 HR4.out (HO3.out.keepB hb4 (Nat.le_refl _)) rfl (small_of HSR.out)).mono ?_
    rintro e w5 ⟨rfl, hb5⟩
    go_wp2
    go_ret
    exact ⟨rfl, hBw.trans (hb5.mono hBw.size)⟩
  subst hbv
  clear v1 v2
  have HF : Hid ((oneB r i = true ∧ liveB r i = true) ∧ sfB (cutR r (idxR r i)) = true ∧ R = cutR r (idxR r i)) := by
    have h1 := HBE.out
    unfold failB at h1
    have h2 : (oneB r i = true ∧ liveB r i = true) ∧ sfB (cutR r (idxR r i)) = true := by simpa using h1.symm
    refine ⟨h2.1, h2.2, ?_⟩
    rw [HRE.out]; unfold failR; rw [h2.1.1, h2.1.2, h2.2]; rfl
  have HS := Lib.hid (one_safe HF.out.1.1)
  have HV := Lib.hid (safe_rv HS.out)
  have HK := Lib.hid (idx_live HF.out.1.2)
  have HSAFE : Hid (safeB R = true) := by show _ = _; rw [HF.out.2.2]; unfold safeB; rw [cut_rv HV.out HK.out.1, HF.out.2.1]; rfl
  have HCA : Hid (calmS R = calmR R) := by show _ = _; unfold calmS; rw [HSAFE.out]; rfl
  have HOK := Lib.hid (calm_ok HSAFE.out).1
  have hlen : (calmR R).length = r.length - 1 := by rw [HOK.out.len, HF.out.2.2, cut_len HK.out.1]
  have HLEN := Lib.hid hlen
  clear hlen
  have hpos : 1 ≤ r.length := by have := HK.out.1; omega
  have HID : Hid (idAt (calmR R) i = -1) := by
    show _ = _
    have hd : liveB (calmR R) i = false := by
      rw [live_same HOK.out.len HOK.out.pos, HF.out.2.2]
      have := cut_dead HV.out HK.out.1
      rwa [HK.out.2.1] at this
    unfold idAt; rw [hd]; rfl
  have HIL := Lib.hid (calm_ideal HSAFE.out)
  go_wp2_with fail
  refine (rcalm_any _ _ c2 R w4 HR4.out rfl HMR.out).mono ?_
  rintro e w5 ⟨N5, c5, F5, rfl, ho5, _, _, hb5⟩
  rw [HCA.out] at ho5 ⊢
  have HO5 := Lib.hid ho5.ring
  clear ho5
  have hm5 : (calmR R).length ≤ maxLen := by rw [HLEN.out]; unfold maxLen; omega
  have HM5 := Lib.hid hm5
  clear hm5
  go_wp2_with fail
  refine (ridl_as true _ _ c5 (calmR R) w5 HO5.out rfl HM5.out HIL.out).mono ?_
  rintro e w6 ⟨rfl, hb6⟩
  go_wp2_with fail
  refine (nodeAt_as (-1) _ _ c5 i (calmR R) w6 (HO5.out.keepB hb6 (Nat.le_refl _)) rfl HM5.out HID.out).mono ?_
  rintro e w7 ⟨b7, a7, l7, c7, rfl, hb7⟩
  have hf := field_id (-1) b7 a7 l7 c7
  have vl : (((calmR R).length : Int) == (r.length : Int) - 1) = true := by rw [HLEN.out]; simp; omega
  go_wp2
  go_ret
  exact ⟨rfl, hBw.trans ((hb5.trans ((hb6.trans (hb7.mono hb6.size)).mono hb5.size)).mono hBw.size)⟩

set_option maxHeartbeats 4000000 in
theorem safeFail (s : Option Addr) (len cap : Nat) (z : List Int) (w : World) (h : RowIn .u8 w s len cap z) :
    Calls Try.prog 5 #[.slice s len cap] w fun e w' => e = .returned (.bool true) ∧ Below w.heap.size w w' := by
  have hb := bytes_of_row h
  have hm : len ≤ maxLen := Nat.le_trans hb.1 hb.2.1
  unfold maxLen at hm
  clear h
  by_cases hl : 1048576 < len
  · go_enter Try.func5, Try.ntmps5
    go_wp2
    go_ret
    exact ⟨rfl, Below.refl _ _⟩
  have hlB : decide ((1048576 : Int) < (len : Int)) = false := by simp; omega
  go_enter Try.func5, Try.ntmps5
  go_wp2_with fail
  refine (drawRingFail s len cap w hb).mono ?_
  rintro e w1 ⟨N, cap1, r, i, rfl, hr1, h10, hcap, hcm, hB1⟩
  have HI := Lib.hid hr1
  have hmx : r.length ≤ maxLen := by unfold maxLen; omega
  have HM := Lib.hid hmx
  have HIM0 := fun w0 (h : RingAt w0 (some ⟨N, 0, none⟩) r) (hm : r.length ≤ maxLen) => rfail_any _ _ cap1 i r w0 h rfl hm
  have HSP0 := fun w0 (h : RingAt w0 (some ⟨N, 0, none⟩) r) (hm : r.length ≤ maxLen) (hc : r.length ≤ cap1) (hcm : cap1 ≤ maxLen) => sfail_any _ _ cap1 i r w0 h rfl hc hcm
  have HSR0 : szR (failR r i) ≤ 1048576 := fail_sz r i
  obtain ⟨R, hR⟩ : ∃ R, R = failR r i := ⟨_, rfl⟩
  obtain ⟨B, hBB⟩ : ∃ B, B = (failB r i) := ⟨_, rfl⟩
  simp only [← hR, ← hBB] at HIM0 HSP0 HSR0
  have HIM := Lib.hid HIM0
  have HSP := Lib.hid HSP0
  have HSR := Lib.hid HSR0
  have HRE := Lib.hid hR
  have HBE := Lib.hid hBB
  have HMR : Hid (R.length ≤ maxLen) := small_max HSR0
  clear hr1 hmx hlB HIM0 HSP0 HSR0 hR hBB
  go_wp2_with fail
  refine (HIM.out w1 HI.out HM.out).mono ?_
  rintro e w2 ⟨N2, c2, F2, rfl, ho2, hc2, hcm2, hb2⟩
  have HO2 := Lib.hid ho2.ring
  clear ho2
  go_wp2_with fail
  refine (HSP.out w2 (HI.out.keepB hb2 (Nat.le_refl _)) HM.out hcap hcm).mono ?_
  rintro e w3 ⟨N3, c3, F3, rfl, ho3, _, _, hb3⟩
  have HO3 := Lib.hid ho3.ring
  clear ho3
  have v1 : (!B == B) = false := by simp
  have v2 : (B == B) = true := by simp
  go_wp2_with fail
  refine (sameRing_same _ _ _ c2 c3 R w3 (HO2.out.keepB hb3 (Nat.le_refl _)) HO3.out rfl (small_of HSR.out)).mono ?_
  rintro e w4 ⟨rfl, hb4⟩
  have hB24 : Below w2.heap.size w2 w4 := hb3.trans (hb4.mono hb3.size)
  have hB14 : Below w1.heap.size w1 w4 := hb2.trans (hB24.mono hb2.size)
  have hBw : Below w.heap.size w w4 := hB1.trans (hB14.mono hB1.size)
  have HI4 := Lib.hid (HI.out.keepB hB14 (Nat.le_refl _))
  have HR4 := Lib.hid (HO2.out.keepB hB24 (Nat.le_refl _))
  rcases bool_cases B with hbv | hbv
  · subst hbv
    go_wp2_with fail
    refine (sameRing_same _ _ _ c2 c3 R w4 HR4.out (HO3.out.keepB hb4 (Nat.le_refl _)) rfl (small_of HSR.out)).mono ?_
    rintro e w5 ⟨rfl, hb5⟩
    go_wp2
    go_ret
    exact ⟨rfl, hBw.trans (hb5.mono hBw.size)⟩
  subst hbv
  clear v1 v2
  have HF : Hid ((oneB r i = true ∧ liveB r i = true) ∧ sfB (cutR r (idxR r i)) = true ∧ R = cutR r (idxR r i)) := by
    have h1 := HBE.out
    unfold failB at h1
    have h2 : (oneB r i = true ∧ liveB r i = true) ∧ sfB (cutR r (idxR r i)) = true := by simpa using h1.symm
    refine ⟨h2.1, h2.2, ?_⟩
    rw [HRE.out]; unfold failR; rw [h2.1.1, h2.1.2, h2.2]; rfl
  have HS := Lib.hid (one_safe HF.out.1.1)
  have HV := Lib.hid (safe_rv HS.out)
  have HK := Lib.hid (idx_live HF.out.1.2)
  have HSAFE : Hid (safeB R = true) := by show _ = _; rw [HF.out.2.2]; unfold safeB; rw [cut_rv HV.out HK.out.1, HF.out.2.1]; rfl
  have HVR := Lib.hid (safe_rv HSAFE.out)
  have HKP : Hid (KeepP r R) := by show KeepP _ _; rw [HF.out.2.2]; exact cut_keepP HV.out HK.out.1
  have HLEN : Hid (R.length = r.length - 1) := by show _ = _; rw [HF.out.2.2, cut_len HK.out.1]
  have hpos : 1 ≤ r.length := by have := HK.out.1; omega
  go_wp2
  go_loopw [9] (fun q wr => ∃ m : Nat, m ≤ r.length ∧ q = .int .i64 m ∧ Below w4.heap.size w4 wr) (fun q _ => r.length - (intOf q).toNat)
  case atStart => exact ⟨0, by omega, rfl, Below.refl _ _⟩
  case round =>
    obtain ⟨m, hmm, rfl, hbi⟩ := hrel
    obtain ⟨wo, rfl⟩ : ∃ x, x = wr := ⟨_, rfl⟩
    have hzs := hbi.size
    by_cases hlt : m < r.length
    · have hri := HI4.out.keepB hbi (Nat.le_refl _)
      obtain ⟨b, off, b3, o3, sc, hab, hbl, hb3l, _, _, hc0, hc1, hc2, _, _, hints⟩ := ring_node hri HV.out hlt
      injection hab with hab
      injection hab with hbb hoo
      subst hbb hoo
      rw [Nat.zero_add] at hc0 hc1 hc2
      have i0 : (0 : Int) ≤ (m : Int) := by omega
      have i1 : (m : Int) < (r.length : Int) := by omega
      have e0 : ∀ x : Cls (Below wo.heap.size wo), x.to.cell? ⟨N, m * 3, none⟩ = some (.int .i64 (gn r m).pos) := fun x => (x.ok.cell (p := ⟨N, m * 3, none⟩) hbl).trans hc0
      have e1 : ∀ x : Cls (Below wo.heap.size wo), x.to.cell? ⟨N, m * 3 + 1, none⟩ = some (.int .i64 (gn r m).bef) := fun x => (x.ok.cell (p := ⟨N, m * 3 + 1, none⟩) hbl).trans hc1
      have e2 : ∀ x : Cls (Below wo.heap.size wo), x.to.cell? ⟨N, m * 3 + 2, none⟩ = some (.slice (some ⟨b3, o3, none⟩) 2 sc) := fun x => (x.ok.cell (p := ⟨N, m * 3 + 2, none⟩) hbl).trans hc2
      rcases bool_cases ((gn r m).pos != i) with hne | hne
      · clear hri hc0 hc1 hc2 hbl hints
        go_wp2_with fail
        refine wp_region_cls (Below wo.heap.size wo) (by kernel_rfl) (by kernel_rfl) below_drawn ?_
        repeat (go_big_quiet_step (fail))
        refine wpQuiet_nil ?_
        intro w5 hw'
        have hb5 := cls_out hw'
        clear hw' e0 e1 e2
        go_wp2
        go_roundw
        case rel => exact ⟨m + 1, by omega, by go_num, hbi.trans (hb5.mono hzs)⟩
        case measure => simp [intOf]; omega
      · have hmk : m ≠ idxR r i := fun e => by
          have h1 : (gn r m).pos = i := by rw [e]; exact HK.out.2.1
          rw [h1] at hne; simp at hne
        have hkk : ∃ kk, kk < R.length ∧ gn R kk = gn r m := by rw [HF.out.2.2]; exact cut_of HK.out.1 hlt hmk
        obtain ⟨kk, hkk, hgk⟩ := hkk
        have hrR := HR4.out.keepB hbi (Nat.le_refl _)
        obtain ⟨b', off', b3', o3', sc', hab', hbl', _, _, _, _, _, hd2, _, _, hints'⟩ := ring_node hrR HVR.out hkk
        injection hab' with hab'
        injection hab' with hbb' hoo'
        subst hbb' hoo'
        rw [Nat.zero_add] at hd2
        have hal : (gn r m).aft.length = 2 := by rw [(nd_open HV.out hlt).2.2.2.2]; rfl
        rw [hgk] at hints'
        have HND : Hid (∀ x, Below wo.heap.size wo x → Calls Try.prog 34 #[.slice (some ⟨N2, 0, none⟩) R.length c2, .int .i64 (gn r m).pos] x fun e w' => e = .returned (.agg #[.int .i64 (gn r m).pos, .int .i64 (gn r m).bef, .slice (some ⟨b3', o3', none⟩) 2 sc']) ∧ Below x.heap.size x w') := fun x hx => by
          have := nodeAt_at N2 R.length c2 (gn r m).pos R x (hrR.keepB hx (Nat.le_refl _)) rfl HMR.out HVR.out kk hkk (by rw [hgk]) (some ⟨b3', o3', none⟩) 2 sc' (by have := hx.size; omega) ((hx.cell (p := ⟨N2, kk * 3 + 2, none⟩) hbl').trans hd2)
          rwa [hgk] at this
        have HSN : Hid (∀ x, Below wo.heap.size wo x → Calls Try.prog 33 #[.agg #[.int .i64 (gn r m).pos, .int .i64 (gn r m).bef, .slice (some ⟨b3', o3', none⟩) 2 sc'], .agg #[.int .i64 (gn r m).pos, .int .i64 (gn r m).bef, .slice (some ⟨b3, o3, none⟩) 2 sc]] x fun e w' => e = .returned (.bool true) ∧ Below x.heap.size x w') := fun x hx => by
          have := sameNode_same (gn r m) (some ⟨b3', o3', none⟩) (some ⟨b3, o3, none⟩) sc' sc x (hints'.keepB hx (Nat.le_refl _)) (hints.keepB hx (Nat.le_refl _)) (by rw [hal]; omega)
          rwa [hal] at this
        clear hri hc0 hc1 hc2 hbl hints hints' hrR hd2 hbl' hgk hkk hal hmk
        go_wp2_with fail
        refine wp_region_cls (Below wo.heap.size wo) (by kernel_rfl) (by kernel_rfl) below_drawn ?_
        repeat (go_big_quiet_step (first | (go_at_call 34; rename_i x; exact cls_below (HND.out _ x.ok) x.ok (Nat.le_refl _)) | (go_at_call 33; rename_i x; exact cls_below (HSN.out _ x.ok) x.ok (Nat.le_refl _))))
        refine wpQuiet_nil ?_
        intro w5 hw'
        have hb5 := cls_out hw'
        clear hw' e0 e1 e2
        go_wp2
        go_roundw
        case rel => exact ⟨m + 1, by omega, by go_num, hbi.trans (hb5.mono hzs)⟩
        case measure => simp [intOf]; omega
    · have vl : ((R.length : Int) == (r.length : Int) - 1) = true := by rw [HLEN.out]; simp; omega
      have hBo : Below w.heap.size w wo := hBw.trans (hbi.mono hBw.size)
      go_wp2_with fail
      refine (rsafe_any true _ _ c2 R wo (HR4.out.keepB hbi (Nat.le_refl _)) rfl HMR.out HSAFE.out).mono ?_
      rintro e w5 ⟨rfl, hb5⟩
      go_wp2_with fail
      refine (keeps_any _ _ _ _ cap1 c2 r R w5 ((HI4.out.keepB hbi (Nat.le_refl _)).keepB hb5 (Nat.le_refl _)) ((HR4.out.keepB hbi (Nat.le_refl _)).keepB hb5 (Nat.le_refl _)) rfl rfl HM.out HMR.out HKP.out HV.out).mono ?_
      rintro e w6 ⟨rfl, hb6⟩
      go_wp2
      go_ret
      exact ⟨rfl, hBo.trans ((hb5.trans (hb6.mono hb5.size)).mono hBo.size)⟩

set_option maxHeartbeats 4000000 in
theorem failRefused (s : Option Addr) (len cap : Nat) (z : List Int) (w : World) (h : RowIn .u8 w s len cap z) :
    Calls Try.prog 6 #[.slice s len cap] w fun e w' => e = .returned (.bool true) ∧ Below w.heap.size w w' := by
  have hb := bytes_of_row h
  have hm : len ≤ maxLen := Nat.le_trans hb.1 hb.2.1
  unfold maxLen at hm
  clear h
  by_cases hl : 1048576 < len
  · go_enter Try.func6, Try.ntmps6
    go_wp2
    go_ret
    exact ⟨rfl, Below.refl _ _⟩
  have hlB : decide ((1048576 : Int) < (len : Int)) = false := by simp; omega
  go_enter Try.func6, Try.ntmps6
  go_wp2_with fail
  refine (drawRingFail s len cap w hb).mono ?_
  rintro e w1 ⟨N, cap1, r, i, rfl, hr1, h10, hcap, hcm, hB1⟩
  have HI := Lib.hid hr1
  have hmx : r.length ≤ maxLen := by unfold maxLen; omega
  have HM := Lib.hid hmx
  have HIM0 := fun w0 (h : RingAt w0 (some ⟨N, 0, none⟩) r) (hm : r.length ≤ maxLen) => rfail_any _ _ cap1 i r w0 h rfl hm
  have HSP0 := fun w0 (h : RingAt w0 (some ⟨N, 0, none⟩) r) (hm : r.length ≤ maxLen) (hc : r.length ≤ cap1) (hcm : cap1 ≤ maxLen) => sfail_any _ _ cap1 i r w0 h rfl hc hcm
  have HSR0 : szR (failR r i) ≤ 1048576 := fail_sz r i
  obtain ⟨R, hR⟩ : ∃ R, R = failR r i := ⟨_, rfl⟩
  obtain ⟨B, hBB⟩ : ∃ B, B = (failB r i) := ⟨_, rfl⟩
  simp only [← hR, ← hBB] at HIM0 HSP0 HSR0
  have HIM := Lib.hid HIM0
  have HSP := Lib.hid HSP0
  have HSR := Lib.hid HSR0
  have HRE := Lib.hid hR
  have HBE := Lib.hid hBB
  have HMR : Hid (R.length ≤ maxLen) := small_max HSR0
  clear hr1 hmx hlB HIM0 HSP0 HSR0 hR hBB
  go_wp2_with fail
  refine (HIM.out w1 HI.out HM.out).mono ?_
  rintro e w2 ⟨N2, c2, F2, rfl, ho2, hc2, hcm2, hb2⟩
  have HO2 := Lib.hid ho2.ring
  clear ho2
  go_wp2_with fail
  refine (HSP.out w2 (HI.out.keepB hb2 (Nat.le_refl _)) HM.out hcap hcm).mono ?_
  rintro e w3 ⟨N3, c3, F3, rfl, ho3, _, _, hb3⟩
  have HO3 := Lib.hid ho3.ring
  clear ho3
  have v1 : (!B == B) = false := by simp
  have v2 : (B == B) = true := by simp
  go_wp2_with fail
  refine (sameRing_same _ _ _ c2 c3 R w3 (HO2.out.keepB hb3 (Nat.le_refl _)) HO3.out rfl (small_of HSR.out)).mono ?_
  rintro e w4 ⟨rfl, hb4⟩
  have hB24 : Below w2.heap.size w2 w4 := hb3.trans (hb4.mono hb3.size)
  have hB14 : Below w1.heap.size w1 w4 := hb2.trans (hB24.mono hb2.size)
  have hBw : Below w.heap.size w w4 := hB1.trans (hB14.mono hB1.size)
  have HI4 := Lib.hid (HI.out.keepB hB14 (Nat.le_refl _))
  have HR4 := Lib.hid (HO2.out.keepB hB24 (Nat.le_refl _))
  have HDONE : Hid (∀ w5, Below w4.heap.size w4 w5 → Calls Try.prog 24 #[.slice (some ⟨N2, 0, none⟩) R.length c2, .slice (some ⟨N3, 0, none⟩) R.length c3] w5 fun e w' => e = .returned (.bool true) ∧ Below w5.heap.size w5 w') := fun w5 hb5 =>
    sameRing_same _ _ _ c2 c3 R w5 (HR4.out.keepB hb5 (Nat.le_refl _)) ((HO3.out.keepB hb4 (Nat.le_refl _)).keepB hb5 (Nat.le_refl _)) rfl (small_of HSR.out)
  rcases bool_cases (safeB r) with hs | hs
  · have HS := Lib.hid hs
    clear hs
    go_wp2_with fail
    refine (ssafe_as false _ _ cap1 r w4 HI4.out rfl HM.out HS.out).mono ?_
    rintro e w5 ⟨rfl, hb5⟩
    go_wp2_with fail
    refine (HDONE.out w5 hb5).mono ?_
    rintro e w6 ⟨rfl, hb6⟩
    go_wp2
    go_ret
    exact ⟨rfl, hBw.trans ((hb5.trans (hb6.mono hb5.size)).mono hBw.size)⟩
  have HS := Lib.hid hs
  clear hs
  rcases bool_cases (ptB i) with hp | hp
  · have HP := Lib.hid hp
    clear hp
    go_wp2_with fail
    refine (ssafe_as true _ _ cap1 r w4 HI4.out rfl HM.out HS.out).mono ?_
    rintro e w5 ⟨rfl, hb5⟩
    go_wp2_with fail
    refine (lpoint_as false i w5 HP.out).mono ?_
    rintro e w5' ⟨rfl, rfl⟩
    go_wp2_with fail
    refine (HDONE.out w5 hb5).mono ?_
    rintro e w6 ⟨rfl, hb6⟩
    go_wp2
    go_ret
    exact ⟨rfl, hBw.trans ((hb5.trans (hb6.mono hb5.size)).mono hBw.size)⟩
  have HP := Lib.hid hp
  clear hp
  have HV := Lib.hid (safe_rv HS.out)
  have HO : Hid (oneB r i = true) := by show _ = _; unfold oneB; rw [HS.out, HP.out]; rfl
  have h3 := safe_three HS.out
  go_wp2_with fail
  refine (ssafe_as true _ _ cap1 r w4 HI4.out rfl HM.out HS.out).mono ?_
  rintro e w5 ⟨rfl, hb5⟩
  go_wp2_with fail
  refine (lpoint_as true i w5 HP.out).mono ?_
  rintro e w5' ⟨rfl, rfl⟩
  have hring5 := HI4.out.keepB hb5 (Nat.le_refl _)
  obtain ⟨b', off', L, hab, hbl, hLm, hLc, hLi⟩ := ring_list hring5 (by omega)
  injection hab with hab
  injection hab with hbb hoo
  subst hbb hoo
  have hLl : L.length = r.length := by have := congrArg List.length hLm; simpa using this
  have HLM := Lib.hid hLm
  have HLC := Lib.hid hLc
  have HLI := Lib.hid hLi
  have HLL := Lib.hid hLl
  have HR5 := Lib.hid (HR4.out.keepB hb5 (Nat.le_refl _))
  have HI5 := Lib.hid hring5
  have hBw5 : Below w.heap.size w w5 := hBw.trans (hb5.mono hBw.size)
  clear hring5 hLm hLc hLi hLl
  go_wp2
  go_loopw [9, 10] (fun v q wr => ∃ j : Nat, j ≤ r.length ∧ q = .int .i64 j ∧ RowSoFar (flL (L.take j) i) w5 v wr) (fun _ q _ => r.length - (intOf q).toNat)
  case atStart => exact ⟨0, by omega, rfl, by simpa [flL] using rowfar_new w5 _ rfl⟩
  case round =>
    obtain ⟨j, hj, rfl, g, gc, rfl, hrow, hbel⟩ := hrel
    obtain ⟨m, hlm⟩ : ∃ m, (flL (L.take j) i).length = m := ⟨_, rfl⟩
    have hmj : m ≤ j := by rw [← hlm]; refine Nat.le_trans (List.length_filter_le _ _) ?_; rw [List.length_take]; omega
    have HLJ := Lib.hid hlm
    have HR := Lib.hid hrow
    have hgl := hrow.blk.1
    have hz1 := hbel.size
    rw [hlm]
    clear hlm hrow
    by_cases hlt : j < r.length
    · obtain ⟨p, hp⟩ : ∃ p, L[j]? = some p := ⟨_, List.getElem?_eq_getElem (by rw [HLL.out]; exact hlt)⟩
      have hp1 : p.1 = gn r j := by
        have := congrArg (fun l : List Nd => l[j]?) HLM.out
        simp [hp] at this
        rw [gn_get hlt]
        rw [List.getElem?_eq_getElem hlt] at this
        exact Option.some.inj this
      obtain ⟨f0, f1, f2⟩ := flatL_at hp
      have e0 := (hbel.cell (p := ⟨N, 0 + j * 3, none⟩) hbl).trans (HLC.out _ _ f0)
      have e1 := (hbel.cell (p := ⟨N, 0 + (j * 3 + 1), none⟩) hbl).trans (HLC.out _ _ f1)
      have e2 := (hbel.cell (p := ⟨N, 0 + (j * 3 + 2), none⟩) hbl).trans (HLC.out _ _ f2)
      rw [Nat.zero_add] at e0 e1 e2
      rw [hp1] at e0 e1
      have hmem := List.mem_of_getElem? hp
      have hpo : IntsOff wr g p.2 p.1.aft := ((HLI.out p hmem).offNew hgl).keepB hbel (Nat.le_refl _)
      obtain ⟨sv, cv, hsv, _⟩ := id hpo
      have hp1' : p = (gn r j, .slice sv (gn r j).aft.length cv) := by rw [← hp1, ← hsv]
      have HPO := Lib.hid hpo
      have HP1 := Lib.hid hp1'
      rw [hsv, hp1] at e2
      have HTK : Hid (flL (L.take (j + 1)) i = flL (L.take j) i ++ (if decide ((gn r j).pos ≠ i) then [p] else [])) := by show _ = _; rw [fl_next i hp, hp1]
      have hNl : N < wr.heap.size := Nat.lt_of_lt_of_le hbl hz1
      clear f0 f1 f2 hp hp1 hpo hsv hp1'
      rcases bool_cases ((gn r j).pos != i) with hne | hne
      · have hdec : decide ((gn r j).pos ≠ i) = false := by simpa using hne
        have HT2 : Hid (flL (L.take (j + 1)) i = flL (L.take j) i) := by show _ = _; rw [HTK.out, hdec]; simp
        clear hdec
        go_wp2
        go_roundw
        case rel => exact ⟨j + 1, by omega, by go_num, g, gc, by rw [HT2.out, HLJ.out], by rw [HT2.out]; exact HR.out, hbel⟩
        case measure => simp [intOf]; omega
      · have hdec : decide ((gn r j).pos ≠ i) = true := by simpa using hne
        have HT2 : Hid (flL (L.take (j + 1)) i = flL (L.take j) i ++ [p]) := by show _ = _; rw [HTK.out, hdec]; simp
        clear hdec
        go_wp2_with (at_builtin; refine wl_appN _ (by rfl) _ _ (by rfl) w5.heap.size g m gc (flL (L.take j) i) [p] (by rfl) (HR.out.keepB ((Below.refl _ _).alloc (Nat.le_refl _) _) (Nat.le_refl _)) HLJ.out ⟨wr.heap.size, 0, none⟩ 1 1 (by rfl) rfl (by rw [HP1.out]; exact srcN_one (heap_alloc_new wr _)) (fun q hq => by rw [List.mem_singleton] at hq; subst hq; exact HPO.out.keepB ((Below.refl _ _).alloc (Nat.le_refl _) _) (Nat.le_refl _)) (m + 1) rfl (by omega) (by simp; omega) ?_; intro g5 cap5 w6 hown5 hg5 hat5)
        go_roundw
        case rel => exact ⟨j + 1, by omega, by go_num, g5, cap5, by rw [HT2.out, List.length_append, HLJ.out]; rfl, by rw [HT2.out]; exact hown5, (hbel.alloc hz1 _).grown hg5 (by simp; omega) (fun q hq => by injection hq with hq; omega)⟩
        case measure => simp [intOf]; omega
    · obtain rfl : j = r.length := by omega
      have hmap : (flL (L.take r.length) i).map (·.1) = restR r i := by rw [fl_map, List.take_of_length_le (by rw [HLL.out]; exact Nat.le_refl _), HLM.out]
      have hrr : RingAt wr (some ⟨g, 0, none⟩) (restR r i) := by rw [← hmap]; exact HR.out.ring
      have hml : (restR r i).length = m := by rw [← hmap, List.length_map]; exact HLJ.out
      have HRR := Lib.hid hrr
      have HML := Lib.hid hml
      have hBwr : Below w.heap.size w wr := hBw5.trans (hbel.mono hBw5.size)
      clear hmap hrr hml
      rcases bool_cases (liveB r i) with hl | hl
      · have hmr : m = r.length := by rw [← HML.out, rest_all hl]
        have hRr : R = r := by rw [HRE.out]; unfold failR; rw [HO.out, hl]; rfl
        have hBf : B = false := by rw [HBE.out]; unfold failB; rw [HO.out, hl]; rfl
        have HRr := Lib.hid hRr
        subst hBf
        have d0 : decide ((m : Int) < (r.length : Int)) = false := by rw [hmr]; simp
        have n0 : ¬ m < r.length := by omega
        clear hl hmr hRr
        go_wp2_with fail
        have hsr := sameRing_same (some ⟨N2, 0, none⟩) (some ⟨N, 0, none⟩) R.length c2 cap1 R wr (HR5.out.keepB hbel (Nat.le_refl _)) (by rw [HRr.out]; exact HI5.out.keepB hbel (Nat.le_refl _)) rfl (small_of HSR.out)
        have hsr' : Calls Try.prog 24 #[.slice (some ⟨N2, 0, none⟩) R.length c2, .slice (some ⟨N, 0, none⟩) r.length cap1] wr fun e w' => e = .returned (.bool true) ∧ Below wr.heap.size wr w' := by have := hsr; rw [HRr.out] at this ⊢; exact this
        refine hsr'.mono ?_
        rintro e w7 ⟨rfl, hb7⟩
        clear hsr hsr'
        go_wp2
        go_ret
        exact ⟨rfl, hBwr.trans (hb7.mono hBwr.size)⟩
      · obtain ⟨hk, _, _⟩ := idx_live hl
        have hmr : m = r.length - 1 := by rw [← HML.out, rest_cut HV.out hl, cut_len hk]
        have hBf : B = safeB (restR r i) := by rw [HBE.out, rest_cut HV.out hl]; unfold failB safeB; rw [HO.out, hl, cut_rv HV.out hk]; rfl
        have hRr : B = false → R = r := fun e => by
          have h1 := HBE.out; rw [e] at h1; unfold failB at h1; rw [HO.out, hl] at h1
          have h2 : sfB (cutR r (idxR r i)) = false := by simpa using h1.symm
          rw [HRE.out]; unfold failR; rw [HO.out, hl, h2]; rfl
        have HRr := Lib.hid hRr
        have HBf := Lib.hid hBf
        have d0 : decide ((m : Int) < (r.length : Int)) = true := by rw [hmr]; simp; omega
        have n0 : m < r.length := by omega
        clear hl hk hmr hRr hBf
        go_wp2_with fail
        refine (rsafe_any B _ m gc (restR r i) wr HRR.out HML.out (by unfold maxLen; omega) HBf.out.symm).mono ?_
        rintro e w7 ⟨rfl, hb7⟩
        rcases bool_cases B with hbv | hbv
        · have hRr := HRr.out hbv
          have HRx := Lib.hid hRr
          subst hbv
          clear hRr
          go_wp2_with fail
          have hsr := sameRing_same (some ⟨N2, 0, none⟩) (some ⟨N, 0, none⟩) R.length c2 cap1 R w7 ((HR5.out.keepB hbel (Nat.le_refl _)).keepB hb7 (Nat.le_refl _)) (by rw [HRx.out]; exact (HI5.out.keepB hbel (Nat.le_refl _)).keepB hb7 (Nat.le_refl _)) rfl (small_of HSR.out)
          have hsr' : Calls Try.prog 24 #[.slice (some ⟨N2, 0, none⟩) R.length c2, .slice (some ⟨N, 0, none⟩) r.length cap1] w7 fun e w' => e = .returned (.bool true) ∧ Below w7.heap.size w7 w' := by have := hsr; rw [HRx.out] at this ⊢; exact this
          refine hsr'.mono ?_
          rintro e w8 ⟨rfl, hb8⟩
          clear hsr hsr'
          go_wp2
          go_ret
          exact ⟨rfl, hBwr.trans ((hb7.trans (hb8.mono hb7.size)).mono hBwr.size)⟩
        · subst hbv
          go_wp2
          go_ret
          exact ⟨rfl, hBwr.trans (hb7.mono hBwr.size)⟩

end Go.Proofs.Ytndjkokipiikpaa
