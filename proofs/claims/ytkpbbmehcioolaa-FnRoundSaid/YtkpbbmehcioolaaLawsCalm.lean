/- The laws of rounds and quiet periods. -/
import Derived.Test.YtkpbbmehcioolaaLawsH
import Derived.Test.YtkpbbmehcioolaaNwCalm
import Derived.Test.YtkpbbmehcioolaaLawsSafe
import Derived.Test.YtkpbbmehcioolaaIdealMath
import Derived.Test.YtkpbbmehcioolaaSameS
import Derived.Test.YtkpbbmehcioolaaNwRing
namespace Go.Proofs.Ytkpbbmehcioolaa
open Go.RowKit
set_option linter.unusedVariables false
attribute [local go_sem ↓] Go.wp_at_zero Go.wp_at_succ

theorem set_ids {a b : List Nd} (h : SetOk a b) : idsOf b = idsOf a := by
  apply List.ext_getElem (by rw [ids_len, ids_len, h.len])
  intro i h1 h2
  rw [ids_len] at h1 h2
  have e1 := ids_gt h1
  have e2 := ids_gt h2
  rw [gt_get (by rw [ids_len]; exact h1)] at e1
  rw [gt_get (by rw [ids_len]; exact h2)] at e2
  rw [e1, e2, h.pos i h2]
theorem idl_eqR {a : List Nd} (h : idlB a = true) : a = idR (idsOf a) := by
  unfold idlB at h
  simp only [Bool.and_eq_true] at h
  exact same_eq2 h.2
/-- whatever the steps before, the quiet period leads to the same ring -/
theorem calm_same {a b : List Nd} (hs : safeB a = true) (h : SetOk a b) : calmR b = calmR a := by
  rw [idl_eqR (calm_ideal h.safe), idl_eqR (calm_ideal hs), set_ids (calm_ok h.safe).1, set_ids h, set_ids (calm_ok hs).1]
theorem calmS_safe {r : List Nd} (h : safeB r = true) : calmS r = calmR r := by unfold calmS; rw [h]; rfl
theorem roundR_safe {r : List Nd} (h : safeB r = true) : roundR r = rndR r := by unfold roundR; rw [h]; rfl
theorem safe_oneB {r : List Nd} (h : safeB r = true) {k : Nat} (hk : k < r.length) : oneB r (gn r k).pos = true ∧ liveB r (gn r k).pos = true := by
  have hv := safe_rv h
  have hp := (nd_open hv hk).1
  exact ⟨by unfold oneB; rw [h]; simpa [ptB_iff] using hp, (live_iff r _).2 ⟨k, hk, rfl⟩⟩
theorem idx_at {r : List Nd} (h : safeB r = true) {k : Nat} (hk : k < r.length) : idxR r (gn r k).pos = k := by
  obtain ⟨hj, hjf, _⟩ := idx_live (safe_oneB h hk).2
  exact rv_inj (safe_rv h) hj hk hjf
theorem sel_ok {r : List Nd} {ok : Bool} {i : Int} {f : Nat → List Nd} (h : safeB r = true) (hok : ok = true) (hf : ∀ k, k < r.length → SetOk r (f k)) : SetOk r (selR r ok i f) := by
  unfold selR
  rw [hok, if_pos rfl]
  split
  · rename_i hl; exact hf _ (idx_live hl).1
  · exact SetOk.refl h
theorem one_of {r : List Nd} {i : Int} (h : safeB r = true) (hp : ptB i = true) : oneB r i = true := by unfold oneB; rw [h, hp]; rfl
theorem one_of2 {r : List Nd} {i o : Int} (h : safeB r = true) (hp : ptB i = true) (ho : ptB o = true) : (oneB r i && ptB o) = true := by rw [one_of h hp, ho]; rfl
theorem safe_len3 {r : List Nd} (h : safeB r = true) : 3 ≤ r.length := by
  have h1 := ((safe_iff r).1 h).2.2
  have h2 := prTo_len r r.length
  unfold prL at h1; omega

theorem drawRingCalm (s : Option Addr) (len cap : Nat) (w : World) (h : BytesAt w s len cap) :
    Calls Try.prog 27 #[.slice s len cap] w (DrewR w) := by
  go_enter Try.func27, Try.ntmps27
  go_wp2_with fail
  refine (open_any s len cap w h).mono ?_
  rintro e w0 ⟨rfl, hr0, hb0, hz0⟩
  have HZ := Lib.hid hz0
  clear hz0
  go_wp2_with fail
  refine (spoilt_any w.heap.size 5 w0 (hr0.less (by omega))).mono ?_
  rintro e w1 ⟨N, cap1, F, r, rfl, ho, h1, h2, h10, hr1, hg1⟩
  go_wp2
  go_ret
  have hz := HZ.out
  exact ⟨N, cap1, r, rfl, ho.ring, h10, h1, below_of_grown hb0 (Nat.le_refl _) (by omega) hg1⟩

theorem drawRingRound (s : Option Addr) (len cap : Nat) (w : World) (h : BytesAt w s len cap) :
    Calls Try.prog 22 #[.slice s len cap] w (DrewR w) := by
  go_enter Try.func22, Try.ntmps22
  go_wp2_with fail
  refine (open_any s len cap w h).mono ?_
  rintro e w0 ⟨rfl, hr0, hb0, hz0⟩
  have HZ := Lib.hid hz0
  clear hz0
  go_wp2_with fail
  refine (spoilt_any w.heap.size 5 w0 (hr0.less (by omega))).mono ?_
  rintro e w1 ⟨N, cap1, F, r, rfl, ho, h1, h2, h10, hr1, hg1⟩
  go_wp2
  go_ret
  have hz := HZ.out
  exact ⟨N, cap1, r, rfl, ho.ring, h10, h1, below_of_grown hb0 (Nat.le_refl _) (by omega) hg1⟩

set_option maxHeartbeats 4000000 in
theorem calmLaw (s : Option Addr) (len cap : Nat) (z : List Int) (w : World) (h : RowIn .u8 w s len cap z) :
    Calls Try.prog 7 #[.slice s len cap] w fun e w' => e = .returned (.bool true) ∧ Below w.heap.size w w' := by
  have hb := bytes_of_row h
  have hm : len ≤ maxLen := Nat.le_trans hb.1 hb.2.1
  unfold maxLen at hm
  clear h
  by_cases hl : 1048576 < len
  · go_enter Try.func7, Try.ntmps7
    go_wp2
    go_ret
    exact ⟨rfl, Below.refl _ _⟩
  have hlB : decide ((1048576 : Int) < (len : Int)) = false := by simp; omega
  go_enter Try.func7, Try.ntmps7
  go_wp2_with fail
  refine (drawRingCalm s len cap w hb).mono ?_
  rintro e w1 ⟨N, cap1, r, rfl, hr1, h10, hcap, hB1⟩
  have HI := Lib.hid hr1
  have HM : Hid (r.length ≤ maxLen) := by show _ ≤ maxLen; unfold maxLen; omega
  clear hr1 hlB
  obtain ⟨R, hR⟩ : ∃ R, R = calmS r := ⟨_, rfl⟩
  have HSM : Hid (Small R) := by show Small R; rw [hR]; exact small_of (calmS_sz r)
  have HRE := Lib.hid hR
  clear hR
  go_wp2_with fail
  refine (rcalm_any _ _ cap1 r w1 HI.out rfl HM.out).mono ?_
  rw [← HRE.out]
  rintro e w2 ⟨N2, c2, F2, rfl, ho2, hc2, hcm2, hb2⟩
  have O2 := Lib.hid ho2.ring
  clear ho2
  go_wp2_with fail
  refine (srcalm_any _ _ cap1 r w2 (HI.out.keepB hb2 (Nat.le_refl _)) rfl HM.out).mono ?_
  rw [← HRE.out]
  rintro e w3 ⟨N3, c3, F3, rfl, ho3, _, _, hb3⟩
  have O3 := Lib.hid ho3.ring
  clear ho3
  have O2b := Lib.hid (O2.out.keepB hb3 (Nat.le_refl _))
  have hB13 : Below w1.heap.size w1 w3 := hb2.trans (hb3.mono hb2.size)
  go_wp2_with fail
  refine (sameRing_same _ _ _ c2 c3 R w3 O2b.out O3.out rfl HSM.out).mono ?_
  rintro e w4 ⟨rfl, hb4⟩
  have hB14 : Below w1.heap.size w1 w4 := hB13.trans (hb4.mono hB13.size)
  have O4 := Lib.hid (O2b.out.keepB hb4 (Nat.le_refl _))
  have P4 := Lib.hid (O3.out.keepB hb4 (Nat.le_refl _))
  go_wp2_with fail
  refine (ssafe_any _ _ cap1 r w4 (HI.out.keepB hB14 (Nat.le_refl _)) rfl HM.out).mono ?_
  rintro e w5 ⟨rfl, hb5⟩
  have hB15 : Below w1.heap.size w1 w5 := hB14.trans (hb5.mono hB14.size)
  have O5 := Lib.hid (O4.out.keepB hb5 (Nat.le_refl _))
  have P5 := Lib.hid (P4.out.keepB hb5 (Nat.le_refl _))
  have hBw : Below w.heap.size w w5 := hB1.trans (hB15.mono hB1.size)
  have HI5 := Lib.hid (HI.out.keepB hB15 (Nat.le_refl _))
  clear hb2 hb3 hb4 hb5 hB13 hB14 hB15
  rcases bool_cases (safeB r) with hs | hs
  · rw [hs]
    clear hs
    go_wp2_with fail
    refine (sameRing_same _ _ _ c2 c3 R w5 O5.out P5.out rfl HSM.out).mono ?_
    rintro e w6 ⟨rfl, hb6⟩
    go_wp2
    go_ret
    exact ⟨rfl, hBw.trans (hb6.mono hBw.size)⟩
  rw [hs]
  have HS := Lib.hid hs
  clear hs
  have HRI : Hid (idlB R = true) := by show _ = _; rw [HRE.out, calmS_safe HS.out]; exact calm_ideal HS.out
  have HIDS : Hid (idsV R = idsV r) := by
    show _ = _
    rw [HRE.out, calmS_safe HS.out]
    unfold idsV
    rw [safe_rv HS.out, safe_rv (calm_ok HS.out).1.safe, set_ids (calm_ok HS.out).1]
  have HRL : Hid (R.length ≤ maxLen) := by show _ ≤ maxLen; have := HSM.out.1; unfold maxLen; omega
  have HZL : Hid ((idsV r).length ≤ 1048576) := by show _ ≤ _; unfold idsV; rw [safe_rv HS.out]; simp [ids_len]; omega
  go_wp2_with fail
  refine (ridl_any _ _ c2 R w5 O5.out rfl HRL.out).mono ?_
  rw [HRI.out]
  rintro e w6 ⟨rfl, hb6⟩
  have O6 := Lib.hid (O5.out.keepB hb6 (Nat.le_refl _))
  have HI6 := Lib.hid (HI5.out.keepB hb6 (Nat.le_refl _))
  have hB6 : Below w.heap.size w w6 := hBw.trans (hb6.mono hBw.size)
  clear hb6
  go_wp2_with fail
  refine (rids_any _ _ c2 R w6 O6.out rfl HRL.out).mono ?_
  rw [HIDS.out]
  rintro e w7 ⟨g7, c7, rfl, ho7, hb7⟩
  have I7 := Lib.hid ho7.ints
  have HI7 := Lib.hid (HI6.out.keepB hb7 (Nat.le_refl _))
  have hB7 : Below w.heap.size w w7 := hB6.trans (hb7.mono hB6.size)
  clear ho7 hb7
  go_wp2_with fail
  refine (rids_any _ _ cap1 r w7 HI7.out rfl HM.out).mono ?_
  rintro e w8 ⟨g8, c8, rfl, ho8, hb8⟩
  have J8 := Lib.hid ho8.ints
  have I8 := Lib.hid (I7.out.keepB hb8 (Nat.le_refl _))
  have hB8 : Below w.heap.size w w8 := hB7.trans (hb8.mono hB7.size)
  clear ho8 hb8
  go_wp2_with fail
  refine (sameI_same _ _ _ _ _ (idsV r) w8 I8.out J8.out rfl HZL.out).mono ?_
  rintro e w9 ⟨rfl, hs9⟩
  go_wp2
  go_ret
  exact ⟨rfl, hB8.trans (hs9.below _)⟩

set_option maxHeartbeats 4000000 in
theorem roundLaw (s : Option Addr) (len cap : Nat) (z : List Int) (w : World) (h : RowIn .u8 w s len cap z) :
    Calls Try.prog 6 #[.slice s len cap] w fun e w' => e = .returned (.bool true) ∧ Below w.heap.size w w' := by
  have hb := bytes_of_row h
  have hm : len ≤ maxLen := Nat.le_trans hb.1 hb.2.1
  unfold maxLen at hm
  clear h
  by_cases hl : 1048576 < len
  · go_enter Try.func6, Try.ntmps6
    go_wp2
    go_ret
    exact ⟨rfl, Below.refl _ _⟩
  have hlB : decide ((1048576 : Int) < (len : Int)) = false := by simp; omega
  go_enter Try.func6, Try.ntmps6
  go_wp2_with fail
  refine (drawRingRound s len cap w hb).mono ?_
  rintro e w1 ⟨N, cap1, r, rfl, hr1, h10, hcap, hB1⟩
  have HI := Lib.hid hr1
  have HM : Hid (r.length ≤ maxLen) := by show _ ≤ maxLen; unfold maxLen; omega
  clear hr1 hlB
  obtain ⟨R, hR⟩ : ∃ R, R = roundR r := ⟨_, rfl⟩
  have HSM : Hid (Small R) := by show Small R; rw [hR]; exact small_of (round_sz r)
  have HRE := Lib.hid hR
  clear hR
  go_wp2_with fail
  refine (rround_any _ _ cap1 r w1 HI.out rfl HM.out).mono ?_
  rw [← HRE.out]
  rintro e w2 ⟨N2, c2, F2, rfl, ho2, hc2, hcm2, hb2⟩
  have O2 := Lib.hid ho2.ring
  clear ho2
  go_wp2_with fail
  refine (srround_any _ _ cap1 r w2 (HI.out.keepB hb2 (Nat.le_refl _)) rfl HM.out).mono ?_
  rw [← HRE.out]
  rintro e w3 ⟨N3, c3, F3, rfl, ho3, _, _, hb3⟩
  have O3 := Lib.hid ho3.ring
  clear ho3
  have O2b := Lib.hid (O2.out.keepB hb3 (Nat.le_refl _))
  have hB13 : Below w1.heap.size w1 w3 := hb2.trans (hb3.mono hb2.size)
  go_wp2_with fail
  refine (sameRing_same _ _ _ c2 c3 R w3 O2b.out O3.out rfl HSM.out).mono ?_
  rintro e w4 ⟨rfl, hb4⟩
  have hB14 : Below w1.heap.size w1 w4 := hB13.trans (hb4.mono hB13.size)
  have O4 := Lib.hid (O2b.out.keepB hb4 (Nat.le_refl _))
  have P4 := Lib.hid (O3.out.keepB hb4 (Nat.le_refl _))
  go_wp2_with fail
  refine (ssafe_any _ _ cap1 r w4 (HI.out.keepB hB14 (Nat.le_refl _)) rfl HM.out).mono ?_
  rintro e w5 ⟨rfl, hb5⟩
  have hB15 : Below w1.heap.size w1 w5 := hB14.trans (hb5.mono hB14.size)
  have O5 := Lib.hid (O4.out.keepB hb5 (Nat.le_refl _))
  have P5 := Lib.hid (P4.out.keepB hb5 (Nat.le_refl _))
  have hBw : Below w.heap.size w w5 := hB1.trans (hB15.mono hB1.size)
  have HI5 := Lib.hid (HI.out.keepB hB15 (Nat.le_refl _))
  clear hb2 hb3 hb4 hb5 hB13 hB14 hB15
  rcases bool_cases (safeB r) with hs | hs
  · rw [hs]
    clear hs
    go_wp2_with fail
    refine (sameRing_same _ _ _ c2 c3 R w5 O5.out P5.out rfl HSM.out).mono ?_
    rintro e w6 ⟨rfl, hb6⟩
    go_wp2
    go_ret
    exact ⟨rfl, hBw.trans (hb6.mono hBw.size)⟩
  rw [hs]
  have HS := Lib.hid hs
  clear hs
  have HRR : Hid (R = rndTo r r.length) := by show _ = _; rw [HRE.out, roundR_safe HS.out]; rfl
  have HRL : Hid (R.length ≤ maxLen) := by show _ ≤ maxLen; have := HSM.out.1; unfold maxLen; omega
  go_wp2
  go_loopw [6, 7] (fun x i wr => ∃ (k N6 c6 : Nat), k ≤ r.length ∧ i = .int .i64 k ∧ x = .slice (some ⟨N6, 0, none⟩) r.length c6 ∧ RingAt wr (some ⟨N6, 0, none⟩) (rndTo r k) ∧ Below w5.heap.size w5 wr) (fun _ i _ => r.length - (intOf i).toNat)
  case atStart => exact ⟨0, N, cap1, by omega, rfl, rfl, HI5.out, Below.refl _ _⟩
  case round =>
    obtain ⟨k, N6, c6, hk, rfl, rfl, hx, hbr⟩ := hrel
    have HX := Lib.hid hx
    clear hx
    by_cases hlt : k < r.length
    · have HOK := Lib.hid (rnd_ok HS.out hk)
      obtain ⟨b, off, hbo, hb0, hcells⟩ := (HI5.out.keepB hbr (Nat.le_refl _)).at_ hlt
      injection hbo with hbo; injection hbo with hbo hbo2; subst hbo hbo2
      have hc0 := (hcells k hlt).1
      clear hcells
      rw [Nat.zero_add] at hc0
      obtain ⟨y, hy⟩ : ∃ y, y = (gn r k).pos := ⟨_, rfl⟩
      rw [← hy] at hc0
      have HY := Lib.hid hy
      clear hy
      have hkx : Hid (k < (rndTo r k).length) := by show _ < _; rw [HOK.out.len]; exact hlt
      have hpx : Hid ((gn (rndTo r k) k).pos = y) := by show _ = _; rw [HOK.out.pos k hlt, HY.out]
      have HONE := Lib.hid (safe_oneB HOK.out.safe hkx.out)
      have HSEL : Hid (selR (rndTo r k) (oneB (rndTo r k) y) y (stabR (rndTo r k)) = rndTo r (k + 1)) := by
        show _ = _
        have h1 := HONE.out
        rw [hpx.out] at h1
        have hi := idx_at HOK.out.safe hkx.out
        rw [hpx.out] at hi
        unfold selR; rw [h1.1, h1.2, if_pos rfl, if_pos rfl, hi]; rfl
      have HSEB : Hid (selB (rndTo r k) (oneB (rndTo r k) y) y (fun _ => true) = true) := by
        show _ = _
        have h1 := HONE.out
        rw [hpx.out] at h1
        unfold selB; rw [h1.1, h1.2]; rfl
      have hlen : Hid ((rndTo r k).length = r.length) := HOK.out.len
      have hlen1 : Hid ((rndTo r (k + 1)).length = r.length) := (rnd_ok HS.out (k := k + 1) (by omega)).len
      go_wp2_with fail
      refine (rstab_any _ _ c6 y (rndTo r k) wr HX.out hlen.out HM.out).mono ?_
      rw [HSEL.out, HSEB.out]
      rintro e w6 ⟨N7, c7, F7, rfl, ho7, _, _, hb7⟩
      have O7 := Lib.hid ho7.ring
      clear ho7
      have hb56 : Below w5.heap.size w5 w6 := hbr.trans (hb7.mono hbr.size)
      rw [hlen1.out]
      go_wp2
      go_roundw
      case rel => exact ⟨k + 1, N7, c7, by omega, by go_num, rfl, O7.out, hb56⟩
      case measure => simp [intOf]; omega
    · have hkk : k = r.length := by omega
      have HXR : Hid (RingAt wr (some ⟨N6, 0, none⟩) R) := by show RingAt _ _ _; rw [HRR.out, ← hkk]; exact HX.out
      have hRl : Hid (R.length = r.length) := by show _ = _; rw [HRR.out]; exact (rnd_ok HS.out (Nat.le_refl _)).len
      have HB6 := Lib.hid (hBw.trans (hbr.mono hBw.size))
      clear hkk
      go_wp2_with fail
      rw [hRl.out]
      refine (sameRing_same _ _ _ c6 c2 R wr HXR.out (O5.out.keepB hbr (Nat.le_refl _)) hRl.out HSM.out).mono ?_
      rintro e w7 ⟨rfl, hb7⟩
      go_wp2
      go_ret
      exact ⟨rfl, HB6.out.trans (hb7.mono HB6.out.size)⟩

set_option maxHeartbeats 4000000 in
theorem calmSteps (s : Option Addr) (len cap : Nat) (z : List Int) (s2 : Option Addr) (len2 cap2 : Nat) (z2 : List Int) (w : World) (h : RowIn .u8 w s len cap z) (h2 : RowIn .u8 w s2 len2 cap2 z2) :
    Calls Try.prog 8 #[.slice s len cap, .slice s2 len2 cap2] w fun e w' => e = .returned (.bool true) ∧ Below w.heap.size w w' := by
  have hb := bytes_of_row h
  have hm : len ≤ maxLen := Nat.le_trans hb.1 hb.2.1
  unfold maxLen at hm
  clear h
  have hm2 : len2 ≤ maxLen := Nat.le_trans (bytes_of_row h2).1 (bytes_of_row h2).2.1
  unfold maxLen at hm2
  clear h2
  by_cases hl : 1048576 < len
  · go_enter Try.func8, Try.ntmps8
    go_wp2
    go_ret
    exact ⟨rfl, Below.refl _ _⟩
  by_cases hl2 : 1048576 < len2
  · have hlB : decide ((1048576 : Int) < (len : Int)) = false := by simp; omega
    go_enter Try.func8, Try.ntmps8
    go_wp2
    go_ret
    exact ⟨rfl, Below.refl _ _⟩
  have hl2B : decide ((1048576 : Int) < (len2 : Int)) = false := by simp; omega
  have hlB : decide ((1048576 : Int) < (len : Int)) = false := by simp; omega
  go_enter Try.func8, Try.ntmps8
  go_wp2_with fail
  refine (drawRingCalm s len cap w hb).mono ?_
  rintro e w1 ⟨N, cap1, r, rfl, hr1, h10, hcap, hB1⟩
  have HI := Lib.hid hr1
  have HM : Hid (r.length ≤ maxLen) := by show _ ≤ maxLen; unfold maxLen; omega
  clear hr1 hlB
  obtain ⟨R, hR⟩ : ∃ R, R = calmS r := ⟨_, rfl⟩
  have HSM : Hid (Small R) := by show Small R; rw [hR]; exact small_of (calmS_sz r)
  have HRE := Lib.hid hR
  clear hR
  go_wp2_with fail
  refine (rcalm_any _ _ cap1 r w1 HI.out rfl HM.out).mono ?_
  rw [← HRE.out]
  rintro e w2 ⟨N2, c2, F2, rfl, ho2, hc2, hcm2, hb2⟩
  have O2 := Lib.hid ho2.ring
  clear ho2
  go_wp2_with fail
  refine (srcalm_any _ _ cap1 r w2 (HI.out.keepB hb2 (Nat.le_refl _)) rfl HM.out).mono ?_
  rw [← HRE.out]
  rintro e w3 ⟨N3, c3, F3, rfl, ho3, _, _, hb3⟩
  have O3 := Lib.hid ho3.ring
  clear ho3
  have O2b := Lib.hid (O2.out.keepB hb3 (Nat.le_refl _))
  have hB13 : Below w1.heap.size w1 w3 := hb2.trans (hb3.mono hb2.size)
  go_wp2_with fail
  refine (sameRing_same _ _ _ c2 c3 R w3 O2b.out O3.out rfl HSM.out).mono ?_
  rintro e w4 ⟨rfl, hb4⟩
  have hB14 : Below w1.heap.size w1 w4 := hB13.trans (hb4.mono hB13.size)
  have O4 := Lib.hid (O2b.out.keepB hb4 (Nat.le_refl _))
  have P4 := Lib.hid (O3.out.keepB hb4 (Nat.le_refl _))
  go_wp2_with fail
  refine (ssafe_any _ _ cap1 r w4 (HI.out.keepB hB14 (Nat.le_refl _)) rfl HM.out).mono ?_
  rintro e w5 ⟨rfl, hb5⟩
  have hB15 : Below w1.heap.size w1 w5 := hB14.trans (hb5.mono hB14.size)
  have O5 := Lib.hid (O4.out.keepB hb5 (Nat.le_refl _))
  have P5 := Lib.hid (P4.out.keepB hb5 (Nat.le_refl _))
  have hBw : Below w.heap.size w w5 := hB1.trans (hB15.mono hB1.size)
  have HI5 := Lib.hid (HI.out.keepB hB15 (Nat.le_refl _))
  clear hb2 hb3 hb4 hb5 hB13 hB14 hB15
  rcases bool_cases (safeB r) with hs | hs
  · rw [hs]
    clear hs
    go_wp2_with fail
    refine (sameRing_same _ _ _ c2 c3 R w5 O5.out P5.out rfl HSM.out).mono ?_
    rintro e w6 ⟨rfl, hb6⟩
    go_wp2
    go_ret
    exact ⟨rfl, hBw.trans (hb6.mono hBw.size)⟩
  rw [hs]
  have HS := Lib.hid hs
  clear hs
  have h3 := safe_len3 HS.out
  obtain ⟨p, hp⟩ : ∃ p, p = len2 % r.length := ⟨_, rfl⟩
  obtain ⟨d, hd⟩ : ∃ d, d = len2 / 7 := ⟨_, rfl⟩
  obtain ⟨q, hq⟩ : ∃ q, q = d % r.length := ⟨_, rfl⟩
  have hpl : p < r.length := by rw [hp]; exact Nat.mod_lt _ (by omega)
  have hql : q < r.length := by rw [hq]; exact Nat.mod_lt _ (by omega)
  have m1 : (len2 : Int).tmod (r.length : Int) = (p : Int) := by rw [hp]; rfl
  have m2 : (len2 : Int).tdiv 7 = (d : Int) := by rw [hd]; rfl
  have m2' : (len2 : Int) / 7 = (d : Int) := by omega
  have m3 : (d : Int).tmod (r.length : Int) = (q : Int) := by rw [hq]; rfl
  have m0 : ¬ (r.length : Int) = 0 := by omega
  obtain ⟨b, off, hbo, hb0, hcells⟩ := HI5.out.at_ hpl
  injection hbo with hbo; injection hbo with hbo hbo2; subst hbo hbo2
  have cp := (hcells p hpl).1
  have cq := (hcells q hql).1
  rw [Nat.zero_add] at cp cq
  obtain ⟨x, hx⟩ : ∃ x, x = (gn r p).pos := ⟨_, rfl⟩
  obtain ⟨y, hy⟩ : ∃ y, y = (gn r q).pos := ⟨_, rfl⟩
  have hpx : Hid (ptB x = true) := by show _ = _; have := (safe_oneB HS.out hpl).1; rw [← hx] at this; unfold oneB at this; simp at this; exact this.2
  have hpy : Hid (ptB y = true) := by show _ = _; have := (safe_oneB HS.out hql).1; rw [← hy] at this; unfold oneB at this; simp at this; exact this.2
  rw [← hx] at cp
  rw [← hy] at cq
  clear hx hy hp hq hd hcells
  obtain ⟨A1, hA1⟩ : ∃ A, A = selR r (oneB r x) x (stabR r) := ⟨_, rfl⟩
  obtain ⟨A2, hA2⟩ : ∃ A, A = selR A1 (oneB A1 y && ptB x) y (fun k => closerR A1 k x) := ⟨_, rfl⟩
  obtain ⟨A3, hA3⟩ : ∃ A, A = selR A2 (oneB A2 x && ptB y) x (fun k => notR A2 k y) := ⟨_, rfl⟩
  obtain ⟨A4, hA4⟩ : ∃ A, A = selR A3 (oneB A3 y) y (adoptR A3) := ⟨_, rfl⟩
  have K1 : SetOk r A1 := by rw [hA1]; exact sel_ok HS.out (one_of HS.out hpx.out) (fun k hk => stab_ok HS.out hk)
  have K2 : SetOk A1 A2 := by rw [hA2]; exact sel_ok K1.safe (one_of2 K1.safe hpy.out hpx.out) (fun k hk => closer_ok K1.safe hk)
  have K3 : SetOk A2 A3 := by rw [hA3]; exact sel_ok K2.safe (one_of2 K2.safe hpx.out hpy.out) (fun k hk => not_ok K2.safe hk)
  have K4 : SetOk A3 A4 := by rw [hA4]; exact sel_ok K3.safe (one_of K3.safe hpy.out) (fun k hk => adopt_ok K3.safe hk)
  have HL1 : Hid (A1.length = r.length) := K1.len
  have HL2 : Hid (A2.length = r.length) := K2.len.trans K1.len
  have HL3 : Hid (A3.length = r.length) := K3.len.trans (K2.len.trans K1.len)
  have HL4 : Hid (A4.length = r.length) := K4.len.trans (K3.len.trans (K2.len.trans K1.len))
  have HRC : Hid (calmS A4 = R) := by
    show _ = _
    have hk : SetOk r A4 := K1.trans (K2.trans (K3.trans K4))
    rw [HRE.out, calmS_safe HS.out, calmS_safe hk.safe, calm_same HS.out hk]
  have E1 := Lib.hid hA1
  have E2 := Lib.hid hA2
  have E3 := Lib.hid hA3
  have E4 := Lib.hid hA4
  clear hA1 hA2 hA3 hA4 K1 K2 K3 K4
  go_wp2_with fail
  refine (rstab_any _ _ cap1 x r w5 HI5.out rfl HM.out).mono ?_
  rw [← E1.out]
  rintro e w6 ⟨N6, c6, F6, rfl, ho6, _, _, hb6⟩
  have Q6 := Lib.hid ho6.ring
  have O6 := Lib.hid (O5.out.keepB hb6 (Nat.le_refl _))
  have hB6 : Below w.heap.size w w6 := hBw.trans (hb6.mono hBw.size)
  clear ho6 hb6 cp cq
  rw [HL1.out]
  go_wp2_with fail
  refine (rcloser_any _ _ c6 y x A1 w6 Q6.out HL1.out HM.out).mono ?_
  rw [← E2.out]
  rintro e w7 ⟨N7, c7, F7, rfl, ho7, _, _, hb7⟩
  have Q7 := Lib.hid ho7.ring
  have O7 := Lib.hid (O6.out.keepB hb7 (Nat.le_refl _))
  have hB7 : Below w.heap.size w w7 := hB6.trans (hb7.mono hB6.size)
  clear ho7 hb7
  rw [HL2.out]
  go_wp2_with fail
  refine (rnot_any _ _ c7 x y A2 w7 Q7.out HL2.out HM.out).mono ?_
  rw [← E3.out]
  rintro e w8 ⟨N8, c8, F8, rfl, ho8, _, _, hb8⟩
  have Q8 := Lib.hid ho8.ring
  have O8 := Lib.hid (O7.out.keepB hb8 (Nat.le_refl _))
  have hB8 : Below w.heap.size w w8 := hB7.trans (hb8.mono hB7.size)
  clear ho8 hb8
  rw [HL3.out]
  go_wp2_with fail
  refine (radopt_any _ _ c8 y A3 w8 Q8.out HL3.out HM.out).mono ?_
  rw [← E4.out]
  rintro e w9 ⟨N9, c9, F9, rfl, ho9, _, _, hb9⟩
  have Q9 := Lib.hid ho9.ring
  have O9 := Lib.hid (O8.out.keepB hb9 (Nat.le_refl _))
  have hB9 : Below w.heap.size w w9 := hB8.trans (hb9.mono hB8.size)
  clear ho9 hb9
  rw [HL4.out]
  go_wp2_with fail
  refine (rcalm_any _ _ c9 A4 w9 Q9.out HL4.out HM.out).mono ?_
  rw [HRC.out]
  rintro e w10 ⟨N10, c10, F10, rfl, ho10, _, _, hb10⟩
  have Q10 := Lib.hid ho10.ring
  have O10 := Lib.hid (O9.out.keepB hb10 (Nat.le_refl _))
  have hB10 : Below w.heap.size w w10 := hB9.trans (hb10.mono hB9.size)
  clear ho10 hb10
  go_wp2_with fail
  refine (sameRing_same _ _ _ c10 c2 R w10 Q10.out O10.out rfl HSM.out).mono ?_
  rintro e w11 ⟨rfl, hb11⟩
  go_wp2
  go_ret
  exact ⟨rfl, hB10.trans (hb11.mono hB10.size)⟩
end Go.Proofs.Ytkpbbmehcioolaa
