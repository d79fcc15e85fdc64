/- The walk of the law of new rings. -/
import Derived.Test.YtpmnfgladfmffaaLawsH
import Derived.Test.YtpmnfgladfmffaaLawsPr
import Derived.Test.YtpmnfgladfmffaaSameS
import Derived.Test.YtpmnfgladfmffaaNodesMath2
namespace Go.Proofs.Ytpmnfgladfmffaa
open Go.RowKit
set_option linter.unusedVariables false

theorem asc_of {zs : List Int} (hv : vldB zs = true) : AscP zs := by
  refine ⟨fun i hi => ?_, fun i hi => asc_lt (vld_asc hv) (by omega) hi⟩
  rcases bool_cases (ptB (gt zs i)) with h | h
  · rw [vld_no_pt hi h] at hv; cases hv
  · exact (ptB_iff _).1 h
theorem ids_idR (zs : List Int) : idsOf (idR zs) = zs := by
  apply List.ext_getElem (by simp [idsOf, idR])
  intro i h1 h2
  rw [← gt_get h1, ← gt_get h2, ids_gt (by rw [idR_len]; exact h2), idR_at h2]
  rfl
theorem sameR_refl (r : List Nd) : sameR r r = true := by
  unfold sameR
  rw [Bool.and_eq_true]
  exact ⟨by simp, (allTo_iff _ _).2 fun i hi => by simp [sameN]⟩
theorem idl_new {zs : List Int} (hv : vldB zs = true) (h3 : 3 ≤ zs.length) : idlB (idR zs) = true ∧ safeB (idR zs) = true ∧ idsV (idR zs) = zs := by
  have hs := (ideal_safe (asc_of hv) h3 (vld_len hv).2).1
  have hr := safe_rv hs
  refine ⟨?_, hs, by unfold idsV; rw [if_pos hr, ids_idR]⟩
  unfold idlB
  rw [ids_idR, sameR_refl, hr, idR_len]
  simp; omega
theorem rnew_as {zs : List Int} {R : List Nd} {ok : Bool} (hR : newR zs = R) (ho : newB zs = ok) (a : Option Addr) (len cap : Nat) (w : World) (h : IntsAt w a zs) (hz : zs.length = len) (hm : len ≤ maxLen) :
    Calls Try.prog 6 #[.slice a len cap] w (NewRB R ok w) := by
  have h0 := rnew_any a len cap zs w h hz hm
  rwa [hR, ho] at h0
theorem srnew_as {zs : List Int} {R : List Nd} {ok : Bool} (hR : newR zs = R) (ho : newB zs = ok) (a : Option Addr) (len cap : Nat) (w : World) (h : IntsAt w a zs) (hz : zs.length = len) (hm : len ≤ maxLen) :
    Calls Try.prog 7 #[.slice a len cap] w (NewRS R ok w) := by
  have h0 := srnew_any a len cap zs w h hz hm
  rwa [hR, ho] at h0
theorem rids_as {r : List Nd} {zs : List Int} (hV : idsV r = zs) (a : Option Addr) (len cap : Nat) (w : World) (h : RingAt w a r) (hz : r.length = len) (hm : len ≤ maxLen) :
    Calls Try.prog 12 #[.slice a len cap] w (NewInts zs w) := by
  have h0 := rids_any a len cap r w h hz hm
  rwa [hV] at h0
theorem ridlN_as {r : List Nd} {b : Bool} (hb : idlB r = b) (a : Option Addr) (len cap : Nat) (w : World) (h : RingAt w a r) (hz : r.length = len) (hm : len ≤ maxLen) :
    Calls Try.prog 9 #[.slice a len cap] w fun e w' => e = .returned (.bool b) ∧ Below w.heap.size w w' := by
  subst hb; exact ridl_any a len cap r w h hz hm

theorem drawRingNew (s : Option Addr) (len cap : Nat) (w : World) (h : BytesAt w s len cap) :
    Calls Try.prog 5 #[.slice s len cap] w (DrewN w) := by
  go_enter Try.func5, Try.ntmps5
  go_wp2_with fail
  refine (open_any s len cap w h).mono ?_
  rintro e w0 ⟨rfl, hr0, hb0, hz0⟩
  have HZ := Lib.hid hz0
  clear hz0
  go_wp2_with fail
  refine (nodes_any w.heap.size 5 w0 (hr0.less (by omega))).mono ?_
  rintro e w1 ⟨a, cap1, zs, rfl, hi, hl, hlc, hr1, hg1⟩
  go_wp2
  go_ret
  have hz := HZ.out
  exact ⟨a, cap1, zs, rfl, by
    rcases hi with h0 | ⟨b, off, ha, hb, hlt, hc⟩
    · exact .inl h0
    · exact .inr ⟨b, off, ha, by omega, hlt, hc⟩, hl, hlc, below_of_grown hb0 (Nat.le_refl _) (by omega) hg1⟩

set_option maxHeartbeats 4000000 in
theorem ringNew (s : Option Addr) (len cap : Nat) (z : List Int) (w : World) (h : RowIn .u8 w s len cap z) :
    Calls Try.prog 3 #[.slice s len cap] w fun e w' => e = .returned (.bool true) ∧ Below w.heap.size w w' := by
  have hb := bytes_of_row h
  have hm : len ≤ maxLen := Nat.le_trans hb.1 hb.2.1
  unfold maxLen at hm
  clear h
  by_cases hl : 1048576 < len
  · go_enter Try.func3, Try.ntmps3
    go_wp2
    go_ret
    exact ⟨rfl, Below.refl _ _⟩
  have hlB : decide ((1048576 : Int) < (len : Int)) = false := by simp; omega
  have HBY := Lib.hid hb
  clear hb
  go_enter Try.func3, Try.ntmps3
  go_wp2_with fail
  refine (drawRingNew s len cap w HBY.out).mono ?_
  rintro e w1 ⟨a, capz, zs, rfl, hi, hl20, hlc, hB1⟩
  have HI := Lib.hid hi.ints
  have hmx : Hid (zs.length ≤ maxLen) := by show _ ≤ maxLen; unfold maxLen; omega
  clear hi
  obtain ⟨R, hR⟩ : ∃ R, newR zs = R := ⟨_, rfl⟩
  have HR := Lib.hid hR
  have HSM : Hid (Small R) := by have := newR_sz zs; rw [hR] at this; exact Lib.hid (small_of this)
  rcases bool_cases (newB zs) with hn | hn
  · have HN := Lib.hid hn
    clear hR hn
    go_wp2_with fail
    refine (rnew_as HR.out HN.out a _ capz w1 HI.out rfl hmx.out).mono ?_
    rintro e w2 ⟨N, cap2, F, rfl, ho, _, _, hb2⟩
    have HO2 := Lib.hid ho.ring
    clear ho
    go_wp2_with fail
    refine (srnew_as HR.out HN.out a _ capz w2 (HI.out.keepB hb2 (Nat.le_refl _)) rfl hmx.out).mono ?_
    rintro e w3 ⟨g3, cap3, rfl, hr3, _, _, hb3⟩
    have HR3 := Lib.hid hr3
    clear hr3
    go_wp2_with fail
    refine (sameRing_same _ _ _ cap2 cap3 R w3 (HO2.out.keepB hb3 (Nat.le_refl _)) HR3.out rfl HSM.out).mono ?_
    rintro e w4 ⟨rfl, hb4⟩
    have hB12 : Below w.heap.size w w2 := hB1.trans (hb2.mono hB1.size)
    have hB24 : Below w2.heap.size w2 w4 := hb3.trans (hb4.mono hb3.size)
    have hB4 : Below w.heap.size w w4 := hB12.trans (hB24.mono hB12.size)
    have HO4 := Lib.hid (HO2.out.keepB hB24 (Nat.le_refl _))
    have HR4 := Lib.hid (HR3.out.keepB hb4 (Nat.le_refl _))
    have HI4 := Lib.hid (HI.out.keepB (hb2.trans (hB24.mono hb2.size)) (Nat.le_refl _))
    go_wp2_with fail
    refine (sameRing_same _ _ _ cap2 cap3 R w4 HO4.out HR4.out rfl HSM.out).mono ?_
    rintro e w5 ⟨rfl, hb5⟩
    go_wp2
    go_ret
    exact ⟨rfl, hB4.trans (hb5.mono hB4.size)⟩
  have HN := Lib.hid hn
  have hv : vldB zs = true ∧ 3 ≤ zs.length := by simpa [newB] using hn
  have hRe : R = idR zs := by rw [← hR]; unfold newR; rw [if_pos hn]
  obtain ⟨q1, q2, q3⟩ := idl_new hv.1 hv.2
  rw [← hRe] at q1 q2 q3
  have hmr : Hid (R.length ≤ maxLen) := by show _ ≤ maxLen; rw [hRe, idR_len]; exact hmx.out
  have HID := Lib.hid q1
  have HSF := Lib.hid q2
  have HIV := Lib.hid q3
  clear hR hn hv hRe q1 q2 q3
  go_wp2_with fail
  refine (rnew_as HR.out HN.out a _ capz w1 HI.out rfl hmx.out).mono ?_
  rintro e w2 ⟨N, cap2, F, rfl, ho, _, _, hb2⟩
  have HO2 := Lib.hid ho.ring
  clear ho
  go_wp2_with fail
  refine (srnew_as HR.out HN.out a _ capz w2 (HI.out.keepB hb2 (Nat.le_refl _)) rfl hmx.out).mono ?_
  rintro e w3 ⟨g3, cap3, rfl, hr3, _, _, hb3⟩
  have HR3 := Lib.hid hr3
  clear hr3
  go_wp2_with fail
  refine (sameRing_same _ _ _ cap2 cap3 R w3 (HO2.out.keepB hb3 (Nat.le_refl _)) HR3.out rfl HSM.out).mono ?_
  rintro e w4 ⟨rfl, hb4⟩
  have hB12 : Below w.heap.size w w2 := hB1.trans (hb2.mono hB1.size)
  have hB24 : Below w2.heap.size w2 w4 := hb3.trans (hb4.mono hb3.size)
  have hB4 : Below w.heap.size w w4 := hB12.trans (hB24.mono hB12.size)
  have HO4 := Lib.hid (HO2.out.keepB hB24 (Nat.le_refl _))
  have HR4 := Lib.hid (HR3.out.keepB hb4 (Nat.le_refl _))
  have HI4 := Lib.hid (HI.out.keepB (hb2.trans (hB24.mono hb2.size)) (Nat.le_refl _))
  go_wp2_with fail
  refine (ridlN_as HID.out _ _ cap2 w4 HO4.out rfl hmr.out).mono ?_
  rintro e w5 ⟨rfl, hb5⟩
  have hB45 : Below w4.heap.size w4 w5 := hb5
  go_wp2_with fail
  refine (rsafe_any true _ _ cap2 R w5 (HO4.out.keepB hB45 (Nat.le_refl _)) rfl hmr.out HSF.out).mono ?_
  rintro e w6 ⟨rfl, hb6⟩
  have hB46 : Below w4.heap.size w4 w6 := hB45.trans (hb6.mono hB45.size)
  go_wp2_with fail
  refine (rids_as HIV.out _ _ cap2 w6 (HO4.out.keepB hB46 (Nat.le_refl _)) rfl hmr.out).mono ?_
  rintro e w7 ⟨g7, c7, rfl, ho7, hb7⟩
  have H7 := Lib.hid ho7.ints
  have hB47 : Below w4.heap.size w4 w7 := hB46.trans (hb7.mono hB46.size)
  clear ho7
  go_wp2_with fail
  refine (sameInts_same _ _ _ c7 capz zs w7 H7.out (HI4.out.keepB hB47 (Nat.le_refl _)) rfl (by omega)).mono ?_
  rintro e w8 ⟨rfl, hs8⟩
  go_wp2
  go_ret
  exact ⟨rfl, (hB4.trans (hB47.mono hB4.size)).trans (hs8.below _)⟩
end Go.Proofs.Ytpmnfgladfmffaa
