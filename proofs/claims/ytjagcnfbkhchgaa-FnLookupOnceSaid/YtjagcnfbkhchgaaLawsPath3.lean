/- The walks of the laws of lookups: paths. -/
import Derived.Test.YtjagcnfbkhchgaaLawsPath
import Derived.IntWalk
namespace Go.Proofs.Ytjagcnfbkhchgaa
open Go.RowKit
set_option linter.unusedVariables false

set_option maxHeartbeats 2000000 in
theorem lookupOnce (s : Option Addr) (len cap : Nat) (z : List Int) (w : World) (h : RowIn .u8 w s len cap z) :
    Calls Try.prog 7 #[.slice s len cap] w fun e w' => e = .returned (.bool true) ∧ Below w.heap.size w w' := by
  have hb := bytes_of_row h
  have hm : len ≤ maxLen := Nat.le_trans hb.1 hb.2.1
  unfold maxLen at hm
  clear h
  by_cases hl : 1048576 < len
  · go_enter Try.func7, Try.ntmps7
    go_wp2
    go_ret
    exact ⟨rfl, Below.refl _ _⟩
  have hlB : decide ((1048576 : Int) < (len : Int)) = false := by simp; omega
  go_enter Try.func7, Try.ntmps7
  go_wp2_with fail
  refine (drawPath s len cap w hb).mono ?_
  rintro e w1 ⟨a, cap1, zs, id, key, rfl, hi1, hl1, hlc1, hB1⟩
  have HI1 := Lib.hid hi1.ints
  have hmx : zs.length ≤ maxLen := by unfold maxLen; omega
  have HM := Lib.hid hmx
  clear hi1 hmx hb
  obtain ⟨L, hL⟩ : ∃ L, pathV zs id key = L := ⟨_, rfl⟩
  have hL8 : L.length ≤ 8 := by rw [← hL]; exact pathV_len zs id key
  have HL := Lib.hid hL
  clear hL
  have hc1 := lpath_any a _ cap1 zs id key w1 HI1.out rfl HM.out
  rw [HL.out] at hc1
  go_wp2_with fail
  refine hc1.mono ?_
  clear hc1
  rintro e w2 ⟨g, gc, rfl, ho, hb2⟩
  have hB2 : Below w.heap.size w w2 := hB1.trans (hb2.mono hB1.size)
  have HO2 := Lib.hid ho.ints
  have hcap := ho.cap_le.1
  clear ho
  have hc1 := spath_any a _ cap1 zs id key w2 (HI1.out.keepB hb2 (Nat.le_refl _)) rfl HM.out
  rw [HL.out] at hc1
  go_wp2_with fail
  refine hc1.mono ?_
  clear hc1
  rintro e w3 ⟨g2, gc2, rfl, ho2, hb3⟩
  have hB3 : Below w.heap.size w w3 := hB2.trans (hb3.mono hB2.size)
  have HP3 := Lib.hid (HO2.out.keepB hb3 (Nat.le_refl _))
  have HQ3 := Lib.hid ho2.ints
  have HI3 := Lib.hid ((HI1.out.keepB hb2 (Nat.le_refl _)).keepB hb3 (Nat.le_refl _))
  clear ho2 hb2 hb3 hB1 hB2
  go_wp2_with fail
  refine (sameI_any _ _ _ _ _ L w3 HP3.out HQ3.out rfl (by omega)).mono ?_
  rintro e w4 ⟨rfl, hs4⟩
  have hB4 : Below w.heap.size w w4 := hB3.trans (hs4.below _)
  have HP4 := Lib.hid (HP3.out.same hs4)
  have HQ4 := Lib.hid (HQ3.out.same hs4)
  have HI4 := Lib.hid (HI3.out.same hs4)
  clear hs4 hB3
  have HIN : Hid (∀ i, i < L.length → hasB zs (gt L i) = true ∧ hasB (L.take i) (gt L i) = false) := by
    show ∀ i, i < L.length → hasB zs (gt L i) = true ∧ hasB (L.take i) (gt L i) = false
    intro i hi
    obtain ⟨hmem, hkey, hLp⟩ := pathV_some HL.out (by omega)
    obtain ⟨hk0, hk1⟩ := (ptB_iff _).1 hkey
    obtain ⟨hv, hid⟩ := memB_yes hmem
    refine ⟨(hasB_iff _ _).2 (path_sub hv hk0 hk1 id hid _ (by rw [hLp]; exact gt_mem hi)).1, ?_⟩
    have hnd := path_nodup hv hk0 hk1 id hid
    rw [hLp] at hnd
    cases hh : hasB (L.take i) (gt L i)
    · rfl
    · exfalso
      rw [hasB_iff, gt_get hi] at hh
      obtain ⟨j, hj, e⟩ := List.getElem_of_mem hh
      have hj' : j < i := by simp at hj; omega
      rw [List.getElem_take] at e
      exact List.pairwise_iff_getElem.1 hnd j i (by omega) hi hj' e
  have HC := Lib.hid (cells_of HP4.out)
  go_wp2
  go_loopw [8] (fun i wr => ∃ k : Nat, k ≤ L.length ∧ i = .int .i64 k ∧ Same w4 wr) (fun i _ => L.length - (intOf i).toNat)
  case atStart => exact ⟨0, by omega, rfl, Same.refl _⟩
  case round =>
    obtain ⟨k, hk, rfl, hsr⟩ := hrel
    by_cases hlt : k < L.length
    · have hc := (hsr.cell ⟨g, k, none⟩).trans (HC.out k hlt)
      obtain ⟨e1, e2⟩ := HIN.out k hlt
      have E1 := Lib.hid e1
      have E2 := Lib.hid e2
      clear e1 e2
      have hIr := HI4.out.same hsr
      have hLr := ints_take (HP4.out.same hsr) hk
      have HTL : Hid ((L.take k).length = k) := by show (L.take k).length = k; simp; omega
      have HKM : Hid (k ≤ maxLen) := by show k ≤ maxLen; unfold maxLen; omega
      have hlt' : (k : Int) < (L.length : Int) := by omega
      have h0' : (0 : Int) ≤ (k : Int) := by omega
      have hkc : k ≤ gc := by omega
      go_wp2
      go_quiet ((first | (go_at_call 26; ((with_reducible refine Calls.quiet_of_same (lhas_as true a _ cap1 zs _ _ ?_ rfl HM.out E1.out)); exact hIr)) | (go_at_call 26; ((with_reducible refine Calls.quiet_of_same (lhas_as false (some ⟨g, 0, none⟩) k gc (L.take k) _ _ ?_ HTL.out HKM.out E2.out)); exact hLr))))
      go_wp2
      go_roundw
      case rel => exact ⟨k + 1, by omega, by go_num, hsr.drewN _⟩
      case measure => simp [intOf]; omega
    · go_wp2
      go_ret
      exact ⟨rfl, hB4.trans (hsr.below _)⟩

end Go.Proofs.Ytjagcnfbkhchgaa
