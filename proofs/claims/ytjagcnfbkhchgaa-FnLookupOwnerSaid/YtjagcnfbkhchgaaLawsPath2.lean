/- The walks of the laws of lookups: paths. -/
import Derived.Test.YtjagcnfbkhchgaaLawsPath
import Derived.IntWalk
namespace Go.Proofs.Ytjagcnfbkhchgaa
open Go.RowKit
set_option linter.unusedVariables false

set_option maxHeartbeats 2000000 in
theorem lookupOwner (s : Option Addr) (len cap : Nat) (z : List Int) (w : World) (h : RowIn .u8 w s len cap z) :
    Calls Try.prog 5 #[.slice s len cap] w fun e w' => e = .returned (.bool true) ∧ Below w.heap.size w w' := by
  have hb := bytes_of_row h
  have hm : len ≤ maxLen := Nat.le_trans hb.1 hb.2.1
  unfold maxLen at hm
  clear h
  by_cases hl : 1048576 < len
  · go_enter Try.func5, Try.ntmps5
    go_wp2
    go_ret
    exact ⟨rfl, Below.refl _ _⟩
  have hlB : decide ((1048576 : Int) < (len : Int)) = false := by simp; omega
  go_enter Try.func5, Try.ntmps5
  go_wp2_with fail
  refine (drawPath s len cap w hb).mono ?_
  rintro e w1 ⟨a, cap1, zs, id, key, rfl, hi1, hl1, hlc1, hB1⟩
  have HI1 := Lib.hid hi1.ints
  have hmx : zs.length ≤ maxLen := by unfold maxLen; omega
  have HM := Lib.hid hmx
  clear hi1 hmx hb
  obtain ⟨L, hL⟩ : ∃ L, pathV zs id key = L := ⟨_, rfl⟩
  have hL8 : L.length ≤ 8 := by rw [← hL]; exact pathV_len zs id key
  have HL := Lib.hid hL
  clear hL
  have hc1 := lpath_any a _ cap1 zs id key w1 HI1.out rfl HM.out
  rw [HL.out] at hc1
  go_wp2_with fail
  refine hc1.mono ?_
  clear hc1
  rintro e w2 ⟨g, gc, rfl, ho, hb2⟩
  have hB2 : Below w.heap.size w w2 := hB1.trans (hb2.mono hB1.size)
  have HO2 := Lib.hid ho.ints
  have hcap := ho.cap_le.1
  clear ho
  have hc1 := spath_any a _ cap1 zs id key w2 (HI1.out.keepB hb2 (Nat.le_refl _)) rfl HM.out
  rw [HL.out] at hc1
  go_wp2_with fail
  refine hc1.mono ?_
  clear hc1
  rintro e w3 ⟨g2, gc2, rfl, ho2, hb3⟩
  have hB3 : Below w.heap.size w w3 := hB2.trans (hb3.mono hB2.size)
  have HP3 := Lib.hid (HO2.out.keepB hb3 (Nat.le_refl _))
  have HQ3 := Lib.hid ho2.ints
  have HI3 := Lib.hid ((HI1.out.keepB hb2 (Nat.le_refl _)).keepB hb3 (Nat.le_refl _))
  clear ho2 hb2 hb3 hB1 hB2
  go_wp2_with fail
  refine (sameI_any _ _ _ _ _ L w3 HP3.out HQ3.out rfl (by omega)).mono ?_
  rintro e w4 ⟨rfl, hs4⟩
  have hB4 : Below w.heap.size w w4 := hB3.trans (hs4.below _)
  have HP4 := Lib.hid (HP3.out.same hs4)
  have HQ4 := Lib.hid (HQ3.out.same hs4)
  have HI4 := Lib.hid (HI3.out.same hs4)
  clear hs4 hB3
  by_cases h0 : L.length = 0
  · have hz : (((L.length : Nat) : Int) == 0) = true := by simp [h0]
    clear h0
    go_wp2_with (go_at_call 20; refine (sameI_any _ _ _ _ _ L w4 HP4.out HQ4.out rfl (by omega)).mono ?_; rintro e w5 ⟨rfl, hs5⟩)
    go_ret
    exact ⟨rfl, hB4.trans (hs5.below _)⟩
  have hz : (((L.length : Nat) : Int) == 0) = false := by simp; intro e; exact h0 (by rw [e]; rfl)
  obtain ⟨hmem, hkey, hLp⟩ := pathV_some HL.out (by omega)
  obtain ⟨hk0, hk1⟩ := (ptB_iff _).1 hkey
  obtain ⟨hv, hid⟩ := memB_yes hmem
  have HV := Lib.hid hv
  have HID := Lib.hid hid
  have HLP := Lib.hid hLp
  have HKEY := Lib.hid hkey
  have HC := Lib.hid (cells_of HP4.out)
  clear hmem hkey hv hid hLp
  obtain ⟨n, hn⟩ : ∃ n, L.length = n + 1 := ⟨L.length - 1, by omega⟩
  have e0 : (gt L 0 == id) = true := by rw [← HLP.out, path_head]; simp
  have e1 : (gt L n == nxtI zs key) = true := by
    rw [nxtI_eq HV.out HKEY.out]
    have := path_last HV.out hk0 hk1 id HID.out
    rw [HLP.out, hn, Nat.add_sub_cancel] at this
    rw [this]; simp
  have ca := HC.out 0 (by omega)
  have cb := HC.out n (by omega)
  rw [hn] at hL8 hcap hz ⊢
  clear hn h0
  have hw : IntKind.i64.wrap ((n : Int) + 1 - 1) = (n : Int) := by rw [show (n : Int) + 1 - 1 = n by omega]; exact IntWalk.i64_in _ (by omega)
  have hw' : (n : Int) + 1 - 1 = (n : Int) := by omega
  have h1 : (0 : Int) ≤ (n : Int) := by omega
  have h2 : (n : Int) < (n : Int) + 1 := by omega
  have hIW := HI4.out
  go_wp2
  go_quiet ((go_at_call 21; exact Calls.quiet_of_same (calls_flip (nnext_any _ _ _ zs _ _ (by exact hIW) rfl HM.out))))
  go_wp2
  go_ret
  exact ⟨rfl, hB4.trans (Same.below ⟨nq, rfl⟩ _)⟩

end Go.Proofs.Ytjagcnfbkhchgaa
