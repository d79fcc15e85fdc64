/- The walks of the laws of lookups: paths. -/
import Derived.Test.YtjagcnfbkhchgaaLawsPath
import Derived.IntWalk
import Derived.Deep.RegionWith
namespace Go.Proofs.Ytjagcnfbkhchgaa
open Go.RowKit
set_option linter.unusedVariables false

theorem lpath_as (a : Option Addr) (len cap : Nat) (zs : List Int) (id key : Int) (w : World) (L : List Int) (m : Nat) (h : IntsAt w a zs) (hz : zs.length = len) (hm : len ≤ maxLen) (hL : pathV zs id key = L) (hl : L.length = m) :
    Calls Try.prog 24 #[.slice a len cap, .int .i64 id, .int .i64 key] w fun e w' => ∃ g gc, e = .returned (.slice (some ⟨g, 0, none⟩) m gc) ∧ IntsAt w' (some ⟨g, 0, none⟩) L ∧ Below w.heap.size w w' := by
  subst hL hl
  exact (lpath_any a len cap zs id key w h hz hm).mono fun e w' ⟨g, gc, he, ho, hb⟩ => ⟨g, gc, he, ho.ints, hb⟩

set_option maxHeartbeats 2000000 in
theorem lookupSuffix (s : Option Addr) (len cap : Nat) (z : List Int) (s2 : Option Addr) (len2 cap2 : Nat) (z2 : List Int) (w : World) (h : RowIn .u8 w s len cap z) (h2 : RowIn .u8 w s2 len2 cap2 z2) :
    Calls Try.prog 9 #[.slice s len cap, .slice s2 len2 cap2] w fun e w' => e = .returned (.bool true) ∧ Below w.heap.size w w' := by
  have hb := bytes_of_row h
  have hm : len ≤ maxLen := Nat.le_trans hb.1 hb.2.1
  unfold maxLen at hm
  clear h
  have hb2' := bytes_of_row h2
  have hm2 : len2 ≤ maxLen := Nat.le_trans hb2'.1 hb2'.2.1
  unfold maxLen at hm2
  clear h2 hb2'
  by_cases hl2 : 1048576 < len2
  · by_cases hl : 1048576 < len
    · go_enter Try.func9, Try.ntmps9
      go_wp2
      go_ret
      exact ⟨rfl, Below.refl _ _⟩
    · go_enter Try.func9, Try.ntmps9
      go_wp2
      go_ret
      exact ⟨rfl, Below.refl _ _⟩
  by_cases hl : 1048576 < len
  · go_enter Try.func9, Try.ntmps9
    go_wp2
    go_ret
    exact ⟨rfl, Below.refl _ _⟩
  have hlB : decide ((1048576 : Int) < (len : Int)) = false := by simp; omega
  have hlB2 : decide ((1048576 : Int) < (len2 : Int)) = false := by simp; omega
  go_enter Try.func9, Try.ntmps9
  go_wp2_with fail
  refine (drawPath s len cap w hb).mono ?_
  rintro e w1 ⟨a, cap1, zs, id, key, rfl, hi1, hl1, hlc1, hB1⟩
  have HI1 := Lib.hid hi1.ints
  have hmx : zs.length ≤ maxLen := by unfold maxLen; omega
  have HM := Lib.hid hmx
  clear hi1 hmx hb
  obtain ⟨L, hL⟩ : ∃ L, pathV zs id key = L := ⟨_, rfl⟩
  have hL8 : L.length ≤ 8 := by rw [← hL]; exact pathV_len zs id key
  have HL := Lib.hid hL
  clear hL
  have hc1 := lpath_any a _ cap1 zs id key w1 HI1.out rfl HM.out
  rw [HL.out] at hc1
  go_wp2_with fail
  refine hc1.mono ?_
  clear hc1
  rintro e w2 ⟨g, gc, rfl, ho, hb2⟩
  have hB2 : Below w.heap.size w w2 := hB1.trans (hb2.mono hB1.size)
  have HO2 := Lib.hid ho.ints
  have hcap := ho.cap_le.1
  clear ho
  have hc1 := spath_any a _ cap1 zs id key w2 (HI1.out.keepB hb2 (Nat.le_refl _)) rfl HM.out
  rw [HL.out] at hc1
  go_wp2_with fail
  refine hc1.mono ?_
  clear hc1
  rintro e w3 ⟨g2, gc2, rfl, ho2, hb3⟩
  have hB3 : Below w.heap.size w w3 := hB2.trans (hb3.mono hB2.size)
  have HP3 := Lib.hid (HO2.out.keepB hb3 (Nat.le_refl _))
  have HQ3 := Lib.hid ho2.ints
  have HI3 := Lib.hid ((HI1.out.keepB hb2 (Nat.le_refl _)).keepB hb3 (Nat.le_refl _))
  clear ho2 hb2 hb3 hB1 hB2
  go_wp2_with fail
  refine (sameI_any _ _ _ _ _ L w3 HP3.out HQ3.out rfl (by omega)).mono ?_
  rintro e w4 ⟨rfl, hs4⟩
  have hB4 : Below w.heap.size w w4 := hB3.trans (hs4.below _)
  have HP4 := Lib.hid (HP3.out.same hs4)
  have HQ4 := Lib.hid (HQ3.out.same hs4)
  have HI4 := Lib.hid (HI3.out.same hs4)
  clear hs4 hB3
  by_cases h0 : L.length = 0
  · have hz : (((L.length : Nat) : Int) == 0) = true := by simp [h0]
    clear h0
    go_wp2_with (go_at_call 20; refine (sameI_any _ _ _ _ _ L w4 HP4.out HQ4.out rfl (by omega)).mono ?_; rintro e w5 ⟨rfl, hs5⟩)
    go_ret
    exact ⟨rfl, hB4.trans (hs5.below _)⟩
  have hz : (((L.length : Nat) : Int) == 0) = false := by simp; intro e; exact h0 (by rw [e]; rfl)
  obtain ⟨hmem, hkey, hLp⟩ := pathV_some HL.out (by omega)
  obtain ⟨hk0, hk1⟩ := (ptB_iff _).1 hkey
  obtain ⟨hv, hid⟩ := memB_yes hmem
  have HV := Lib.hid hv
  have HID := Lib.hid hid
  have HLP := Lib.hid hLp
  have HKEY := Lib.hid hkey
  clear hmem hkey hv hid hLp
  have HC := Lib.hid (cells_of HP4.out)
  obtain ⟨k, hke⟩ : ∃ k : Nat, (len2 : Int) % (L.length : Int) = (k : Int) := ⟨len2 % L.length, rfl⟩
  have hkl : k < L.length := by
    have := Int.emod_lt_of_pos (len2 : Int) (show (0 : Int) < (L.length : Int) by omega)
    omega
  have ck := HC.out k hkl
  have hgk : Hid (pathV zs (gt L k) key = L.drop k) := by
    show pathV zs (gt L k) key = L.drop k
    have hin := (path_sub HV.out hk0 hk1 id HID.out (gt L k) (by rw [HLP.out]; exact gt_mem hkl)).1
    rw [pathV_yes (memB_mk HV.out hin) HKEY.out]
    have := path_drop HV.out hk0 hk1 id HID.out k (by rw [HLP.out]; exact hkl)
    rw [HLP.out] at this
    exact this
  have hne0 : ¬ ((L.length : Int) = 0) := by omega
  have HDL : Hid ((L.drop k).length = L.length - k) := by show (L.drop k).length = L.length - k; simp
  have hIW := HI4.out
  go_wp2
  rw [hke]
  have HKE := Lib.hid hke
  clear hke hne0
  have fk0 : (0 : Int) ≤ (k : Int) := by omega
  have fk1 : (k : Int) < (L.length : Int) := by omega
  have fk2 : (k : Int) ≤ (L.length : Int) := by omega
  have fk3 : k ≤ L.length := by omega
  have fk4 : ¬ gc = k := by omega
  have fk5 : k ≤ gc := by omega
  go_region_with ((first | (go_at_call 24; refine (lpath_as _ _ _ zs _ _ _ (L.drop k) (L.length - k) (by exact hIW) rfl HM.out hgk.out HDL.out).mono ?_; rintro e w5 ⟨g6, gc6, rfl, hi6, hb6⟩; have hP5 : IntsAt w5 (some ⟨g, 0, none⟩) L := HP4.out.keepB (((Below.refl w4.heap.size w4).drew).trans hb6) (Nat.le_refl _)) | (go_at_call 20; refine (sameI_any _ _ _ _ _ (L.drop k) _ (by exact hi6) (by exact ints_drop hP5 hkl) HDL.out (by omega)).mono ?_; rintro e w7 ⟨rfl, hs7⟩)))
  all_goals
    go_wp2
    go_ret
    exact ⟨rfl, (hB4.trans ((((Below.refl w4.heap.size w4).drew).trans hb6).mono hB4.size)).trans (hs7.below _)⟩

end Go.Proofs.Ytjagcnfbkhchgaa
