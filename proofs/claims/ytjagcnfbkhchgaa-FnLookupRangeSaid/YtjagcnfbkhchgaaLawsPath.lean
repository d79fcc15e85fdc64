/- The walks of the laws of lookups: paths. -/
import Derived.Test.YtjagcnfbkhchgaaLookR
import Derived.Test.YtjagcnfbkhchgaaDrawL
import Derived.Test.YtjagcnfbkhchgaaCircleMath2
import Derived.Deep.RegionLaw
import Derived.IntWalk
namespace Go.Proofs.Ytjagcnfbkhchgaa
open Go.RowKit
set_option linter.unusedVariables false

theorem pathV_some {zs L : List Int} {id key : Int} (h : pathV zs id key = L) (hl : L.length ≠ 0) : memB zs id = true ∧ ptB key = true ∧ pathL zs id key = L := by
  cases hm : memB zs id
  · rw [pathV_no (.inl hm)] at h; subst h; simp at hl
  · cases hk : ptB key
    · rw [pathV_no (.inr hk)] at h; subst h; simp at hl
    · rw [pathV_yes hm hk] at h; exact ⟨rfl, rfl, h⟩
theorem cells_of {w : World} {g : Nat} {L : List Int} (h : IntsAt w (some ⟨g, 0, none⟩) L) : ∀ i, i < L.length → w.cell? ⟨g, i, none⟩ = some (.int .i64 (gt L i)) := by
  intro i hi
  rcases h with h0 | ⟨b, off, ha, _, hc⟩
  · rw [h0] at hi; simp at hi
  · injection ha with ha; injection ha with h1 h2; subst h1 h2
    have := hc i hi
    rwa [Nat.zero_add] at this
theorem ints_drop {w : World} {g k : Nat} {L : List Int} (h : IntsAt w (some ⟨g, 0, none⟩) L) (hk : k < L.length) : IntsAt w (some ⟨g, k, none⟩) (L.drop k) := by
  rcases h with h0 | ⟨b, off, ha, hb, hc⟩
  · rw [h0] at hk; simp at hk
  · injection ha with ha; injection ha with h1 h2; subst h1 h2
    refine .inr ⟨g, k, rfl, hb, fun i hi => ?_⟩
    have hi' : k + i < L.length := by simp at hi; omega
    have := hc (k + i) hi'
    rw [Nat.zero_add] at this
    rw [this, gt_get hi', gt_get hi]; simp
theorem ints_take {w : World} {g k : Nat} {L : List Int} (h : IntsAt w (some ⟨g, 0, none⟩) L) (hk : k ≤ L.length) : IntsAt w (some ⟨g, 0, none⟩) (L.take k) := by
  rcases h with h0 | ⟨b, off, ha, hb, hc⟩
  · exact .inl (by rw [h0]; simp)
  · injection ha with ha; injection ha with h1 h2; subst h1 h2
    refine .inr ⟨g, 0, rfl, hb, fun i hi => ?_⟩
    have hi' : i < L.length := by simp at hi; omega
    rw [hc i hi', gt_get hi', gt_get hi]; simp
theorem one_ints (w : World) (z : Int) : IntsAt (w.alloc (.cells #[.int .i64 z] 3)) (some ⟨w.heap.size, 0, none⟩) [z] := by
  refine .inr ⟨w.heap.size, 0, rfl, by simp, fun i hi => ?_⟩
  obtain rfl : i = 0 := by simp at hi; exact hi
  rw [cell_of_cells (heap_alloc_new w _)]; simp [gt]
theorem lhas_as (v : Bool) (a : Option Addr) (len cap : Nat) (zs : List Int) (n : Int) (w : World) (h : IntsAt w a zs) (hz : zs.length = len) (hm : len ≤ maxLen) (hv : hasB zs n = v) :
    Calls Try.prog 26 #[.slice a len cap, .int .i64 n] w fun e w' => e = .returned (.bool v) ∧ w' = w := by
  subst hv; exact calls_flip (lhas_any a len cap zs n w h hz hm)

set_option maxHeartbeats 2000000 in
theorem lookupShort (s : Option Addr) (len cap : Nat) (z : List Int) (w : World) (h : RowIn .u8 w s len cap z) :
    Calls Try.prog 6 #[.slice s len cap] w fun e w' => e = .returned (.bool true) ∧ Below w.heap.size w w' := by
  have hb := bytes_of_row h
  have hm : len ≤ maxLen := Nat.le_trans hb.1 hb.2.1
  unfold maxLen at hm
  clear h
  by_cases hl : 1048576 < len
  · go_enter Try.func6, Try.ntmps6
    go_wp2
    go_ret
    exact ⟨rfl, Below.refl _ _⟩
  have hlB : decide ((1048576 : Int) < (len : Int)) = false := by simp; omega
  go_enter Try.func6, Try.ntmps6
  go_wp2_with fail
  refine (drawPath s len cap w hb).mono ?_
  rintro e w1 ⟨a, cap1, zs, id, key, rfl, hi1, hl1, hlc1, hB1⟩
  have HI1 := Lib.hid hi1.ints
  have hmx : zs.length ≤ maxLen := by unfold maxLen; omega
  have HM := Lib.hid hmx
  clear hi1 hmx hb
  obtain ⟨L, hL⟩ : ∃ L, pathV zs id key = L := ⟨_, rfl⟩
  have hL8 : L.length ≤ 8 := by rw [← hL]; exact pathV_len zs id key
  have HL := Lib.hid hL
  clear hL
  have hc1 := lpath_any a _ cap1 zs id key w1 HI1.out rfl HM.out
  rw [HL.out] at hc1
  go_wp2_with fail
  refine hc1.mono ?_
  clear hc1
  rintro e w2 ⟨g, gc, rfl, ho, hb2⟩
  have hB2 : Below w.heap.size w w2 := hB1.trans (hb2.mono hB1.size)
  have HO2 := Lib.hid ho.ints
  have hcap := ho.cap_le.1
  clear ho
  have hc1 := spath_any a _ cap1 zs id key w2 (HI1.out.keepB hb2 (Nat.le_refl _)) rfl HM.out
  rw [HL.out] at hc1
  go_wp2_with fail
  refine hc1.mono ?_
  clear hc1
  rintro e w3 ⟨g2, gc2, rfl, ho2, hb3⟩
  have hB3 : Below w.heap.size w w3 := hB2.trans (hb3.mono hB2.size)
  have HP3 := Lib.hid (HO2.out.keepB hb3 (Nat.le_refl _))
  have HQ3 := Lib.hid ho2.ints
  have HI3 := Lib.hid ((HI1.out.keepB hb2 (Nat.le_refl _)).keepB hb3 (Nat.le_refl _))
  clear ho2 hb2 hb3 hB1 hB2
  go_wp2_with fail
  refine (sameI_any _ _ _ _ _ L w3 HP3.out HQ3.out rfl (by omega)).mono ?_
  rintro e w4 ⟨rfl, hs4⟩
  have hB4 : Below w.heap.size w w4 := hB3.trans (hs4.below _)
  have HP4 := Lib.hid (HP3.out.same hs4)
  have HQ4 := Lib.hid (HQ3.out.same hs4)
  have HI4 := Lib.hid (HI3.out.same hs4)
  clear hs4 hB3
  have h8 : (L.length : Int) ≤ 8 := by omega
  go_wp2
  go_ret
  exact ⟨rfl, hB4⟩

set_option maxHeartbeats 2000000 in
theorem lookupSelf (s : Option Addr) (len cap : Nat) (z : List Int) (w : World) (h : RowIn .u8 w s len cap z) :
    Calls Try.prog 12 #[.slice s len cap] w fun e w' => e = .returned (.bool true) ∧ Below w.heap.size w w' := by
  have hb := bytes_of_row h
  have hm : len ≤ maxLen := Nat.le_trans hb.1 hb.2.1
  unfold maxLen at hm
  clear h
  by_cases hl : 1048576 < len
  · go_enter Try.func12, Try.ntmps12
    go_wp2
    go_ret
    exact ⟨rfl, Below.refl _ _⟩
  have hlB : decide ((1048576 : Int) < (len : Int)) = false := by simp; omega
  go_enter Try.func12, Try.ntmps12
  go_wp2_with fail
  refine (drawPath s len cap w hb).mono ?_
  rintro e w1 ⟨a, cap1, zs, id, key, rfl, hi1, hl1, hlc1, hB1⟩
  have HI1 := Lib.hid hi1.ints
  have hmx : zs.length ≤ maxLen := by unfold maxLen; omega
  have HM := Lib.hid hmx
  clear hi1 hmx hb
  obtain ⟨L, hL⟩ : ∃ L, pathV zs id key = L := ⟨_, rfl⟩
  have hL8 : L.length ≤ 8 := by rw [← hL]; exact pathV_len zs id key
  have HL := Lib.hid hL
  clear hL
  have hc1 := lpath_any a _ cap1 zs id key w1 HI1.out rfl HM.out
  rw [HL.out] at hc1
  go_wp2_with fail
  refine hc1.mono ?_
  clear hc1
  rintro e w2 ⟨g, gc, rfl, ho, hb2⟩
  have hB2 : Below w.heap.size w w2 := hB1.trans (hb2.mono hB1.size)
  have HO2 := Lib.hid ho.ints
  have hcap := ho.cap_le.1
  clear ho
  have hc1 := spath_any a _ cap1 zs id key w2 (HI1.out.keepB hb2 (Nat.le_refl _)) rfl HM.out
  rw [HL.out] at hc1
  go_wp2_with fail
  refine hc1.mono ?_
  clear hc1
  rintro e w3 ⟨g2, gc2, rfl, ho2, hb3⟩
  have hB3 : Below w.heap.size w w3 := hB2.trans (hb3.mono hB2.size)
  have HP3 := Lib.hid (HO2.out.keepB hb3 (Nat.le_refl _))
  have HQ3 := Lib.hid ho2.ints
  have HI3 := Lib.hid ((HI1.out.keepB hb2 (Nat.le_refl _)).keepB hb3 (Nat.le_refl _))
  clear ho2 hb2 hb3 hB1 hB2
  go_wp2_with fail
  refine (sameI_any _ _ _ _ _ L w3 HP3.out HQ3.out rfl (by omega)).mono ?_
  rintro e w4 ⟨rfl, hs4⟩
  have hB4 : Below w.heap.size w w4 := hB3.trans (hs4.below _)
  have HP4 := Lib.hid (HP3.out.same hs4)
  have HQ4 := Lib.hid (HQ3.out.same hs4)
  have HI4 := Lib.hid (HI3.out.same hs4)
  clear hs4 hB3
  by_cases h0 : L.length = 0
  · have hz : (((L.length : Nat) : Int) == 0) = true := by simp [h0]
    clear h0
    go_wp2_with (go_at_call 20; refine (sameI_any _ _ _ _ _ L w4 HP4.out HQ4.out rfl (by omega)).mono ?_; rintro e w5 ⟨rfl, hs5⟩)
    go_ret
    exact ⟨rfl, hB4.trans (hs5.below _)⟩
  have hz : (((L.length : Nat) : Int) == 0) = false := by simp; intro e; exact h0 (by rw [e]; rfl)
  obtain ⟨hmem, hkey, hLp⟩ := pathV_some HL.out (by omega)
  obtain ⟨hk0, hk1⟩ := (ptB_iff _).1 hkey
  obtain ⟨hv, hid⟩ := memB_yes hmem
  have HV := Lib.hid hv
  have HID := Lib.hid hid
  have HLP := Lib.hid hLp
  have HKEY := Lib.hid hkey
  clear hmem hkey hv hid hLp
  have HC := Lib.hid (cells_of HP4.out)
  have hpt : ptB id = true := (ptB_iff _).2 (vld_pt HV.out HID.out)
  have hc1 := lpath_any a _ cap1 zs id id w4 HI4.out rfl HM.out
  rw [pathV_yes (memB_mk HV.out HID.out) hpt, path_end (nxt_self HV.out HID.out).symm] at hc1
  clear hpt
  go_wp2_with fail
  refine hc1.mono ?_
  clear hc1
  rintro e w5 ⟨g5, gc5, rfl, ho5, hb5⟩
  have HO5 := Lib.hid ho5.ints
  clear ho5
  go_wp2_with fail
  refine (sameI_any _ _ 1 _ _ [id] _ (HO5.out.keepB ((Below.refl _ w5).alloc (Nat.le_refl _) _) (Nat.le_refl _)) (one_ints w5 id) rfl (by omega)).mono ?_
  rintro e w6 ⟨rfl, hs6⟩
  go_wp2
  go_ret
  exact ⟨rfl, (hB4.trans (hb5.mono hB4.size)).trans ((((Below.refl _ w5).alloc (Nat.le_refl _) _).mono (by have := hB4.size; have := hb5.size; omega)).trans (hs6.below _))⟩

set_option maxHeartbeats 2000000 in
theorem lookupHalf (s : Option Addr) (len cap : Nat) (z : List Int) (w : World) (h : RowIn .u8 w s len cap z) :
    Calls Try.prog 8 #[.slice s len cap] w fun e w' => e = .returned (.bool true) ∧ Below w.heap.size w w' := by
  have hb := bytes_of_row h
  have hm : len ≤ maxLen := Nat.le_trans hb.1 hb.2.1
  unfold maxLen at hm
  clear h
  by_cases hl : 1048576 < len
  · go_enter Try.func8, Try.ntmps8
    go_wp2
    go_ret
    exact ⟨rfl, Below.refl _ _⟩
  have hlB : decide ((1048576 : Int) < (len : Int)) = false := by simp; omega
  go_enter Try.func8, Try.ntmps8
  go_wp2_with fail
  refine (drawPath s len cap w hb).mono ?_
  rintro e w1 ⟨a, cap1, zs, id, key, rfl, hi1, hl1, hlc1, hB1⟩
  have HI1 := Lib.hid hi1.ints
  have hmx : zs.length ≤ maxLen := by unfold maxLen; omega
  have HM := Lib.hid hmx
  clear hi1 hmx hb
  obtain ⟨L, hL⟩ : ∃ L, pathV zs id key = L := ⟨_, rfl⟩
  have hL8 : L.length ≤ 8 := by rw [← hL]; exact pathV_len zs id key
  have HL := Lib.hid hL
  clear hL
  have hc1 := lpath_any a _ cap1 zs id key w1 HI1.out rfl HM.out
  rw [HL.out] at hc1
  go_wp2_with fail
  refine hc1.mono ?_
  clear hc1
  rintro e w2 ⟨g, gc, rfl, ho, hb2⟩
  have hB2 : Below w.heap.size w w2 := hB1.trans (hb2.mono hB1.size)
  have HO2 := Lib.hid ho.ints
  have hcap := ho.cap_le.1
  clear ho
  have hc1 := spath_any a _ cap1 zs id key w2 (HI1.out.keepB hb2 (Nat.le_refl _)) rfl HM.out
  rw [HL.out] at hc1
  go_wp2_with fail
  refine hc1.mono ?_
  clear hc1
  rintro e w3 ⟨g2, gc2, rfl, ho2, hb3⟩
  have hB3 : Below w.heap.size w w3 := hB2.trans (hb3.mono hB2.size)
  have HP3 := Lib.hid (HO2.out.keepB hb3 (Nat.le_refl _))
  have HQ3 := Lib.hid ho2.ints
  have HI3 := Lib.hid ((HI1.out.keepB hb2 (Nat.le_refl _)).keepB hb3 (Nat.le_refl _))
  clear ho2 hb2 hb3 hB1 hB2
  go_wp2_with fail
  refine (sameI_any _ _ _ _ _ L w3 HP3.out HQ3.out rfl (by omega)).mono ?_
  rintro e w4 ⟨rfl, hs4⟩
  have hB4 : Below w.heap.size w w4 := hB3.trans (hs4.below _)
  have HP4 := Lib.hid (HP3.out.same hs4)
  have HQ4 := Lib.hid (HQ3.out.same hs4)
  have HI4 := Lib.hid (HI3.out.same hs4)
  clear hs4 hB3
  by_cases h0 : L.length < 3
  · have hz : decide ((L.length : Int) < 3) = true := by simp; omega
    clear h0
    go_wp2_with (go_at_call 20; refine (sameI_any _ _ _ _ _ L w4 HP4.out HQ4.out rfl (by omega)).mono ?_; rintro e w5 ⟨rfl, hs5⟩)
    go_ret
    exact ⟨rfl, hB4.trans (hs5.below _)⟩
  have hz : decide ((L.length : Int) < 3) = false := by simp; omega
  obtain ⟨hmem, hkey, hLp⟩ := pathV_some HL.out (by omega)
  obtain ⟨hk0, hk1⟩ := (ptB_iff _).1 hkey
  obtain ⟨hv, hid⟩ := memB_yes hmem
  have HV := Lib.hid hv
  have HID := Lib.hid hid
  have HLP := Lib.hid hLp
  have HKEY := Lib.hid hkey
  clear hmem hkey hv hid hLp
  have HC := Lib.hid (cells_of HP4.out)
  have hbf := nbefore_any a _ cap1 zs key w4 HI4.out rfl HM.out
  rw [befI_eq HV.out HKEY.out] at hbf
  obtain ⟨p, hp⟩ : ∃ p, befL zs key = p := ⟨_, rfl⟩
  rw [hp] at hbf
  have HH : Hid (∀ i, i + 2 < L.length → 2 * dstI (gt L (i + 1)) p < dstI (gt L i) p) := by
    show ∀ i, i + 2 < L.length → 2 * dstI (gt L (i + 1)) p < dstI (gt L i) p
    intro i hi
    have hin : ∀ j, j < L.length → ptB (gt L j) = true := fun j hj => (ptB_iff _).2 (vld_pt HV.out (path_sub HV.out hk0 hk1 id HID.out _ (by rw [HLP.out]; exact gt_mem hj)).1)
    have hpp : ptB p = true := by rw [← hp]; exact (ptB_iff _).2 (vld_pt HV.out (bef_mem HV.out key))
    rw [dst_pt (hin _ (by omega)) hpp, dst_pt (hin _ (by omega)) hpp, ← hp]
    have h := path_half HV.out hk0 hk1 id HID.out i (by rw [HLP.out]; exact hi)
    rw [HLP.out] at h
    exact h
  have hdb : Hid (∀ x, -1 ≤ dstI x p ∧ dstI x p < 64) := by
    show ∀ x, -1 ≤ dstI x p ∧ dstI x p < 64
    intro x; unfold dstI; have := dist_bd x p; split <;> omega
  clear hp
  go_wp2_with fail
  refine hbf.mono ?_
  clear hbf
  rintro e w5 ⟨rfl, rfl⟩
  go_wp2
  go_loop [9] (fun i => ∃ k : Nat, 1 ≤ k ∧ k < L.length ∧ i = .int .i64 k) (fun i => L.length - (intOf i).toNat)
  case atStart => exact ⟨1, by omega, by omega, rfl⟩
  case round =>
    obtain ⟨k, hk1', hk, rfl⟩ := hrel
    by_cases hlt : k + 1 < L.length
    · obtain ⟨j, rfl⟩ : ∃ j, k = j + 1 := ⟨k - 1, by omega⟩
      have ca := HC.out j (by omega)
      have cb := HC.out (j + 1) (by omega)
      have hh := HH.out j (by omega)
      have d1 := hdb.out (gt L j)
      have d2 := hdb.out (gt L (j + 1))
      obtain ⟨da, hda⟩ : ∃ da, dstI (gt L j) p = da := ⟨_, rfl⟩
      obtain ⟨db, hdb'⟩ : ∃ db, dstI (gt L (j + 1)) p = db := ⟨_, rfl⟩
      rw [hda] at hh d1
      rw [hdb'] at hh d2
      have hx1 := cdst_any (gt L j) p w4
      have hx2 := cdst_any (gt L (j + 1)) p w4
      rw [hda] at hx1
      rw [hdb'] at hx2
      have HX1 := Lib.hid hx1
      have HX2 := Lib.hid hx2
      clear hx1 hx2 hda hdb'
      have hlt1 : ((j : Int) + 1) + 1 < (L.length : Int) := by omega
      have hlt2 : (j : Int) + 1 < (L.length : Int) := by omega
      have hlt3 : (j : Int) < (L.length : Int) := by omega
      have hlt0 : (0 : Int) ≤ (j : Int) := by omega
      go_wp2_with fail
      refine HX1.out.mono ?_
      rintro e w5 ⟨rfl, rfl⟩
      go_wp2_with fail
      refine HX2.out.mono ?_
      rintro e w5 ⟨rfl, rfl⟩
      by_cases hpos : 0 < db
      · have hge : ¬ da ≤ 2 * db := by omega
        go_wp2
        go_round
        case rel => exact ⟨j + 1 + 1, by omega, by omega, by go_num⟩
        case measure => simp [intOf]; omega
      · go_wp2
        go_round
        case rel => exact ⟨j + 1 + 1, by omega, by omega, by go_num⟩
        case measure => simp [intOf]; omega
    · have hge : (L.length : Int) ≤ (k : Int) + 1 := by omega
      go_wp2
      go_ret
      exact ⟨rfl, hB4⟩

end Go.Proofs.Ytjagcnfbkhchgaa
