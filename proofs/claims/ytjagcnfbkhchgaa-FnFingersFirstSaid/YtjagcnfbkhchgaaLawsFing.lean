/- The walks of the laws of lookups: paths. -/
import Derived.Test.YtjagcnfbkhchgaaLawsPath
import Derived.IntWalk
namespace Go.Proofs.Ytjagcnfbkhchgaa
open Go.RowKit
set_option linter.unusedVariables false

theorem fgV_some {zs L : List Int} {id : Int} (h : fgV zs id = L) (hl : L.length ≠ 0) : memB zs id = true ∧ fgTo zs id 6 = L := by
  cases hm : memB zs id
  · rw [fgV_no hm] at h; subst h; simp at hl
  · rw [fgV_yes hm] at h; exact ⟨rfl, h⟩

set_option maxHeartbeats 2000000 in
theorem fingers (s : Option Addr) (len cap : Nat) (z : List Int) (w : World) (h : RowIn .u8 w s len cap z) :
    Calls Try.prog 3 #[.slice s len cap] w fun e w' => e = .returned (.bool true) ∧ Below w.heap.size w w' := by
  have hb := bytes_of_row h
  have hm : len ≤ maxLen := Nat.le_trans hb.1 hb.2.1
  unfold maxLen at hm
  clear h
  by_cases hl : 1048576 < len
  · go_enter Try.func3, Try.ntmps3
    go_wp2
    go_ret
    exact ⟨rfl, Below.refl _ _⟩
  have hlB : decide ((1048576 : Int) < (len : Int)) = false := by simp; omega
  go_enter Try.func3, Try.ntmps3
  go_wp2_with fail
  refine (drawFingers s len cap w hb).mono ?_
  rintro e w1 ⟨a, cap1, zs, id, rfl, hi1, hl1, hlc1, hB1⟩
  have HI1 := Lib.hid hi1.ints
  have hmx : zs.length ≤ maxLen := by unfold maxLen; omega
  have HM := Lib.hid hmx
  clear hi1 hmx hb
  obtain ⟨L, hL⟩ : ∃ L, fgV zs id = L := ⟨_, rfl⟩
  have hL8 : L.length ≤ 6 := by rw [← hL]; exact fgV_len zs id
  have HL := Lib.hid hL
  clear hL
  have hc1 := fingers_any a _ cap1 zs id w1 HI1.out rfl HM.out
  rw [HL.out] at hc1
  go_wp2_with fail
  refine hc1.mono ?_
  clear hc1
  rintro e w2 ⟨g, gc, rfl, ho, hb2⟩
  have hB2 : Below w.heap.size w w2 := hB1.trans (hb2.mono hB1.size)
  have HO2 := Lib.hid ho.ints
  have hcap := ho.cap_le.1
  clear ho
  have hc1 := sfingers_any a _ cap1 zs id w2 (HI1.out.keepB hb2 (Nat.le_refl _)) rfl HM.out
  rw [HL.out] at hc1
  go_wp2_with fail
  refine hc1.mono ?_
  clear hc1
  rintro e w3 ⟨g2, gc2, rfl, ho2, hb3⟩
  have hB3 : Below w.heap.size w w3 := hB2.trans (hb3.mono hB2.size)
  have HP3 := Lib.hid (HO2.out.keepB hb3 (Nat.le_refl _))
  have HQ3 := Lib.hid ho2.ints
  have HI3 := Lib.hid ((HI1.out.keepB hb2 (Nat.le_refl _)).keepB hb3 (Nat.le_refl _))
  clear ho2 hb2 hb3 hB1 hB2
  go_wp2_with fail
  refine (sameI_any _ _ _ _ _ L w3 HP3.out HQ3.out rfl (by omega)).mono ?_
  rintro e w4 ⟨rfl, hs4⟩
  have hB4 : Below w.heap.size w w4 := hB3.trans (hs4.below _)
  have HP4 := Lib.hid (HP3.out.same hs4)
  have HQ4 := Lib.hid (HQ3.out.same hs4)
  have HI4 := Lib.hid (HI3.out.same hs4)
  clear hs4 hB3
  by_cases h0 : L.length = 0
  · have hz : (((L.length : Nat) : Int) == 0) = true := by simp [h0]
    clear h0
    go_wp2_with (go_at_call 20; refine (sameI_any _ _ _ _ _ L w4 HP4.out HQ4.out rfl (by omega)).mono ?_; rintro e w5 ⟨rfl, hs5⟩)
    go_ret
    exact ⟨rfl, hB4.trans (hs5.below _)⟩
  have hz : (((L.length : Nat) : Int) == 0) = false := by simp; intro e; exact h0 (by rw [e]; rfl)
  obtain ⟨hmem, hLp⟩ := fgV_some HL.out (by omega)
  obtain ⟨hv, hid⟩ := memB_yes hmem
  obtain ⟨hi0, hi1⟩ := vld_pt hv hid
  have HV := Lib.hid hv
  have HID := Lib.hid hid
  have HLP := Lib.hid hLp
  clear hmem hv hid hLp
  have HC := Lib.hid (cells_of HP4.out)
  have hL6 : L.length = 6 := by rw [← HLP.out, fgTo_len]
  have HL6 := Lib.hid hL6
  have h6 : (L.length : Int) = 6 := by omega
  have HG : Hid (∀ k, k < 6 → nxtI zs ((id + ((2 ^ k : Nat) : Int)) % 64) = gt L k) := by
    show ∀ k, k < 6 → nxtI zs ((id + ((2 ^ k : Nat) : Int)) % 64) = gt L k
    intro k hk
    rw [← HLP.out, gt_fgTo hk, nxtI_eq HV.out (by rw [ptB_iff]; omega)]; rfl
  have HH6 := Lib.hid h6
  rw [hL6]
  clear h0 hL6 h6 hL8
  go_wp2
  go_loopw [7, 8] (fun st i wr => ∃ (k : Nat) (s : Int), k ≤ 6 ∧ i = .int .i64 k ∧ st = .int .i64 s ∧ s = ((2 ^ k : Nat) : Int) ∧ Same w4 wr) (fun _ i _ => 6 - (intOf i).toNat)
  case atStart => exact ⟨0, 1, by omega, rfl, rfl, rfl, Same.refl _⟩
  case round =>
    obtain ⟨k, s, hk, rfl, rfl, hs, hsr⟩ := hrel
    have hsb := pow_bd hk
    rw [← hs] at hsb
    obtain ⟨hs1, hs2⟩ := hsb
    by_cases hlt : k < 6
    · have hc := (hsr.cell ⟨g, k, none⟩).trans (HC.out k (by rw [HL6.out]; exact hlt))
      obtain ⟨r, hr⟩ : ∃ r, (id + s) % 64 = r := ⟨_, rfl⟩
      have hg := HG.out k hlt
      rw [← hs, hr] at hg
      have hne : (gt L k != nxtI zs r) = false := by rw [hg]; simp
      have ht : (id + s).tmod 64 = r := by rw [Int.tmod_eq_emod_of_nonneg (by omega)]; exact hr
      have hw : IntKind.i64.wrap (id + s) = id + s := IntWalk.i64_in _ (by omega)
      have HS := Lib.hid hs
      clear hs hr hg
      have hIr := HI4.out.same hsr
      have hlt' : (k : Int) < 6 := by omega
      have h0' : (0 : Int) ≤ (k : Int) := by omega
      go_wp2
      go_quiet ((go_at_call 21; exact Calls.quiet_of_same (calls_flip (nnext_any _ _ _ zs _ _ (by exact hIr) rfl HM.out))))
      clear ht hw
      go_wp2
      go_roundw
      case rel => exact ⟨k + 1, 2 * s, by omega, by go_num, rfl, by rw [pow_two, HS.out], hsr.drewN _⟩
      case measure => simp [intOf]; omega
    · have hge : (6 : Int) ≤ (k : Int) := by omega
      clear hs
      go_wp2
      go_ret
      exact ⟨rfl, hB4.trans (hsr.below _)⟩

set_option maxHeartbeats 2000000 in
theorem fingersFirst (s : Option Addr) (len cap : Nat) (z : List Int) (w : World) (h : RowIn .u8 w s len cap z) :
    Calls Try.prog 4 #[.slice s len cap] w fun e w' => e = .returned (.bool true) ∧ Below w.heap.size w w' := by
  have hb := bytes_of_row h
  have hm : len ≤ maxLen := Nat.le_trans hb.1 hb.2.1
  unfold maxLen at hm
  clear h
  by_cases hl : 1048576 < len
  · go_enter Try.func4, Try.ntmps4
    go_wp2
    go_ret
    exact ⟨rfl, Below.refl _ _⟩
  have hlB : decide ((1048576 : Int) < (len : Int)) = false := by simp; omega
  go_enter Try.func4, Try.ntmps4
  go_wp2_with fail
  refine (drawFingers s len cap w hb).mono ?_
  rintro e w1 ⟨a, cap1, zs, id, rfl, hi1, hl1, hlc1, hB1⟩
  have HI1 := Lib.hid hi1.ints
  have hmx : zs.length ≤ maxLen := by unfold maxLen; omega
  have HM := Lib.hid hmx
  clear hi1 hmx hb
  obtain ⟨L, hL⟩ : ∃ L, fgV zs id = L := ⟨_, rfl⟩
  have hL8 : L.length ≤ 6 := by rw [← hL]; exact fgV_len zs id
  have HL := Lib.hid hL
  clear hL
  have hc1 := fingers_any a _ cap1 zs id w1 HI1.out rfl HM.out
  rw [HL.out] at hc1
  go_wp2_with fail
  refine hc1.mono ?_
  clear hc1
  rintro e w2 ⟨g, gc, rfl, ho, hb2⟩
  have hB2 : Below w.heap.size w w2 := hB1.trans (hb2.mono hB1.size)
  have HO2 := Lib.hid ho.ints
  have hcap := ho.cap_le.1
  clear ho
  have hc1 := sfingers_any a _ cap1 zs id w2 (HI1.out.keepB hb2 (Nat.le_refl _)) rfl HM.out
  rw [HL.out] at hc1
  go_wp2_with fail
  refine hc1.mono ?_
  clear hc1
  rintro e w3 ⟨g2, gc2, rfl, ho2, hb3⟩
  have hB3 : Below w.heap.size w w3 := hB2.trans (hb3.mono hB2.size)
  have HP3 := Lib.hid (HO2.out.keepB hb3 (Nat.le_refl _))
  have HQ3 := Lib.hid ho2.ints
  have HI3 := Lib.hid ((HI1.out.keepB hb2 (Nat.le_refl _)).keepB hb3 (Nat.le_refl _))
  clear ho2 hb2 hb3 hB1 hB2
  go_wp2_with fail
  refine (sameI_any _ _ _ _ _ L w3 HP3.out HQ3.out rfl (by omega)).mono ?_
  rintro e w4 ⟨rfl, hs4⟩
  have hB4 : Below w.heap.size w w4 := hB3.trans (hs4.below _)
  have HP4 := Lib.hid (HP3.out.same hs4)
  have HQ4 := Lib.hid (HQ3.out.same hs4)
  have HI4 := Lib.hid (HI3.out.same hs4)
  clear hs4 hB3
  by_cases h0 : L.length = 0
  · have hz : (((L.length : Nat) : Int) == 0) = true := by simp [h0]
    clear h0
    go_wp2_with (go_at_call 20; refine (sameI_any _ _ _ _ _ L w4 HP4.out HQ4.out rfl (by omega)).mono ?_; rintro e w5 ⟨rfl, hs5⟩)
    go_ret
    exact ⟨rfl, hB4.trans (hs5.below _)⟩
  have hz : (((L.length : Nat) : Int) == 0) = false := by simp; intro e; exact h0 (by rw [e]; rfl)
  obtain ⟨hmem, hLp⟩ := fgV_some HL.out (by omega)
  obtain ⟨hv, hid⟩ := memB_yes hmem
  obtain ⟨hi0, hi1⟩ := vld_pt hv hid
  have HV := Lib.hid hv
  have HID := Lib.hid hid
  have HLP := Lib.hid hLp
  clear hmem hv hid hLp
  have HC := Lib.hid (cells_of HP4.out)
  have hL6 : L.length = 6 := by rw [← HLP.out, fgTo_len]
  have HF : Hid (gt L 0 = fgAt zs id 0) := by show gt L 0 = fgAt zs id 0; rw [← HLP.out, gt_fgTo (by omega)]
  have HFP : Hid (ptB (fgAt zs id 0) = true ∧ ptB id = true) := ⟨(ptB_iff _).2 (vld_pt HV.out (fg_mem HV.out _ _)), (ptB_iff _).2 ⟨hi0, hi1⟩⟩
  have hln := vld_len HV.out
  have cz := HC.out 0 (by omega)
  have hat : ∃ b off, a = some ⟨b, off, none⟩ ∧ ∀ i, i < zs.length → w4.cell? ⟨b, off + i, none⟩ = some (.int .i64 (gt zs i)) := by
    rcases HI4.out with h0 | ⟨b, off, ha, _, hc⟩
    · rw [h0] at hln; simp at hln
    · exact ⟨b, off, ha, hc⟩
  obtain ⟨b, off, ha, hcell⟩ := hat
  subst ha
  have HZC := Lib.hid hcell
  have hL0 : 0 < L.length := by omega
  have hL0' : (0 : Int) < (L.length : Int) := by omega
  clear hcell hL6 h0
  go_wp2
  go_loopw [7] (fun i wr => ∃ k : Nat, k ≤ zs.length ∧ i = .int .i64 k ∧ Same w4 wr) (fun i _ => zs.length - (intOf i).toNat)
  case atStart => exact ⟨0, by omega, rfl, Same.refl _⟩
  case round =>
    obtain ⟨k, hk, rfl, hsr⟩ := hrel
    have c0 := (hsr.cell ⟨g, 0, none⟩).trans cz
    by_cases hlt : k < zs.length
    · have hc := (hsr.cell ⟨b, off + k, none⟩).trans (HZC.out k hlt)
      have hlt' : (k : Int) < (zs.length : Int) := by omega
      have h0' : (0 : Int) ≤ (k : Int) := by omega
      by_cases he : gt zs k = id
      · have hne : (gt zs k != id) = false := by simp [he]
        clear he
        go_wp2
        go_quiet (fail)
        go_wp2
        go_roundw
        case rel => exact ⟨k + 1, by omega, by go_num, hsr.drewN _⟩
        case measure => simp [intOf]; omega
      · have hne : (gt zs k != id) = true := by simpa using he
        have hbt : btwB id (gt zs k) (gt L 0) = false := by
          rw [HF.out, btwB_pt HFP.out.2 ((ptB_iff _).2 (vld_pt HV.out (gt_mem hlt))) HFP.out.1]
          exact first_ok HV.out HID.out (gt_mem hlt) he
        clear he
        go_wp2
        go_quiet ((go_at_call 22; exact Calls.quiet_of_same (calls_flip (cbtw_any _ _ _ _))))
        rw [hbt]
        go_wp2
        go_roundw
        case rel => exact ⟨k + 1, by omega, by go_num, hsr.drewN _⟩
        case measure => simp [intOf]; omega
    · have hge : (zs.length : Int) ≤ (k : Int) := by omega
      by_cases he : gt L 0 = id
      · have hne : (gt L 0 != id) = false := by simp [he]
        have hone : (((zs.length : Nat) : Int) == 1) = true := by
          have := first_one HV.out HID.out (by rw [← HF.out]; exact he)
          simp [this]
        clear he
        go_wp2
        go_ret
        exact ⟨rfl, hB4.trans (hsr.below _)⟩
      · have hne : (gt L 0 != id) = true := by simpa using he
        clear he
        go_wp2
        go_ret
        exact ⟨rfl, hB4.trans (hsr.below _)⟩

end Go.Proofs.Ytjagcnfbkhchgaa
