/- The law of ascending positions. -/
import Derived.Test.YtoggmekkkonkgaaLawsH
import Derived.Test.YtoggmekkkonkgaaNwCalm
import Derived.Test.YtoggmekkkonkgaaLawsSafe
import Derived.Test.YtoggmekkkonkgaaIdealMath
import Derived.Test.YtoggmekkkonkgaaSameS
import Derived.Test.YtoggmekkkonkgaaNwRing
import Derived.Deep.DrawnRows
namespace Go.Proofs.Ytoggmekkkonkgaa
open Go.RowKit
set_option linter.unusedVariables false
attribute [local go_sem ↓] Go.wp_at_zero Go.wp_at_succ

theorem drawIds (s : Option Addr) (len cap : Nat) (w : World) (h : BytesAt w s len cap) :
    Calls Try.prog 7 #[.slice s len cap] w (DrewR w) := by
  go_enter Try.func7, Try.ntmps7
  go_wp2_with fail
  refine (open_any s len cap w h).mono ?_
  rintro e w0 ⟨rfl, hr0, hb0, hz0⟩
  have HZ := Lib.hid hz0
  clear hz0
  go_wp2_with fail
  refine (spoilt_any w.heap.size 5 w0 (hr0.less (by omega))).mono ?_
  rintro e w1 ⟨N, cap1, F, r, rfl, ho, h1, h2, h10, hr1, hg1⟩
  go_wp2
  go_ret
  have hz := HZ.out
  exact ⟨N, cap1, r, rfl, ho.ring, h10, h1, below_of_grown hb0 (Nat.le_refl _) (by omega) hg1⟩

set_option maxHeartbeats 4000000 in
theorem ringIds (s : Option Addr) (len cap : Nat) (z : List Int) (w : World) (h : RowIn .u8 w s len cap z) :
    Calls Try.prog 3 #[.slice s len cap] w fun e w' => e = .returned (.bool true) ∧ Below w.heap.size w w' := by
  have hb := bytes_of_row h
  have hm : len ≤ maxLen := Nat.le_trans hb.1 hb.2.1
  unfold maxLen at hm
  clear h
  by_cases hl : 1048576 < len
  · go_enter Try.func3, Try.ntmps3
    go_wp2
    go_ret
    exact ⟨rfl, Below.refl _ _⟩
  have hlB : decide ((1048576 : Int) < (len : Int)) = false := by simp; omega
  go_enter Try.func3, Try.ntmps3
  go_wp2_with fail
  refine (drawIds s len cap w hb).mono ?_
  rintro e w1 ⟨N, cap1, r, rfl, hr1, h10, hcap, hB1⟩
  have HI := Lib.hid hr1
  have HM : Hid (r.length ≤ maxLen) := by show _ ≤ maxLen; unfold maxLen; omega
  clear hr1 hlB
  obtain ⟨Z, hZ⟩ : ∃ Z, Z = idsV r := ⟨_, rfl⟩
  have HZL : Hid (Z.length ≤ 1048576) := by show _ ≤ _; rw [hZ]; unfold idsV; split <;> simp [ids_len]; omega
  have HZC : Hid (Z = [] ∨ (Z.length = r.length ∧ ∀ k, k < r.length → gt Z k = (gn r k).pos ∧ (0 < k → gt Z (k - 1) < gt Z k))) := by
    show _ ∨ _
    rw [hZ]
    cases hv : rvB r
    · left; unfold idsV; rw [hv]; rfl
    · right
      have e : idsV r = idsOf r := by unfold idsV; rw [hv]; rfl
      rw [e]
      refine ⟨ids_len r, fun k hk => ⟨ids_gt hk, fun h0 => ?_⟩⟩
      rw [ids_gt hk, ids_gt (show k - 1 < r.length by omega)]
      exact rv_lt hv (by omega) hk
  have HZE := Lib.hid hZ
  clear hZ
  go_wp2_with fail
  refine (rids_any _ _ cap1 r w1 HI.out rfl HM.out).mono ?_
  rw [← HZE.out]
  rintro e w2 ⟨g2, c2, rfl, ho2, hb2⟩
  have I2 := Lib.hid ho2.ints
  have HI2 := Lib.hid (HI.out.keepB hb2 (Nat.le_refl _))
  clear ho2
  go_wp2_with fail
  refine (srids_any _ _ cap1 r w2 HI2.out rfl HM.out).mono ?_
  rw [← HZE.out]
  rintro e w3 ⟨g3, c3, rfl, ho3, hb3⟩
  have J3 := Lib.hid ho3.ints
  have I3 := Lib.hid (I2.out.keepB hb3 (Nat.le_refl _))
  have HI3 := Lib.hid (HI2.out.keepB hb3 (Nat.le_refl _))
  have hB3 : Below w.heap.size w w3 := hB1.trans ((hb2.trans (hb3.mono hb2.size)).mono hB1.size)
  clear ho3 hb2 hb3
  go_wp2_with fail
  refine (sameI_same _ _ _ _ _ Z w3 I3.out J3.out rfl HZL.out).mono ?_
  rintro e w4 ⟨rfl, hs4⟩
  have I4 := Lib.hid (I3.out.same hs4)
  have HI4 := Lib.hid (HI3.out.keepB (hs4.below _) (Nat.le_refl _))
  have hB4 : Below w.heap.size w w4 := hB3.trans (hs4.below _)
  clear hs4
  have hzl := HZL.out
  rcases HZC.out with hz0 | ⟨hzl2, hzv⟩
  · have hz0l : Z.length = 0 := by rw [hz0]; rfl
    have hz0B : ((Z.length : Int) == 0) = true := by simp [hz0l]
    clear hz0
    go_wp2
    go_loopw [6] (fun i wr => ∃ k : Nat, k ≤ Z.length ∧ i = .int .i64 k ∧ Same w4 wr) (fun i _ => Z.length - (intOf i).toNat)
    case atStart => exact ⟨0, by omega, rfl, Same.refl _⟩
    case round =>
      obtain ⟨k, hk, rfl, hs⟩ := hrel
      have hk0 : ¬ ((k : Int) < (Z.length : Int)) := by omega
      go_wp2
      go_ret
      exact ⟨rfl, hB4.trans (hs.below _)⟩
  have HZV := Lib.hid hzv
  have HZ2 := Lib.hid hzl2
  clear hzv hzl2
  go_wp2
  go_loopw [6] (fun i wr => ∃ k : Nat, k ≤ Z.length ∧ i = .int .i64 k ∧ Same w4 wr) (fun i _ => Z.length - (intOf i).toNat)
  case atStart => exact ⟨0, by omega, rfl, Same.refl _⟩
  case round =>
    obtain ⟨k, hk, rfl, hs⟩ := hrel
    by_cases hlt : k < Z.length
    · have hkr : Hid (k < r.length) := by show k < r.length; rw [← HZ2.out]; exact hlt
      obtain ⟨b, off, hbo, hb0, hcells⟩ := (HI4.out.keepB (hs.below _) (Nat.le_refl _)).at_ hkr.out
      injection hbo with hbo; injection hbo with hbo hbo2; subst hbo hbo2
      have c0 := (hcells k hkr.out).1
      rw [Nat.zero_add] at c0
      clear hcells
      obtain ⟨bi, oi, hbi, hbi0, hic⟩ : ∃ b off, (some (⟨g2, 0, none⟩ : Addr)) = some ⟨b, off, none⟩ ∧ b < wr.heap.size ∧ ∀ j, j < Z.length → wr.cell? ⟨b, off + j, none⟩ = some (.int .i64 (gt Z j)) := by
        rcases I4.out.same hs with h0 | h0
        · rw [h0] at hlt; simp at hlt
        · exact h0
      injection hbi with hbi; injection hbi with hbi hbi2; subst hbi hbi2
      have d0 := hic k hlt
      rw [Nat.zero_add] at d0
      obtain ⟨e1, e2⟩ := HZV.out k hkr.out
      rw [← e1] at c0
      have i0 : (0 : Int) ≤ (k : Int) := by omega
      have i1 : (k : Int) < (Z.length : Int) := by omega
      have i2 : (k : Int) < (r.length : Int) := by rw [← HZ2.out]; exact i1
      have i3 : k < r.length := hkr.out
      have q0 : (gt Z k != gt Z k) = false := by simp
      by_cases hk0 : k = 0
      · have hk00 : decide (0 < (k : Int)) = false := by simp; omega
        have hk01 : decide (0 < k) = false := by simp; omega
        clear hk0 e1 e2 hic
        go_wp2
        go_quiet (fail)
        go_wp2
        go_roundw
        case rel => exact ⟨k + 1, by omega, by go_num, hs.drewN _⟩
        case measure => simp [intOf]; omega
      · have hk1 : ((k : Int) - 1).toNat = k - 1 := by omega
        have hkp : (0 : Int) < (k : Int) := by omega
        have hkp2 : 0 < k := by omega
        have hki : (1 : Int) ≤ (k : Int) := by omega
        have hki2 : (k : Int) - 1 < (Z.length : Int) := by omega
        have d1 := hic (k - 1) (by omega)
        rw [Nat.zero_add] at d1
        have hlt2 : gt Z (k - 1) < gt Z k := e2 hkp2
        clear hk0 e1 e2 hic
        go_wp2
        go_quiet (fail)
        go_wp2
        go_roundw
        case rel => exact ⟨k + 1, by omega, by go_num, hs.drewN _⟩
        case measure => simp [intOf]; omega
    · have hzz : ((Z.length : Int) == (r.length : Int)) = true := by rw [HZ2.out]; simp
      have hk0 : ¬ ((k : Int) < (Z.length : Int)) := by omega
      rcases bool_cases ((Z.length : Int) == 0) with hz0 | hz0
      · go_wp2
        go_ret
        exact ⟨rfl, hB4.trans (hs.below _)⟩
      · go_wp2
        go_ret
        exact ⟨rfl, hB4.trans (hs.below _)⟩
end Go.Proofs.Ytoggmekkkonkgaa
