/- Contracts of the functions of chapter 1 on sets of nodes, of the program and of its model. -/
import Derived.Test.YtfhjmfcdogpbeaaCircle2
import Derived.Test.YtfhjmfcdogpbeaaNodesMath
import Derived.BigQuiet
import Derived.Deep.QuietTactic
namespace Go.Proofs.Ytfhjmfcdogpbeaa
open Go.RowKit
set_option linter.unusedVariables false

/-- A slice at address a reads as the numbers zs. -/
def IntsAt (w : World) (a : Option Addr) (zs : List Int) : Prop :=
  zs = [] ∨ ∃ b off, a = some ⟨b, off, none⟩ ∧ b < w.heap.size ∧ ∀ i, i < zs.length → w.cell? ⟨b, off + i, none⟩ = some (.int .i64 (gt zs i))

theorem ok_zero {zs : List Int} (h : ptB (gt zs 0) = true) : ascTo zs 1 = true := by simp [ascTo, okAt, h]
theorem ok_succ {zs : List Int} {j : Nat} (h : ascTo zs (j + 1) = true) (hp : ptB (gt zs (j + 1)) = true) (hl : gt zs j < gt zs (j + 1)) : ascTo zs (j + 1 + 1) = true := by
  rw [ascTo, h]; simp only [Bool.true_and, okAt, hp, Nat.add_sub_cancel, Bool.or_eq_true, decide_eq_true_eq]; exact .inr hl
theorem vld_no_pt {zs : List Int} {k : Nat} (hk : k < zs.length) (h : ptB (gt zs k) = false) : vldB zs = false := by
  have : okAt zs k = false := by simp only [okAt, h, Bool.false_and]
  simp only [vldB, asc_no hk this, Bool.and_false]
theorem vld_no_lt {zs : List Int} {j : Nat} (hk : j + 1 < zs.length) (h : gt zs (j + 1) ≤ gt zs j) : vldB zs = false := by
  have : okAt zs (j + 1) = false := by
    simp only [okAt, Nat.add_sub_cancel, Bool.and_eq_false_iff, Bool.or_eq_false_iff, decide_eq_false_iff_not]
    exact .inr ⟨by omega, by omega⟩
  simp only [vldB, asc_no hk this, Bool.and_false]
theorem vld_yes {zs : List Int} (h1 : 1 ≤ zs.length) (h2 : zs.length ≤ 10) (h : ascTo zs zs.length = true) : vldB zs = true := by
  simp only [vldB, h, Bool.and_true, decide_eq_true_eq]; exact ⟨h1, h2⟩
theorem vld_no_len {zs : List Int} (h : ¬ (1 ≤ zs.length ∧ zs.length ≤ 10)) : vldB zs = false := by
  simp only [vldB, Bool.and_eq_false_iff, decide_eq_false_iff_not]; exact .inl h

set_option maxHeartbeats 1000000 in
theorem nvalid_any (a : Option Addr) (len cap : Nat) (zs : List Int) (w : World) (h : IntsAt w a zs) (hz : zs.length = len) (hm : len ≤ maxLen) :
    Calls Try.prog 66 #[.slice a len cap] w fun e w' => e = .returned (.bool (vldB zs)) ∧ w = w' := by
  unfold maxLen at hm
  by_cases hr : 1 ≤ len ∧ len ≤ 10
  · obtain ⟨hr1, hr2⟩ := hr
    have HZ := Lib.hid hz
    have h' : ∃ b off, a = some ⟨b, off, none⟩ ∧ ∀ i, i < len → w.cell? ⟨b, off + i, none⟩ = some (.int .i64 (gt zs i)) := by
      rcases h with h0 | ⟨b, off, ha, hb, hc⟩
      · rw [h0] at hz; simp at hz; omega
      · exact ⟨b, off, ha, fun i hi => hc i (by omega)⟩
    clear h hz
    obtain ⟨b, off, rfl, hcell⟩ := h'
    have HC := Lib.hid hcell
    clear hcell
    go_enter Try.func66, Try.ntmps66
    go_wp2
    go_loop [15] (fun i => ∃ k : Nat, k ≤ len ∧ i = .int .i64 k ∧ ascTo zs k = true) (fun i => len - (intOf i).toNat)
    case atStart => exact ⟨0, by omega, rfl, rfl⟩
    case round =>
      obtain ⟨k, hk, rfl, hasc⟩ := hrel
      have HA := Lib.hid hasc
      clear hasc
      by_cases hlt : k < len
      · have hc := HC.out k hlt
        rcases k with _ | j
        · rw [Nat.add_zero] at hc
          cases hp : ptB (gt zs 0)
          · go_wp2_with (go_at_call 50; refine (valid_any _ _).mono ?_; rintro e w' ⟨rfl, rfl⟩)
            go_ret
            exact ⟨ret_bool (vld_no_pt (by rw [HZ.out]; exact hlt) hp).symm, rfl⟩
          · go_wp2_with (go_at_call 50; refine (valid_any _ _).mono ?_; rintro e w' ⟨rfl, rfl⟩)
            go_round
            case rel => exact ⟨1, by omega, by go_num, ok_zero hp⟩
            case measure => simp [intOf]; omega
        · have hc' := HC.out j (by omega)
          cases hp : ptB (gt zs (j + 1))
          · go_wp2_with (go_at_call 50; refine (valid_any _ _).mono ?_; rintro e w' ⟨rfl, rfl⟩)
            go_ret
            exact ⟨ret_bool (vld_no_pt (by rw [HZ.out]; exact hlt) hp).symm, rfl⟩
          · by_cases hgt : gt zs (j + 1) ≤ gt zs j
            · go_wp2_with (go_at_call 50; refine (valid_any _ _).mono ?_; rintro e w' ⟨rfl, rfl⟩)
              go_ret
              exact ⟨ret_bool (vld_no_lt (by rw [HZ.out]; exact hlt) hgt).symm, rfl⟩
            · go_wp2_with (go_at_call 50; refine (valid_any _ _).mono ?_; rintro e w' ⟨rfl, rfl⟩)
              go_round
              case rel => exact ⟨j + 1 + 1, by omega, by go_num, ok_succ HA.out hp (by omega)⟩
              case measure => simp [intOf]; omega
      · go_wp2
        go_ret
        exact ⟨ret_bool (vld_yes (by rw [HZ.out]; exact hr1) (by rw [HZ.out]; exact hr2) (by rw [HZ.out]; rw [show len = k by omega]; exact HA.out)).symm, rfl⟩
  · have e : vldB zs = false := vld_no_len (by rw [hz]; exact hr)
    have He := Lib.hid e
    clear hz h e
    go_enter Try.func66, Try.ntmps66
    by_cases h1 : len < 1
    · go_wp2
      go_ret
      exact ⟨ret_bool He.out.symm, rfl⟩
    · have h2 : 10 < len := by omega
      go_wp2
      go_ret
      exact ⟨ret_bool He.out.symm, rfl⟩


end Go.Proofs.Ytfhjmfcdogpbeaa
