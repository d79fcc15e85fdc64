/- The arithmetic behind the laws of the circle. -/
import Derived.Test.YtlkpgkhggknphaaMA
import Derived.IntWalk
namespace Go.Proofs.Ytlkpgkhggknphaa
open Go.RowKit
set_option linter.unusedVariables false

theorem pt_of_not {b : Int} (h : (!ptB b) = false) : ptB b = true := by simpa using h
theorem btwB_pt {a x b : Int} (ha : ptB a = true) (hx : ptB x = true) (hb : ptB b = true) : btwB a x b = btwI a x b := by simp [btwB, ha, hx, hb]
theorem hldB_pt {a b k : Int} (ha : ptB a = true) (hb : ptB b = true) (hk : ptB k = true) : hldB a b k = hldI a b k := by simp [hldB, ha, hb, hk]
theorem pt_mod (n : Int) : ptB (n % 64) = true := by rw [ptB_iff]; omega

theorem turn_ok {a x b d : Int} (ha : ptB a = true) (hx : ptB x = true) (hb : (!ptB b) = false) (hd : 0 ≤ d) :
    (btwB ((a + d).tmod 64) ((x + d).tmod 64) ((b + d).tmod 64) == btwB a x b) = true := by
  have hb' := pt_of_not hb
  have a1 := (ptB_iff a).1 ha
  have x1 := (ptB_iff x).1 hx
  have b1 := (ptB_iff b).1 hb'
  rw [beq_iff_eq, Int.tmod_eq_emod_of_nonneg (by omega), Int.tmod_eq_emod_of_nonneg (by omega), Int.tmod_eq_emod_of_nonneg (by omega), btwB_pt ha hx hb', btwB_pt (pt_mod _) (pt_mod _) (pt_mod _)]
  rw [Bool.eq_iff_iff]; unfold btwI; simp only [decide_eq_true_eq]; omega

theorem one_no {a x b : Int} (ha : ptB a = true) (hx : ptB x = true) (hb : ptB b = true) (h1 : ¬a = x) (h2 : ¬x = b) (h3 : ((a == x) = false ∧ (x == b) = false) ∧ (a == b) = false)
    (h : btwB b x a = btwB a x b) : false = true := by
  have h4 : ¬ a = b := by simpa using h3.2
  rw [btwB_pt hb hx ha, btwB_pt ha hx hb] at h
  unfold btwI at h
  rw [decide_eq_decide] at h
  omega
theorem one_yes {a x b : Int} (ha : ptB a = true) (hx : ptB x = true) (hb : ptB b = true) (h1 : ¬a = x) (h2 : ¬x = b) (h3 : ((a == x) = false ∧ (x == b) = false) ∧ (a == b) = false)
    (h : ¬ btwB b x a = btwB a x b) : (!btwB b x a == btwB a x b && btwB x b a == btwB a x b) = true := by
  have h4 : ¬ a = b := by simpa using h3.2
  have e : btwB x b a = btwB a x b := by
    rw [btwB_pt hx hb ha, btwB_pt ha hx hb]
    unfold btwI
    rw [decide_eq_decide]
    omega
  rw [e]
  simpa using h

theorem dst_pt {a b : Int} (ha : ptB a = true) (hb : ptB b = true) : dstI a b = (b - a) % 64 := by simp [dstI, ha, hb, dist]
theorem dst_pts {a b : Int} (h : 0 ≤ dstI a b) : ptB a = true ∧ ptB b = true := by
  unfold dstI at h
  cases ha : ptB a <;> cases hb : ptB b <;> simp [ha, hb] at h ⊢
theorem dist_yes {a x b : Int} (ha : ptB a = true) (hx : ptB x = true) (hb : ptB b = true) (h1 : (a == b) = false) (h : 0 < dstI a x) :
    (btwB a x b == decide (dstI a x < dstI a b)) = true := by
  have h4 : ¬ a = b := by simpa using h1
  have a1 := (ptB_iff a).1 ha
  have x1 := (ptB_iff x).1 hx
  have b1 := (ptB_iff b).1 hb
  rw [dst_pt ha hx] at h ⊢
  rw [dst_pt ha hb, btwB_pt ha hx hb, beq_iff_eq]
  unfold btwI
  rw [decide_eq_decide]
  omega
theorem dist_no {a x b : Int} (ha : ptB a = true) (hx : ptB x = true) (hb : ptB b = true) (h1 : (a == b) = false) (h : dstI a x ≤ 0) :
    (!btwB a x b) = true := by
  have h4 : ¬ a = b := by simpa using h1
  have a1 := (ptB_iff a).1 ha
  have x1 := (ptB_iff x).1 hx
  have b1 := (ptB_iff b).1 hb
  rw [dst_pt ha hx] at h
  rw [btwB_pt ha hx hb, Bool.not_eq_true']
  unfold btwI
  rw [decide_eq_false_iff_not]
  omega

theorem btw_self (a b : Int) : btwB a a b = false := by
  have h : btwI a a b = false := (btw0 a b).symm
  simp [btwB, h]
theorem btw_end {a b : Int} (h : ¬ a = b) : btwB a b b = false := by
  have h' : btwI a b b = false := by unfold btwI; rw [decide_eq_false_iff_not]; omega
  simp [btwB, h']
theorem ends_no1 {a b : Int} (h : btwB a a b = true) : false = true := by rw [btw_self] at h; exact h
theorem ends_no2 {a b : Int} (h1 : ¬ a = b) (h : btwB a b b = true) : false = true := by rw [btw_end h1] at h; exact h
theorem ends_yes {a x : Int} (ha : ptB a = true) (hx : ptB x = true) : (btwB a x a == (x != a)) = true := by
  rw [btwB_pt ha hx ha, beq_iff_eq, Bool.eq_iff_iff, bne_iff_ne]
  unfold btwI
  rw [decide_eq_true_eq]
  omega
theorem ends_yes' {a b x : Int} (ha : ptB a = true) (hx : ptB x = true) (h : a = b) : (btwB b x b == (x != b)) = true := by
  subst h; exact ends_yes ha hx

theorem hold_yes {a x b m : Int} (ha : ptB a = true) (hx : ptB x = true) (hb : (!ptB b) = false) (hm : btwB a (m % 64) x = true) (h : (a == x) = false) :
    (hldB a x b == !hldB a (m % 64) b == hldB (m % 64) x b) = true := by
  have hb' := pt_of_not hb
  have h4 : ¬ a = x := by simpa using h
  have hc := pt_mod m
  have a1 := (ptB_iff a).1 ha
  have x1 := (ptB_iff x).1 hx
  have b1 := (ptB_iff b).1 hb'
  have c1 := (ptB_iff _).1 hc
  generalize m % 64 = c at *
  rw [btwB_pt ha hc hx] at hm
  rw [hldB_pt ha hx hb', hldB_pt ha hc hb', hldB_pt hc hx hb', beq_iff_eq, Bool.eq_iff_iff, Bool.not_eq_true', beq_eq_false_iff_ne]
  unfold btwI at hm
  unfold hldI
  rw [decide_eq_true_eq] at hm ⊢
  rw [ne_eq, decide_eq_decide]
  omega

theorem back_zero {a b : Int} (h : 0 ≤ dstI a b) (h1 : (a == b) = true) : (dstI a b == 0) = true := by
  have h4 : a = b := by simpa using h1
  obtain ⟨ha, hb⟩ := dst_pts h
  subst h4
  rw [dst_pt ha ha, beq_iff_eq]; omega
theorem back_sum {a b : Int} (h : 0 ≤ dstI a b) (h1 : (a == b) = false) : wrap64 (dstI a b + dstI b a) = 64 := by
  have h4 : ¬ a = b := by simpa using h1
  obtain ⟨ha, hb⟩ := dst_pts h
  have a1 := (ptB_iff a).1 ha
  have b1 := (ptB_iff b).1 hb
  rw [dst_pt ha hb, dst_pt hb ha, IntWalk.wrap64_in _ (by omega)]
  omega
theorem back_yes {a b : Int} (h : 0 ≤ dstI a b) (h1 : (a == b) = false) : decide (0 < dstI a b) = true := by
  have h4 : ¬ a = b := by simpa using h1
  obtain ⟨ha, hb⟩ := dst_pts h
  have a1 := (ptB_iff a).1 ha
  have b1 := (ptB_iff b).1 hb
  rw [dst_pt ha hb, decide_eq_true_eq]
  omega
theorem back_no {a b : Int} (h : 0 ≤ dstI a b) (h1 : (a == b) = false) (h2 : ¬ wrap64 (dstI a b + dstI b a) = 64) : false = true := absurd (back_sum h h1) h2
theorem add_yes {a b m : Int} (h : 0 ≤ dstI a b) : (wrap64 (wrap64 (dstI a b + dstI b (m % 64)) - dstI a (m % 64)) == 0 || wrap64 (wrap64 (dstI a b + dstI b (m % 64)) - dstI a (m % 64)) == 64) = true := by
  obtain ⟨ha, hb⟩ := dst_pts h
  have hc := pt_mod m
  have a1 := (ptB_iff a).1 ha
  have b1 := (ptB_iff b).1 hb
  have c1 := (ptB_iff _).1 hc
  generalize m % 64 = c at *
  rw [dst_pt ha hb, dst_pt hb hc, dst_pt ha hc, IntWalk.wrap64_in ((b - a) % 64 + (c - b) % 64) (by omega), IntWalk.wrap64_in ((b - a) % 64 + (c - b) % 64 - (c - a) % 64) (by omega)]
  rw [Bool.or_eq_true, beq_iff_eq, beq_iff_eq]
  omega
end Go.Proofs.Ytlkpgkhggknphaa
