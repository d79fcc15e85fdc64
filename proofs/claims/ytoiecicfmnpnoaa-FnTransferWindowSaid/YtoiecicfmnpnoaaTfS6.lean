/- Transfers: the model's chunks and received items. -/
import Derived.Test.YtoiecicfmnpnoaaTfS5
namespace Go.Proofs.Ytoiecicfmnpnoaa
open Go.RowKit
set_option linter.unusedVariables false

attribute [local go_sem ↓] Go.wp_at_zero Go.wp_at_succ

theorem ckB_no1 {c : Ck} (h : itemsB c.items = false) : ckB c = false := by unfold ckB; rw [h]; rfl
theorem ckB_no2 {c : Ck} (h : inB c.items.length 1 4 = false) : ckB c = false := by unfold ckB; rw [h, Bool.and_false]; rfl
theorem ckB_no3 {c : Ck} (h : inB c.pos 0 (20 - c.items.length) = false) : ckB c = false := by unfold ckB; rw [h, Bool.and_false]
theorem ckB_yes {c : Ck} (h : itemsB c.items = true) (h2 : inB c.items.length 1 4 = true) (h3 : inB c.pos 0 (20 - c.items.length) = true) : ckB c = true := by unfold ckB; rw [h, h2, h3]; rfl


theorem put_no1 {got : List Int} {c : Ck} (h : okPut got c = false) : putL got c = [] ∧ putB got c = false := by
  have hb : putB got c = false := by unfold putB; rw [h]; rfl
  exact ⟨by rw [putL, hb, h]; rfl, hb⟩
theorem put_no2 {got : List Int} {c : Ck} (h : okPut got c = true) (hb : putB got c = false) : putL got c = got := by rw [putL, hb, h]; rfl
theorem put_far {got : List Int} {c : Ck} (h : ¬ c.pos ≤ got.length) : putB got c = false := by unfold putB; rw [decide_eq_false h, Bool.and_false]; rfl
theorem put_bad {got : List Int} {c : Ck} (h : fitTo got c c.items.length = false) : putB got c = false := by unfold putB; rw [h, Bool.and_false]
theorem put_good {got : List Int} {c : Ck} (h : okPut got c = true) (h2 : c.pos ≤ got.length) (h3 : fitTo got c c.items.length = true) : putB got c = true := by unfold putB; rw [h, h3, decide_eq_true h2]; rfl
theorem fit_zero (got : List Int) (c : Ck) : fitTo got c 0 = true := rfl

end Go.Proofs.Ytoiecicfmnpnoaa
