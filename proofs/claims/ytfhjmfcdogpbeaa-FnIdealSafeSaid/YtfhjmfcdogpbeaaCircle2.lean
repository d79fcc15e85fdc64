/- Contracts of the exported functions of chapter 1 on numbers, of the program and of its model. -/
import Derived.Test.YtfhjmfcdogpbeaaCircle
namespace Go.Proofs.Ytfhjmfcdogpbeaa
open Go.RowKit

set_option maxHeartbeats 400000 in
theorem cbtw_any (a x b : Int) (w : World) :
    Calls Try.prog 21 #[.int .i64 a, .int .i64 x, .int .i64 b] w fun e w' => e = .returned (.bool (btwB a x b)) ∧ w = w' := by
  go_enter Try.func21, Try.ntmps21
  go_wp2_with (first
    | (go_at_call 50; refine (valid_any _ _).mono ?_; rintro e w' ⟨rfl, rfl⟩)
    | (go_at_call 51; refine (between_any _ _ _ _ ((ptB_iff a).1 ‹_›).1 ((ptB_iff a).1 ‹_›).2 ((ptB_iff x).1 ‹_›).1 ((ptB_iff x).1 ‹_›).2 ((ptB_iff b).1 ‹_›).1 ((ptB_iff b).1 ‹_›).2).mono ?_; rintro e w' ⟨rfl, rfl⟩))
  all_goals
    go_ret
    exact ⟨ret_bool (by simp [btwB, *]), rfl⟩



set_option maxHeartbeats 400000 in
theorem in_any (n l h : Int) (w : World) :
    Calls Try.prog 74 #[.int .i64 n, .int .i64 l, .int .i64 h] w fun e w' => e = .returned (.bool (decide (l ≤ n ∧ n ≤ h))) ∧ w = w' := by
  go_enter Try.func74, Try.ntmps74
  go_wp2
  all_goals
    go_ret
    exact ⟨ret_bool (by simp; try omega), rfl⟩

set_option maxHeartbeats 400000 in
theorem point_any (n : Int) (w : World) :
    Calls Try.prog 49 #[.int .i64 n] w fun e w' => e = .returned (.bool (ptB n)) ∧ w = w' := by
  go_enter Try.func49, Try.ntmps49
  go_wp2_with (first
    | (go_at_call 74; refine (in_any _ _ _ _).mono ?_; rintro e w' ⟨rfl, rfl⟩))
  all_goals
    go_ret
    exact ⟨ret_bool (by rw [Bool.eq_iff_iff]; simp [ptB]; try omega), rfl⟩

set_option maxHeartbeats 400000 in
theorem sbetw_any (a x b : Int) (w : World) :
    Calls Try.prog 86 #[.int .i64 a, .int .i64 x, .int .i64 b] w fun e w' => e = .returned (.bool (btwI a x b)) ∧ w = w' := by
  go_enter Try.func86, Try.ntmps86
  go_wp2
  all_goals
    go_ret
    exact ⟨ret_bool (by rw [Bool.eq_iff_iff]; simp [btwI]; try omega), rfl⟩






end Go.Proofs.Ytfhjmfcdogpbeaa
