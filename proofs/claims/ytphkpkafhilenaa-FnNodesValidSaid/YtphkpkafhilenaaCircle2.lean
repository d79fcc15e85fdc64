/- Contracts of the exported functions of chapter 1 on numbers, of the program and of its model. -/
import Derived.Test.YtphkpkafhilenaaCircle
namespace Go.Proofs.Ytphkpkafhilenaa
open Go.RowKit

set_option maxHeartbeats 400000 in
theorem cbtw_any (a x b : Int) (w : World) :
    Calls Try.prog 16 #[.int .i64 a, .int .i64 x, .int .i64 b] w fun e w' => e = .returned (.bool (btwB a x b)) ∧ w = w' := by
  go_enter Try.func16, Try.ntmps16
  go_wp2_with (first
    | (go_at_call 38; refine (valid_any _ _).mono ?_; rintro e w' ⟨rfl, rfl⟩)
    | (go_at_call 39; refine (between_any _ _ _ _ ((ptB_iff a).1 ‹_›).1 ((ptB_iff a).1 ‹_›).2 ((ptB_iff x).1 ‹_›).1 ((ptB_iff x).1 ‹_›).2 ((ptB_iff b).1 ‹_›).1 ((ptB_iff b).1 ‹_›).2).mono ?_; rintro e w' ⟨rfl, rfl⟩))
  all_goals
    go_ret
    exact ⟨ret_bool (by simp [btwB, *]), rfl⟩

set_option maxHeartbeats 400000 in
theorem chld_any (a b k : Int) (w : World) :
    Calls Try.prog 21 #[.int .i64 a, .int .i64 b, .int .i64 k] w fun e w' => e = .returned (.bool (hldB a b k)) ∧ w = w' := by
  go_enter Try.func21, Try.ntmps21
  go_wp2_with (first
    | (go_at_call 38; refine (valid_any _ _).mono ?_; rintro e w' ⟨rfl, rfl⟩)
    | (go_at_call 43; refine (heldBy_any _ _ _ _ ((ptB_iff a).1 ‹_›).1 ((ptB_iff a).1 ‹_›).2 ((ptB_iff b).1 ‹_›).1 ((ptB_iff b).1 ‹_›).2 ((ptB_iff k).1 ‹_›).1 ((ptB_iff k).1 ‹_›).2).mono ?_; rintro e w' ⟨rfl, rfl⟩))
  all_goals
    go_ret
    exact ⟨ret_bool (by simp [hldB, *]), rfl⟩

set_option maxHeartbeats 400000 in
theorem cdst_any (a b : Int) (w : World) :
    Calls Try.prog 19 #[.int .i64 a, .int .i64 b] w fun e w' => e = .returned (.int .i64 (dstI a b)) ∧ w = w' := by
  cases hA : ptB a <;> cases hB : ptB b
  all_goals
    go_enter Try.func19, Try.ntmps19
    go_wp2_with (first
      | (go_at_call 38; refine (valid_any _ _).mono ?_; rintro e w' ⟨rfl, rfl⟩)
      | (go_at_call 42; refine (distance_any _ _ _ ((ptB_iff a).1 hA).1 ((ptB_iff a).1 hA).2 ((ptB_iff b).1 hB).1 ((ptB_iff b).1 hB).2).mono ?_; rintro e w' ⟨rfl, rfl⟩))
    all_goals
      go_ret
      exact ⟨ret_int (by simp [dstI, *]), rfl⟩

set_option maxHeartbeats 400000 in
theorem in_any (n l h : Int) (w : World) :
    Calls Try.prog 49 #[.int .i64 n, .int .i64 l, .int .i64 h] w fun e w' => e = .returned (.bool (decide (l ≤ n ∧ n ≤ h))) ∧ w = w' := by
  go_enter Try.func49, Try.ntmps49
  go_wp2
  all_goals
    go_ret
    exact ⟨ret_bool (by simp; try omega), rfl⟩

set_option maxHeartbeats 400000 in
theorem point_any (n : Int) (w : World) :
    Calls Try.prog 40 #[.int .i64 n] w fun e w' => e = .returned (.bool (ptB n)) ∧ w = w' := by
  go_enter Try.func40, Try.ntmps40
  go_wp2_with (first
    | (go_at_call 49; refine (in_any _ _ _ _).mono ?_; rintro e w' ⟨rfl, rfl⟩))
  all_goals
    go_ret
    exact ⟨ret_bool (by rw [Bool.eq_iff_iff]; simp [ptB]; try omega), rfl⟩

set_option maxHeartbeats 400000 in
theorem sbetw_any (a x b : Int) (w : World) :
    Calls Try.prog 41 #[.int .i64 a, .int .i64 x, .int .i64 b] w fun e w' => e = .returned (.bool (btwI a x b)) ∧ w = w' := by
  go_enter Try.func41, Try.ntmps41
  go_wp2
  all_goals
    go_ret
    exact ⟨ret_bool (by rw [Bool.eq_iff_iff]; simp [btwI]; try omega), rfl⟩

set_option maxHeartbeats 400000 in
theorem sbtw_any (a x b : Int) (w : World) :
    Calls Try.prog 17 #[.int .i64 a, .int .i64 x, .int .i64 b] w fun e w' => e = .returned (.bool (btwB a x b)) ∧ w = w' := by
  go_enter Try.func17, Try.ntmps17
  go_wp2_with (first
    | (go_at_call 40; refine (point_any _ _).mono ?_; rintro e w' ⟨rfl, rfl⟩)
    | (go_at_call 41; refine (sbetw_any _ _ _ _).mono ?_; rintro e w' ⟨rfl, rfl⟩))
  all_goals
    go_ret
    exact ⟨ret_bool (by simp [btwB, *]), rfl⟩

set_option maxHeartbeats 400000 in
theorem sholds_any (a b k : Int) (w : World) :
    Calls Try.prog 44 #[.int .i64 a, .int .i64 b, .int .i64 k] w fun e w' => e = .returned (.bool (hldI a b k)) ∧ w = w' := by
  go_enter Try.func44, Try.ntmps44
  go_wp2_with (first
    | (go_at_call 41; refine (sbetw_any _ _ _ _).mono ?_; rintro e w' ⟨rfl, rfl⟩))
  all_goals
    go_ret
    trace_state; exact ⟨ret_bool (by rw [Bool.eq_iff_iff]; simp_all [hldI, btwI] <;> omega), rfl⟩

set_option maxHeartbeats 400000 in
theorem shld_any (a b k : Int) (w : World) :
    Calls Try.prog 22 #[.int .i64 a, .int .i64 b, .int .i64 k] w fun e w' => e = .returned (.bool (hldB a b k)) ∧ w = w' := by
  go_enter Try.func22, Try.ntmps22
  go_wp2_with (first
    | (go_at_call 40; refine (point_any _ _).mono ?_; rintro e w' ⟨rfl, rfl⟩)
    | (go_at_call 44; refine (sholds_any _ _ _ _).mono ?_; rintro e w' ⟨rfl, rfl⟩))
  all_goals
    go_ret
    exact ⟨ret_bool (by simp [hldB, *]), rfl⟩

set_option maxHeartbeats 400000 in
theorem sdist_any (a b : Int) (w : World) (ha : 0 ≤ a) (ha' : a < 64) (hb : 0 ≤ b) (hb' : b < 64) :
    Calls Try.prog 45 #[.int .i64 a, .int .i64 b] w fun e w' => e = .returned (.int .i64 (dist a b)) ∧ w = w' := by
  go_enter Try.func45, Try.ntmps45
  go_wp2
  all_goals
    go_ret
    exact ⟨ret_int (by simp [dist]), rfl⟩

set_option maxHeartbeats 400000 in
theorem sdst_any (a b : Int) (w : World) :
    Calls Try.prog 24 #[.int .i64 a, .int .i64 b] w fun e w' => e = .returned (.int .i64 (dstI a b)) ∧ w = w' := by
  cases hA : ptB a <;> cases hB : ptB b
  all_goals
    go_enter Try.func24, Try.ntmps24
    go_wp2_with (first
      | (go_at_call 40; refine (point_any _ _).mono ?_; rintro e w' ⟨rfl, rfl⟩)
      | (go_at_call 45; refine (sdist_any _ _ _ ((ptB_iff a).1 hA).1 ((ptB_iff a).1 hA).2 ((ptB_iff b).1 hB).1 ((ptB_iff b).1 hB).2).mono ?_; rintro e w' ⟨rfl, rfl⟩))
    all_goals
      go_ret
      exact ⟨ret_int (by simp [dstI, *]), rfl⟩

end Go.Proofs.Ytphkpkafhilenaa
