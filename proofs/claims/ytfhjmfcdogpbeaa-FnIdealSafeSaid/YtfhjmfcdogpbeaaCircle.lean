/- Contracts of the functions of chapter 1 on numbers, of the program and of its model. -/
import Derived.Test.YtfhjmfcdogpbeaaChecked
import Derived.Test.YtfhjmfcdogpbeaaCircleMath
import Derived.WalkKit
import Derived.Lib.Hide
namespace Go.Proofs.Ytfhjmfcdogpbeaa
open Go.RowKit

set_option maxHeartbeats 400000 in
theorem valid_any (n : Int) (w : World) :
    Calls Try.prog 50 #[.int .i64 n] w fun e w' => e = .returned (.bool (ptB n)) ∧ w = w' := by
  go_enter Try.func50, Try.ntmps50
  go_wp2
  all_goals
    go_ret
    exact ⟨ret_bool (by rw [Bool.eq_iff_iff]; simp [ptB]; omega), rfl⟩

set_option maxHeartbeats 400000 in
theorem between_any (a x b : Int) (w : World) (ha : 0 ≤ a) (ha' : a < 64) (hx : 0 ≤ x) (hx' : x < 64) (hb : 0 ≤ b) (hb' : b < 64) :
    Calls Try.prog 51 #[.int .i64 x, .int .i64 a, .int .i64 b] w fun e w' => e = .returned (.bool (btwI a x b)) ∧ w = w' := by
  go_enter Try.func51, Try.ntmps51
  go_wp2
  all_goals
    go_ret
    first | exact ⟨ret_bool (btw1 ha ha' hx hx' hb hb' (by assumption)), rfl⟩ | exact ⟨ret_bool (btw2 ha ha' hx hx' hb hb' (by assumption)), rfl⟩ | (subst x; exact ⟨ret_bool (btw0 _ _), rfl⟩)


set_option maxHeartbeats 400000 in
theorem distance_any (a b : Int) (w : World) (ha : 0 ≤ a) (ha' : a < 64) (hb : 0 ≤ b) (hb' : b < 64) :
    Calls Try.prog 75 #[.int .i64 a, .int .i64 b] w fun e w' => e = .returned (.int .i64 (dist a b)) ∧ w = w' := by
  go_enter Try.func75, Try.ntmps75
  go_wp2
  all_goals
    go_ret
    exact ⟨ret_int (by simp [dist]), rfl⟩

end Go.Proofs.Ytfhjmfcdogpbeaa
