/- Contracts of the functions of chapter 1 on numbers, of the program and of its model. -/
import Derived.Test.YtphkpkafhilenaaChecked
import Derived.Test.YtphkpkafhilenaaCircleMath
import Derived.WalkKit
import Derived.Lib.Hide
namespace Go.Proofs.Ytphkpkafhilenaa
open Go.RowKit

set_option maxHeartbeats 400000 in
theorem valid_any (n : Int) (w : World) :
    Calls Try.prog 38 #[.int .i64 n] w fun e w' => e = .returned (.bool (ptB n)) ∧ w = w' := by
  go_enter Try.func38, Try.ntmps38
  go_wp2
  all_goals
    go_ret
    exact ⟨ret_bool (by rw [Bool.eq_iff_iff]; simp [ptB]; omega), rfl⟩

set_option maxHeartbeats 400000 in
theorem between_any (a x b : Int) (w : World) (ha : 0 ≤ a) (ha' : a < 64) (hx : 0 ≤ x) (hx' : x < 64) (hb : 0 ≤ b) (hb' : b < 64) :
    Calls Try.prog 39 #[.int .i64 x, .int .i64 a, .int .i64 b] w fun e w' => e = .returned (.bool (btwI a x b)) ∧ w = w' := by
  go_enter Try.func39, Try.ntmps39
  go_wp2
  all_goals
    go_ret
    first | exact ⟨ret_bool (btw1 ha ha' hx hx' hb hb' (by assumption)), rfl⟩ | exact ⟨ret_bool (btw2 ha ha' hx hx' hb hb' (by assumption)), rfl⟩ | (subst x; exact ⟨ret_bool (btw0 _ _), rfl⟩)

set_option maxHeartbeats 400000 in
theorem heldBy_any (a b k : Int) (w : World) (ha : 0 ≤ a) (ha' : a < 64) (hb : 0 ≤ b) (hb' : b < 64) (hk : 0 ≤ k) (hk' : k < 64) :
    Calls Try.prog 43 #[.int .i64 k, .int .i64 a, .int .i64 b] w fun e w' => e = .returned (.bool (hldI a b k)) ∧ w = w' := by
  go_enter Try.func43, Try.ntmps43
  go_wp2
  all_goals
    go_ret
    first | exact ⟨ret_bool (hld11 (by assumption) (by assumption)), rfl⟩ | exact ⟨ret_bool (hld12 (by assumption) (by assumption)), rfl⟩ | exact ⟨ret_bool (hld21 (by assumption)), rfl⟩ | exact ⟨ret_bool (hld22 ha ha' hb hb' hk hk' (by assumption) (by assumption)), rfl⟩

set_option maxHeartbeats 400000 in
theorem distance_any (a b : Int) (w : World) (ha : 0 ≤ a) (ha' : a < 64) (hb : 0 ≤ b) (hb' : b < 64) :
    Calls Try.prog 42 #[.int .i64 a, .int .i64 b] w fun e w' => e = .returned (.int .i64 (dist a b)) ∧ w = w' := by
  go_enter Try.func42, Try.ntmps42
  go_wp2
  all_goals
    go_ret
    exact ⟨ret_int (by simp [dist]), rfl⟩

end Go.Proofs.Ytphkpkafhilenaa
