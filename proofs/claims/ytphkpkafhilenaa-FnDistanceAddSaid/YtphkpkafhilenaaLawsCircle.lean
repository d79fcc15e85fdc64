/- The walks of the laws of the circle. -/
import Derived.Test.YtphkpkafhilenaaDrawCircle
import Derived.Test.YtphkpkafhilenaaCircleMath2
namespace Go.Proofs.Ytphkpkafhilenaa
open Go.RowKit
set_option linter.unusedVariables false

set_option maxHeartbeats 1000000 in
theorem betweenTurn (s : Option Addr) (len cap : Nat) (z : List Int) (s2 : Option Addr) (len2 cap2 : Nat) (z2 : List Int) (w : World) (h : RowIn .u8 w s len cap z) (h2 : RowIn .u8 w s2 len2 cap2 z2) :
    Calls Try.prog 3 #[.slice s len cap, .slice s2 len2 cap2] w fun e w' => e = .returned (.bool true) ∧ Below w.heap.size w w' := by
  have hb := bytes_of_row h
  have hb2 := bytes_of_row h2
  have hm2 : len2 ≤ maxLen := Nat.le_trans hb2.1 hb2.2.1
  unfold maxLen at hm2
  have hm : len ≤ maxLen := Nat.le_trans hb.1 hb.2.1
  unfold maxLen at hm
  clear h h2
  by_cases hl : 1048576 < len
  · go_enter Try.func3, Try.ntmps3
    go_wp2
    go_ret
    exact ⟨rfl, Below.refl _ _⟩
  by_cases hl2 : 1048576 < len2
  · go_enter Try.func3, Try.ntmps3
    go_wp2
    go_ret
    exact ⟨rfl, Below.refl _ _⟩
  go_enter Try.func3, Try.ntmps3
  go_wp2_with fail
  refine (drawBetween s len cap w hb).mono ?_
  rintro e w1 ⟨a, x, b, ha0, ha1, hx0, hx1, hb0, hb1, rfl, hbel⟩
  go_wp2_with (first
    | (go_at_call 16; refine (cbtw_any _ _ _ _).mono ?_; rintro e w' ⟨rfl, rfl⟩)
    | (go_at_call 17; refine (sbtw_any _ _ _ _).mono ?_; rintro e w' ⟨rfl, rfl⟩)
    | (go_at_call 18; refine (isPoint_any _ _).mono ?_; rintro e w' ⟨rfl, rfl⟩))
  all_goals
    go_ret
    first
    | exact ⟨rfl, hbel⟩
    | exact ⟨ret_bool (turn_ok (by assumption) (by assumption) (by assumption) (by omega)), hbel⟩

set_option maxHeartbeats 1000000 in
theorem betweenOne (s : Option Addr) (len cap : Nat) (z : List Int) (w : World) (h : RowIn .u8 w s len cap z) :
    Calls Try.prog 4 #[.slice s len cap] w fun e w' => e = .returned (.bool true) ∧ Below w.heap.size w w' := by
  have hb := bytes_of_row h
  have hm : len ≤ maxLen := Nat.le_trans hb.1 hb.2.1
  unfold maxLen at hm
  clear h
  by_cases hl : 1048576 < len
  · go_enter Try.func4, Try.ntmps4
    go_wp2
    go_ret
    exact ⟨rfl, Below.refl _ _⟩
  go_enter Try.func4, Try.ntmps4
  go_wp2_with fail
  refine (drawBetween s len cap w hb).mono ?_
  rintro e w1 ⟨a, x, b, ha0, ha1, hx0, hx1, hb0, hb1, rfl, hbel⟩
  go_wp2_with (first
    | (go_at_call 16; refine (cbtw_any _ _ _ _).mono ?_; rintro e w' ⟨rfl, rfl⟩)
    | (go_at_call 17; refine (sbtw_any _ _ _ _).mono ?_; rintro e w' ⟨rfl, rfl⟩)
    | (go_at_call 18; refine (isPoint_any _ _).mono ?_; rintro e w' ⟨rfl, rfl⟩))
  all_goals
    go_ret
    first
    | exact ⟨rfl, hbel⟩
    | exact ⟨ret_bool (one_no (a := a) (x := x) (b := b) (by assumption) (by assumption) (by assumption) (by assumption) (by assumption) (by assumption) (by assumption)), hbel⟩
    | exact ⟨ret_bool (one_yes (by assumption) (by assumption) (by assumption) (by assumption) (by assumption) (by assumption) (by assumption)), hbel⟩

set_option maxHeartbeats 1000000 in
theorem betweenDistance (s : Option Addr) (len cap : Nat) (z : List Int) (w : World) (h : RowIn .u8 w s len cap z) :
    Calls Try.prog 5 #[.slice s len cap] w fun e w' => e = .returned (.bool true) ∧ Below w.heap.size w w' := by
  have hb := bytes_of_row h
  have hm : len ≤ maxLen := Nat.le_trans hb.1 hb.2.1
  unfold maxLen at hm
  clear h
  by_cases hl : 1048576 < len
  · go_enter Try.func5, Try.ntmps5
    go_wp2
    go_ret
    exact ⟨rfl, Below.refl _ _⟩
  go_enter Try.func5, Try.ntmps5
  go_wp2_with fail
  refine (drawBetween s len cap w hb).mono ?_
  rintro e w1 ⟨a, x, b, ha0, ha1, hx0, hx1, hb0, hb1, rfl, hbel⟩
  go_wp2_with (first
    | (go_at_call 16; refine (cbtw_any _ _ _ _).mono ?_; rintro e w' ⟨rfl, rfl⟩)
    | (go_at_call 17; refine (sbtw_any _ _ _ _).mono ?_; rintro e w' ⟨rfl, rfl⟩)
    | (go_at_call 18; refine (isPoint_any _ _).mono ?_; rintro e w' ⟨rfl, rfl⟩)
    | (go_at_call 19; refine (cdst_any _ _ _).mono ?_; rintro e w' ⟨rfl, rfl⟩))
  all_goals
    go_ret
    first
    | exact ⟨rfl, hbel⟩
    | exact ⟨ret_bool (dist_yes (by assumption) (by assumption) (by assumption) (by assumption) (by assumption)), hbel⟩
    | exact ⟨ret_bool (dist_no (by assumption) (by assumption) (by assumption) (by assumption) (by assumption)), hbel⟩

set_option maxHeartbeats 1000000 in
theorem betweenEnds (s : Option Addr) (len cap : Nat) (z : List Int) (w : World) (h : RowIn .u8 w s len cap z) :
    Calls Try.prog 6 #[.slice s len cap] w fun e w' => e = .returned (.bool true) ∧ Below w.heap.size w w' := by
  have hb := bytes_of_row h
  have hm : len ≤ maxLen := Nat.le_trans hb.1 hb.2.1
  unfold maxLen at hm
  clear h
  by_cases hl : 1048576 < len
  · go_enter Try.func6, Try.ntmps6
    go_wp2
    go_ret
    exact ⟨rfl, Below.refl _ _⟩
  go_enter Try.func6, Try.ntmps6
  go_wp2_with fail
  refine (drawBetween s len cap w hb).mono ?_
  rintro e w1 ⟨a, x, b, ha0, ha1, hx0, hx1, hb0, hb1, rfl, hbel⟩
  go_wp2_with (first
    | (go_at_call 16; refine (cbtw_any _ _ _ _).mono ?_; rintro e w' ⟨rfl, rfl⟩)
    | (go_at_call 17; refine (sbtw_any _ _ _ _).mono ?_; rintro e w' ⟨rfl, rfl⟩)
    | (go_at_call 18; refine (isPoint_any _ _).mono ?_; rintro e w' ⟨rfl, rfl⟩))
  all_goals
    go_ret
    first
    | exact ⟨rfl, hbel⟩
    | exact ⟨ret_bool (ends_no1 (by assumption)), hbel⟩
    | exact ⟨ret_bool (ends_no2 (by assumption) (by assumption)), hbel⟩
    | exact ⟨ret_bool (ends_yes (by assumption) (by assumption)), hbel⟩
    | exact ⟨ret_bool (ends_yes' (a := a) (b := b) (by assumption) (by assumption) (by assumption)), hbel⟩

set_option maxHeartbeats 1000000 in
theorem holdsDivide (s : Option Addr) (len cap : Nat) (z : List Int) (s2 : Option Addr) (len2 cap2 : Nat) (z2 : List Int) (w : World) (h : RowIn .u8 w s len cap z) (h2 : RowIn .u8 w s2 len2 cap2 z2) :
    Calls Try.prog 7 #[.slice s len cap, .slice s2 len2 cap2] w fun e w' => e = .returned (.bool true) ∧ Below w.heap.size w w' := by
  have hb := bytes_of_row h
  have hb2 := bytes_of_row h2
  have hm2 : len2 ≤ maxLen := Nat.le_trans hb2.1 hb2.2.1
  unfold maxLen at hm2
  have hm : len ≤ maxLen := Nat.le_trans hb.1 hb.2.1
  unfold maxLen at hm
  clear h h2
  by_cases hl : 1048576 < len
  · go_enter Try.func7, Try.ntmps7
    go_wp2
    go_ret
    exact ⟨rfl, Below.refl _ _⟩
  by_cases hl2 : 1048576 < len2
  · go_enter Try.func7, Try.ntmps7
    go_wp2
    go_ret
    exact ⟨rfl, Below.refl _ _⟩
  go_enter Try.func7, Try.ntmps7
  go_wp2_with fail
  refine (drawHolds s len cap w hb).mono ?_
  rintro e w1 ⟨a, x, b, ha0, ha1, hx0, hx1, hb0, hb1, rfl, hbel⟩
  go_wp2_with (first
    | (go_at_call 16; refine (cbtw_any _ _ _ _).mono ?_; rintro e w' ⟨rfl, rfl⟩)
    | (go_at_call 21; refine (chld_any _ _ _ _).mono ?_; rintro e w' ⟨rfl, rfl⟩)
    | (go_at_call 22; refine (shld_any _ _ _ _).mono ?_; rintro e w' ⟨rfl, rfl⟩)
    | (go_at_call 18; refine (isPoint_any _ _).mono ?_; rintro e w' ⟨rfl, rfl⟩))
  all_goals
    go_ret
    first
    | exact ⟨rfl, hbel⟩
    | exact ⟨ret_bool (hold_yes (by assumption) (by assumption) (by assumption) (by assumption) (by assumption)), hbel⟩

set_option maxHeartbeats 1000000 in
theorem distanceBack (s : Option Addr) (len cap : Nat) (z : List Int) (w : World) (h : RowIn .u8 w s len cap z) :
    Calls Try.prog 9 #[.slice s len cap] w fun e w' => e = .returned (.bool true) ∧ Below w.heap.size w w' := by
  have hb := bytes_of_row h
  have hm : len ≤ maxLen := Nat.le_trans hb.1 hb.2.1
  unfold maxLen at hm
  clear h
  by_cases hl : 1048576 < len
  · go_enter Try.func9, Try.ntmps9
    go_wp2
    go_ret
    exact ⟨rfl, Below.refl _ _⟩
  go_enter Try.func9, Try.ntmps9
  go_wp2_with fail
  refine (drawDistance s len cap w hb).mono ?_
  rintro e w1 ⟨a, b, ha0, ha1, hb0, hb1, rfl, hbel⟩
  go_wp2_with (first
    | (go_at_call 19; refine (cdst_any _ _ _).mono ?_; rintro e w' ⟨rfl, rfl⟩)
    | (go_at_call 24; refine (sdst_any _ _ _).mono ?_; rintro e w' ⟨rfl, rfl⟩))
  all_goals
    go_ret
    first
    | exact ⟨rfl, hbel⟩
    | exact ⟨ret_bool (back_zero (by assumption) (by assumption)), hbel⟩
    | exact ⟨ret_bool (back_yes (by assumption) (by assumption)), hbel⟩
    | exact ⟨ret_bool (back_no (by assumption) (by assumption) (by assumption)), hbel⟩

set_option maxHeartbeats 1000000 in
theorem distanceAdd (s : Option Addr) (len cap : Nat) (z : List Int) (s2 : Option Addr) (len2 cap2 : Nat) (z2 : List Int) (w : World) (h : RowIn .u8 w s len cap z) (h2 : RowIn .u8 w s2 len2 cap2 z2) :
    Calls Try.prog 10 #[.slice s len cap, .slice s2 len2 cap2] w fun e w' => e = .returned (.bool true) ∧ Below w.heap.size w w' := by
  have hb := bytes_of_row h
  have hb2 := bytes_of_row h2
  have hm2 : len2 ≤ maxLen := Nat.le_trans hb2.1 hb2.2.1
  unfold maxLen at hm2
  have hm : len ≤ maxLen := Nat.le_trans hb.1 hb.2.1
  unfold maxLen at hm
  clear h h2
  by_cases hl : 1048576 < len
  · go_enter Try.func10, Try.ntmps10
    go_wp2
    go_ret
    exact ⟨rfl, Below.refl _ _⟩
  by_cases hl2 : 1048576 < len2
  · go_enter Try.func10, Try.ntmps10
    go_wp2
    go_ret
    exact ⟨rfl, Below.refl _ _⟩
  go_enter Try.func10, Try.ntmps10
  go_wp2_with fail
  refine (drawDistance s len cap w hb).mono ?_
  rintro e w1 ⟨a, b, ha0, ha1, hb0, hb1, rfl, hbel⟩
  go_wp2_with (first
    | (go_at_call 19; refine (cdst_any _ _ _).mono ?_; rintro e w' ⟨rfl, rfl⟩)
    | (go_at_call 24; refine (sdst_any _ _ _).mono ?_; rintro e w' ⟨rfl, rfl⟩))
  all_goals
    go_ret
    first
    | exact ⟨rfl, hbel⟩
    | exact ⟨ret_bool (add_yes (by assumption)), hbel⟩

end Go.Proofs.Ytphkpkafhilenaa
