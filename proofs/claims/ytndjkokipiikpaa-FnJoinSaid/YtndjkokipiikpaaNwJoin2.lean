/- RingJoin of the program. -/
import Derived.Test.YtndjkokipiikpaaNwJoin
namespace Go.Proofs.Ytndjkokipiikpaa
open Go.RowKit
set_option linter.unusedVariables false

theorem rjoin_act (x y : Int) (r : List Nd) (ha : arg3 r x y = true) : ActOk 119 r x y (joinR r x y) (arg3 r x y && joinB r x y) ∧ rvB (joinR r x y) = true := by
  have hs : safeB r = true := by unfold arg3 at ha; simp at ha; exact ha.1.1
  rcases bool_cases (joinB r x y) with hj | hj
  · have e1 : joinR r x y = r := by unfold joinR; rw [ha, hj]; rfl
    rw [e1, hj, Bool.and_false]
    exact ⟨fun n L K p q w hn hp hq => join_no n L K r p q x y w hn ha hp hq hj, safe_rv hs⟩
  · have e1 : joinR r x y = insR r (cntR r x) (joinN r x y) := by unfold joinR; rw [ha, hj]; rfl
    rw [e1, ha, hj]
    obtain ⟨_, _, _, _, hsafe⟩ := join_pre ha hj
    exact ⟨fun n L K p q w hn hp hq => join_yes n L K r p q x y w hn ha hp hq hj, safe_rv hsafe⟩

set_option maxHeartbeats 1000000 in
theorem rjoin_any (a : Option Addr) (len cap : Nat) (x y : Int) (r : List Nd) (w : World) (h : RingAt w a r) (hz : r.length = len) (hm : len ≤ maxLen) :
    Calls Try.prog 22 #[.slice a len cap, .int .i64 x, .int .i64 y] w (NewRB (joinR r x y) (arg3 r x y && joinB r x y) w) := by
  have ht : Calls Try.prog 62 #[.slice a len cap, .int .i64 0, .int .i64 x, .int .i64 y] w (NewRB (joinR r x y) (arg3 r x y && joinB r x y) w) := by
    rcases bool_cases (arg3 r x y) with ha | ha
    · have e1 : joinR r x y = [] := by unfold joinR; rw [ha]; rfl
      rw [e1, ha, Bool.false_and]; exact take_no 0 a len cap r x y w h hz hm ha
    · obtain ⟨h1, h2⟩ := rjoin_act x y r ha
      exact take_join a len cap r x y _ _ w h hz hm ha h1 h2
  have HT := Lib.hid ht
  generalize joinR r x y = R at *
  generalize (arg3 r x y && joinB r x y) = B at *
  clear ht h hz hm
  go_enter Try.func22, Try.ntmps22
  go_wp2_with (go_at_call 62; refine HT.out.mono ?_; rintro e w1 ⟨N, cp, F, rfl, ho, hc1, hc2, hb⟩; have HO := Lib.hid ho; clear ho)
  go_ret2
  exact ⟨N, cp, F, rfl, HO.out, hc1, hc2, hb⟩
theorem join_sz (r : List Nd) (x y : Int) : szR (joinR r x y) ≤ 1048576 := by
  rcases bool_cases (arg3 r x y) with ha | ha
  · have e1 : joinR r x y = [] := by unfold joinR; rw [ha]; rfl
    rw [e1]; simp [szR, sumA]
  · exact sz_rv3 (rjoin_act x y r ha).2
end Go.Proofs.Ytndjkokipiikpaa
