/- The walk of the law on the number of keys of a range. -/
import Derived.Test.YtphkpkafhilenaaDrawCircle
import Derived.Test.YtphkpkafhilenaaCircleMath2
namespace Go.Proofs.Ytphkpkafhilenaa
open Go.RowKit
set_option linter.unusedVariables false

/-- how many of the keys below k are in the range after a up to b -/
def cntI (a b k : Int) : Int := if a = b then k else if a < b then (if k ≤ a + 1 then 0 else if k ≤ b + 1 then k - 1 - a else b - a) else (if k ≤ b + 1 then k else if k ≤ a + 1 then b + 1 else b + 1 + (k - 1 - a))

theorem cnt_step {a b k : Int} (ha : 0 ≤ a) (hb : 0 ≤ b) (hk : 0 ≤ k) : (hldI a b k = true → cntI a b (k + 1) = cntI a b k + 1) ∧ (hldI a b k = false → cntI a b (k + 1) = cntI a b k) := by
  unfold hldI cntI
  rw [decide_eq_true_eq, decide_eq_false_iff_not]
  constructor <;> intro h <;> (repeat' split) <;> omega
theorem cnt_bd {a b k : Int} (ha : 0 ≤ a) (hb : 0 ≤ b) (hk : 0 ≤ k) : 0 ≤ cntI a b k ∧ cntI a b k ≤ k := by
  unfold cntI
  constructor <;> (repeat' split) <;> omega
theorem cnt_end_same {a b : Int} (h : (a == b) = true) : (cntI a b 64 == 64) = true := by
  have h' : a = b := by simpa using h
  simp [cntI, h']
theorem cnt_end {a b : Int} (ha : ptB a = true) (hb : ptB b = true) (h : (a == b) = false) : (cntI a b 64 == dstI a b) = true := by
  have h' : ¬ a = b := by simpa using h
  have a1 := (ptB_iff a).1 ha
  have b1 := (ptB_iff b).1 hb
  rw [dst_pt ha hb, beq_iff_eq]
  unfold cntI
  (repeat' split) <;> omega

set_option maxHeartbeats 1000000 in
theorem holdsCount (s : Option Addr) (len cap : Nat) (z : List Int) (w : World) (h : RowIn .u8 w s len cap z) :
    Calls Try.prog 8 #[.slice s len cap] w fun e w' => e = .returned (.bool true) ∧ Below w.heap.size w w' := by
  have hb := bytes_of_row h
  have hm : len ≤ maxLen := Nat.le_trans hb.1 hb.2.1
  unfold maxLen at hm
  clear h
  by_cases hl : 1048576 < len
  · go_enter Try.func8, Try.ntmps8
    go_wp2
    go_ret
    exact ⟨rfl, Below.refl _ _⟩
  have hlB : decide ((1048576 : Int) < (len : Int)) = false := by simp; omega
  go_enter Try.func8, Try.ntmps8
  go_wp2_with fail
  refine (drawHolds s len cap w hb).mono ?_
  rintro e w1 ⟨a, b, x, ha0, ha1, hb0, hb1, hx0, hx1, rfl, hbel⟩
  cases hA : ptB a
  · go_wp2_with (first
    | (go_at_call 21; refine (chld_any _ _ _ _).mono ?_; rintro e w' ⟨rfl, rfl⟩)
    | (go_at_call 22; refine (shld_any _ _ _ _).mono ?_; rintro e w' ⟨rfl, rfl⟩)
    | (go_at_call 18; refine (isPoint_any _ _).mono ?_; rintro e w' ⟨rfl, rfl⟩))
    go_ret
    exact ⟨rfl, hbel⟩
  cases hB : ptB b
  · go_wp2_with (first
    | (go_at_call 21; refine (chld_any _ _ _ _).mono ?_; rintro e w' ⟨rfl, rfl⟩)
    | (go_at_call 22; refine (shld_any _ _ _ _).mono ?_; rintro e w' ⟨rfl, rfl⟩)
    | (go_at_call 18; refine (isPoint_any _ _).mono ?_; rintro e w' ⟨rfl, rfl⟩))
    go_ret
    exact ⟨rfl, hbel⟩
  go_wp2_with (first
    | (go_at_call 21; refine (chld_any _ _ _ _).mono ?_; rintro e w' ⟨rfl, rfl⟩)
    | (go_at_call 22; refine (shld_any _ _ _ _).mono ?_; rintro e w' ⟨rfl, rfl⟩)
    | (go_at_call 18; refine (isPoint_any _ _).mono ?_; rintro e w' ⟨rfl, rfl⟩))
  have a1 := (ptB_iff a).1 hA
  have b1 := (ptB_iff b).1 hB
  go_loop [8, 9] (fun n i => ∃ k : Nat, k ≤ 64 ∧ i = .int .i64 k ∧ n = .int .i64 (cntI a b k)) (fun _ i => 64 - (intOf i).toNat)
  case atStart => exact ⟨0, by omega, rfl, by unfold cntI; congr 1; (repeat' split) <;> omega⟩
  case round =>
    obtain ⟨k, hk, rfl, rfl⟩ := hrel
    have hc := cnt_bd (k := (k : Int)) a1.1 b1.1 (by omega)
    have hs := cnt_step (k := (k : Int)) a1.1 b1.1 (by omega)
    have HS := Lib.hid hs
    clear hs
    by_cases hlt : k < 64
    · have hP : ptB (k : Int) = true := by rw [ptB_iff]; omega
      have e1 : hldB a b k = hldI a b k := hldB_pt hA hB hP
      cases hh : hldI a b k
      · go_wp2_with (go_at_call 21; refine (chld_any _ _ _ _).mono ?_; rintro e w' ⟨rfl, rfl⟩)
        go_round
        case rel => exact ⟨k + 1, by omega, by go_num, by rw [show ((k + 1 : Nat) : Int) = (k : Int) + 1 from rfl, HS.out.2 hh]⟩
        case measure => simp [intOf]; omega
      · go_wp2_with (go_at_call 21; refine (chld_any _ _ _ _).mono ?_; rintro e w' ⟨rfl, rfl⟩)
        go_round
        case rel => exact ⟨k + 1, by omega, by go_num, by rw [show ((k + 1 : Nat) : Int) = (k : Int) + 1 from rfl, HS.out.1 hh]⟩
        case measure => simp [intOf]; omega
    · obtain rfl : k = 64 := by omega
      cases hab : (a == b)
      · go_wp2_with (go_at_call 19; refine (cdst_any _ _ _).mono ?_; rintro e w' ⟨rfl, rfl⟩)
        go_ret
        exact ⟨ret_bool (cnt_end hA hB hab), hbel⟩
      · go_wp2
        go_ret
        exact ⟨ret_bool (cnt_end_same hab), hbel⟩
end Go.Proofs.Ytphkpkafhilenaa
