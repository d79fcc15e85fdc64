/- The plain arithmetic of the circle of 64 positions: what the functions of chapter 1 compute on numbers. -/
import Derived.WalkKit
namespace Go.Proofs.Ytfhjmfcdogpbeaa
set_option linter.unusedVariables false

/-- a position -/
def ptB (n : Int) : Bool := decide (0 ≤ n ∧ n < 64)
/-- steps upward from one position to another -/
def dist (a b : Int) : Int := (b - a) % 64
/-- strictly between, going upward -/
def btwI (a x b : Int) : Bool := decide ((a < b ∧ a < x ∧ x < b) ∨ (b ≤ a ∧ (a < x ∨ x < b)))
/-- in the range after a up to b -/
def hldI (a b k : Int) : Bool := decide (k = b ∨ a = b ∨ (a < b ∧ a < k ∧ k < b) ∨ (b ≤ a ∧ (a < k ∨ k < b)))
def btwB (a x b : Int) : Bool := ptB a && ptB x && ptB b && btwI a x b
def hldB (a b k : Int) : Bool := ptB a && ptB b && ptB k && hldI a b k
def dstI (a b : Int) : Int := if ptB a && ptB b then dist a b else -1

theorem ptB_iff (n : Int) : ptB n = true ↔ 0 ≤ n ∧ n < 64 := by simp [ptB]
theorem ptB_no (n : Int) : ptB n = false ↔ n < 0 ∨ 64 ≤ n := by simp [ptB]; omega
theorem dist_bd (a b : Int) : 0 ≤ dist a b ∧ dist a b < 64 := by unfold dist; omega

theorem btw1 {a x b : Int} (ha : 0 ≤ a) (ha' : a < 64) (hx : 0 ≤ x) (hx' : x < 64) (hb : 0 ≤ b) (hb' : b < 64) (h : (a == b) = true) :
    (x != a && decide ((x - a) % 64 < 64)) = btwI a x b := by
  have h' : a = b := by simpa using h
  rw [Bool.eq_iff_iff]; unfold btwI; simp only [Bool.and_eq_true, bne_iff_ne, decide_eq_true_eq, ne_eq]; omega
theorem btw2 {a x b : Int} (ha : 0 ≤ a) (ha' : a < 64) (hx : 0 ≤ x) (hx' : x < 64) (hb : 0 ≤ b) (hb' : b < 64) (h : (a == b) = false) :
    (x != a && decide ((x - a) % 64 < (b - a) % 64)) = btwI a x b := by
  have h' : ¬ a = b := by simpa using h
  rw [Bool.eq_iff_iff]; unfold btwI; simp only [Bool.and_eq_true, bne_iff_ne, decide_eq_true_eq, ne_eq]; omega
theorem btw0 (a b : Int) : false = btwI a a b := by
  symm; unfold btwI; simp only [decide_eq_false_iff_not]; omega
theorem hld11 {a b k : Int} (h : (a == k) = true) (h' : (a == b) = true) : true = hldI a b k := by
  have h1 : a = k := by simpa using h
  have h2 : a = b := by simpa using h'
  symm; unfold hldI; simp only [decide_eq_true_eq]; omega
theorem hld12 {a b k : Int} (h : (a == k) = true) (h' : (a == b) = false) : decide (64 ≤ (b - a) % 64) = hldI a b k := by
  have h1 : a = k := by simpa using h
  have h2 : ¬ a = b := by simpa using h'
  rw [Bool.eq_iff_iff]; unfold hldI; simp only [decide_eq_true_eq]; omega
theorem hld21 {a b k : Int} (h' : (a == b) = true) : decide ((k - a) % 64 ≤ 64) = hldI a b k := by
  have h2 : a = b := by simpa using h'
  rw [Bool.eq_iff_iff]; unfold hldI; simp only [decide_eq_true_eq]; omega
theorem hld22 {a b k : Int} (ha : 0 ≤ a) (ha' : a < 64) (hb : 0 ≤ b) (hb' : b < 64) (hk : 0 ≤ k) (hk' : k < 64) (h : (a == k) = false) (h' : (a == b) = false) :
    decide ((k - a) % 64 ≤ (b - a) % 64) = hldI a b k := by
  have h1 : ¬ a = k := by simpa using h
  have h2 : ¬ a = b := by simpa using h'
  rw [Bool.eq_iff_iff]; unfold hldI; simp only [decide_eq_true_eq]; omega

theorem ret_bool {a b : Bool} (h : a = b) : Ending.returned (.bool a) = .returned (.bool b) := by rw [h]
theorem ret_int {k : IntKind} {a b : Int} (h : a = b) : Ending.returned (.int k a) = .returned (.int k b) := by rw [h]
end Go.Proofs.Ytfhjmfcdogpbeaa
