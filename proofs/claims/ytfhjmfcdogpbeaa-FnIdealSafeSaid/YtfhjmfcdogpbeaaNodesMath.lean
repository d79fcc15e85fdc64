/- Sets of nodes as lists of numbers: what the functions of chapter 1 on nodes compute. -/
import Derived.Test.YtfhjmfcdogpbeaaCircleMath
namespace Go.Proofs.Ytfhjmfcdogpbeaa
set_option linter.unusedVariables false

/-- the number at a place -/
def gt (zs : List Int) (i : Nat) : Int := zs.getD i 0
theorem gt_cons_zero (z : Int) (zs : List Int) : gt (z :: zs) 0 = z := by simp [gt]
theorem gt_cons_succ (z : Int) (zs : List Int) (i : Nat) : gt (z :: zs) (i + 1) = gt zs i := by simp [gt]
theorem gt_get {zs : List Int} {i : Nat} (h : i < zs.length) : gt zs i = zs[i] := by simp [gt, List.getElem?_eq_getElem h]

/-- the k-th number is a position, and greater than the one before it -/
def okAt (zs : List Int) (k : Nat) : Bool := ptB (gt zs k) && (decide (k = 0) || decide (gt zs (k - 1) < gt zs k))
/-- the first k numbers are ascending positions -/
def ascTo (zs : List Int) : Nat → Bool
  | 0 => true
  | k + 1 => ascTo zs k && okAt zs k
/-- a set of nodes -/
def vldB (zs : List Int) : Bool := decide (1 ≤ zs.length ∧ zs.length ≤ 10) && ascTo zs zs.length

theorem ascTo_mono {zs : List Int} {k n : Nat} (h : k ≤ n) (hn : ascTo zs n = true) : ascTo zs k = true := by
  induction n with
  | zero => have : k = 0 := by omega
            subst this; rfl
  | succ n ih =>
    rcases Nat.lt_or_ge n k with h' | h'
    · have : k = n + 1 := by omega
      subst this; exact hn
    · simp only [ascTo, Bool.and_eq_true] at hn
      exact ih h' hn.1
theorem asc_ok {zs : List Int} {k n : Nat} (h : k < n) (hn : ascTo zs n = true) : okAt zs k = true := by
  have := ascTo_mono (k := k + 1) h hn
  simp only [ascTo, Bool.and_eq_true] at this
  exact this.2
theorem asc_no {zs : List Int} {k n : Nat} (h : k < n) (hk : okAt zs k = false) : ascTo zs n = false := by
  cases hn : ascTo zs n
  · rfl
  · rw [asc_ok h hn] at hk; cases hk

/-- the numbers before place k are less than the key -/
def NoneTo (zs : List Int) (key : Int) (k : Nat) : Prop := ∀ i, i < k → gt zs i < key
/-- the first number at a position or after it, or the first of all -/
def nxtL (zs : List Int) (key : Int) : Int := (zs.find? fun n => decide (key ≤ n)).getD (gt zs 0)
def nxtI (zs : List Int) (key : Int) : Int := if vldB zs && ptB key then nxtL zs key else -1

theorem noneTo_zero (zs : List Int) (key : Int) : NoneTo zs key 0 := fun i h => absurd h (by omega)
theorem noneTo_succ {zs : List Int} {key : Int} {k : Nat} (h : NoneTo zs key k) (hk : gt zs k < key) : NoneTo zs key (k + 1) := by
  intro i hi
  rcases Nat.lt_or_ge i k with h' | h'
  · exact h i h'
  · have : i = k := by omega
    subst this; exact hk
theorem find_at {zs : List Int} {key : Int} : ∀ {k : Nat}, k < zs.length → NoneTo zs key k → key ≤ gt zs k → (zs.find? fun n => decide (key ≤ n)) = some (gt zs k) := by
  induction zs with
  | nil => intro k hk; simp at hk
  | cons z zs ih =>
    intro k hk hn hle
    cases k with
    | zero =>
      have : key ≤ z := by rw [gt_cons_zero] at hle; exact hle
      simp [List.find?, this, gt_cons_zero]
    | succ k =>
      have h0 : z < key := by have := hn 0 (by omega); rw [gt_cons_zero] at this; exact this
      have h0' : decide (key ≤ z) = false := by rw [decide_eq_false_iff_not]; omega
      rw [List.find?, h0']
      have := ih (k := k) (by simpa using hk) (fun i hi => by have := hn (i + 1) (by omega); rw [gt_cons_succ] at this; exact this) (by rw [gt_cons_succ] at hle; exact hle)
      rw [gt_cons_succ]
      exact this
theorem nxt_at {zs : List Int} {key : Int} {k : Nat} (hk : k < zs.length) (hn : NoneTo zs key k) (hle : key ≤ gt zs k) : nxtL zs key = gt zs k := by
  rw [nxtL, find_at hk hn hle]; rfl
theorem nxt_none {zs : List Int} {key : Int} (hn : NoneTo zs key zs.length) : nxtL zs key = gt zs 0 := by
  have : (zs.find? fun n => decide (key ≤ n)) = none := by
    rw [List.find?_eq_none]
    intro x hx
    obtain ⟨i, hi, rfl⟩ := List.getElem_of_mem hx
    have := hn i hi
    rw [gt_get hi] at this
    simp; exact this
  rw [nxtL, this]; rfl

/-- among the first k numbers the last one that is less than the key, or the last of all -/
def befTo (zs : List Int) (key : Int) : Nat → Int
  | 0 => gt zs (zs.length - 1)
  | k + 1 => if gt zs k < key then gt zs k else befTo zs key k
def befL (zs : List Int) (key : Int) : Int := befTo zs key zs.length
def befI (zs : List Int) (key : Int) : Int := if vldB zs && ptB key then befL zs key else -1
/-- no number from place k on is less than the key -/
def NoneFrom (zs : List Int) (key : Int) (k : Nat) : Prop := befTo zs key zs.length = befTo zs key k
theorem noneFrom_len (zs : List Int) (key : Int) : NoneFrom zs key zs.length := rfl
theorem noneFrom_down {zs : List Int} {key : Int} {k : Nat} (h : NoneFrom zs key (k + 1)) (hk : ¬ gt zs k < key) : NoneFrom zs key k := by
  unfold NoneFrom at h ⊢
  rw [h, befTo, if_neg hk]
theorem bef_at {zs : List Int} {key : Int} {k : Nat} (h : NoneFrom zs key (k + 1)) (hk : gt zs k < key) : befL zs key = gt zs k := by
  unfold NoneFrom at h
  rw [befL, h, befTo, if_pos hk]
theorem bef_none {zs : List Int} {key : Int} (h : NoneFrom zs key 0) : befL zs key = gt zs (zs.length - 1) := by
  unfold NoneFrom at h
  rw [befL, h]; rfl
theorem vld_len {zs : List Int} (h : vldB zs = true) : 1 ≤ zs.length ∧ zs.length ≤ 10 := by
  simp only [vldB, Bool.and_eq_true, decide_eq_true_eq] at h; exact h.1
theorem vld_asc {zs : List Int} (h : vldB zs = true) : ascTo zs zs.length = true := by
  simp only [vldB, Bool.and_eq_true, decide_eq_true_eq] at h; exact h.2
end Go.Proofs.Ytfhjmfcdogpbeaa
