/- Lookups, as the functions of chapter 11 answer at every argument. -/
import Derived.Test.YtlkpgkhggknphaaRangeMath
import Derived.Test.YtlkpgkhggknphaaRowsI
namespace Go.Proofs.Ytlkpgkhggknphaa
set_option linter.unusedVariables false

/-- a set of nodes that has the node -/
def memB (zs : List Int) (id : Int) : Bool := vldB zs && hasB zs id
def fgV (zs : List Int) (id : Int) : List Int := if memB zs id then fgTo zs id 6 else []
def lnxV (zs : List Int) (id key : Int) : Int := if memB zs id && ptB key then lnxL zs id key else -1
def pathV (zs : List Int) (id key : Int) : List Int := if memB zs id && ptB key then pathL zs id key else []
/-- the place of the next node -/
def plc (zs : List Int) (a : Int) : Nat := zs.findIdx fun z => decide (z = nxtL zs a)
def rngV (zs : List Int) (a b : Int) : List Int := if vldB zs && ptB a && ptB b then rngL zs (plc zs a) a b else []
theorem plc_lt {zs : List Int} (hv : vldB zs = true) (a : Int) : plc zs a < zs.length := List.findIdx_lt_length_of_exists ⟨_, nxt_mem hv a, by simp⟩
theorem plc_gt {zs : List Int} (hv : vldB zs = true) (a : Int) : gt zs (plc zs a) = nxtL zs a := by
  have h := plc_lt hv a
  rw [gt_get h]
  exact of_decide_eq_true (List.findIdx_getElem (xs := zs) (p := fun z => decide (z = nxtL zs a)) (w := h))
theorem memB_yes {zs : List Int} {id : Int} (h : memB zs id = true) : vldB zs = true ∧ id ∈ zs := by
  simp only [memB, Bool.and_eq_true] at h
  exact ⟨h.1, (hasB_iff _ _).1 h.2⟩
theorem memB_mk {zs : List Int} {id : Int} (h : vldB zs = true) (hi : id ∈ zs) : memB zs id = true := by
  simp only [memB, h, (hasB_iff _ _).2 hi, Bool.and_true]
theorem fgV_yes {zs : List Int} {id : Int} (h : memB zs id = true) : fgV zs id = fgTo zs id 6 := by simp [fgV, h]
theorem fgV_no {zs : List Int} {id : Int} (h : memB zs id = false) : fgV zs id = [] := by simp [fgV, h]
theorem lnxV_yes {zs : List Int} {id key : Int} (h : memB zs id = true) (hk : ptB key = true) : lnxV zs id key = lnxL zs id key := by simp [lnxV, h, hk]
theorem lnxV_no {zs : List Int} {id key : Int} (h : memB zs id = false ∨ ptB key = false) : lnxV zs id key = -1 := by
  rcases h with h | h <;> simp [lnxV, h]
theorem pathV_yes {zs : List Int} {id key : Int} (h : memB zs id = true) (hk : ptB key = true) : pathV zs id key = pathL zs id key := by simp [pathV, h, hk]
theorem pathV_no {zs : List Int} {id key : Int} (h : memB zs id = false ∨ ptB key = false) : pathV zs id key = [] := by
  rcases h with h | h <;> simp [pathV, h]
theorem rngV_yes {zs : List Int} {a b : Int} (h : vldB zs = true) (ha : ptB a = true) (hb : ptB b = true) : rngV zs a b = rngL zs (plc zs a) a b := by simp [rngV, h, ha, hb]
theorem rngV_no {zs : List Int} {a b : Int} (h : vldB zs = false ∨ ptB a = false ∨ ptB b = false) : rngV zs a b = [] := by
  rcases h with h | h | h <;> simp [rngV, h]
theorem pow_bd {k : Nat} (h : k ≤ 6) : (1 : Int) ≤ ((2 ^ k : Nat) : Int) ∧ ((2 ^ k : Nat) : Int) ≤ 64 := by
  have : k = 0 ∨ k = 1 ∨ k = 2 ∨ k = 3 ∨ k = 4 ∨ k = 5 ∨ k = 6 := by omega
  rcases this with rfl | rfl | rfl | rfl | rfl | rfl | rfl <;> decide
theorem pow_two (k : Nat) : ((2 ^ (k + 1) : Nat) : Int) = 2 * ((2 ^ k : Nat) : Int) := by rw [Nat.pow_succ]; omega
theorem pathV_len (zs : List Int) (id key : Int) : (pathV zs id key).length ≤ 8 := by
  cases h : memB zs id
  · rw [pathV_no (.inl h)]; simp
  · cases hk : ptB key
    · rw [pathV_no (.inr hk)]; simp
    · rw [pathV_yes h hk]
      have hp := (ptB_iff _).1 hk
      exact path_len (memB_yes h).1 hp.1 hp.2 id (memB_yes h).2
theorem fgV_len (zs : List Int) (id : Int) : (fgV zs id).length ≤ 6 := by
  cases h : memB zs id
  · rw [fgV_no h]; simp
  · rw [fgV_yes h, fgTo_len]; exact Nat.le_refl _
theorem rngV_len (zs : List Int) (a b : Int) : (rngV zs a b).length ≤ 10 := by
  cases h : vldB zs
  · rw [rngV_no (.inl h)]; simp
  · cases ha : ptB a
    · rw [rngV_no (.inr (.inl ha))]; simp
    · cases hb : ptB b
      · rw [rngV_no (.inr (.inr hb))]; simp
      · rw [rngV_yes h ha hb]
        obtain ⟨m, hm, e⟩ := rng_is h (plc zs a) a b
        rw [e, rotTo_len]
        have := (vld_len h).2
        have := hm.2.1
        omega

end Go.Proofs.Ytlkpgkhggknphaa
