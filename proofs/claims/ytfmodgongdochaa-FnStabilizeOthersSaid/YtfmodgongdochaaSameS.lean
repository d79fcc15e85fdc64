/- Comparing rings in the model; RingIdeal and its model. -/
import Derived.Test.YtfmodgongdochaaIdealS
namespace Go.Proofs.Ytfmodgongdochaa
open Go.RowKit
set_option linter.unusedVariables false

theorem two_new {w W : World} {a b : Obj} (h : W = (w.alloc a).alloc b) :
    W.heap.size = w.heap.size + 2 ∧ Below w.heap.size w W ∧ W.heap[w.heap.size]? = some a ∧ W.heap[w.heap.size + 1]? = some b := by
  subst h
  exact ⟨by simp, ((Below.refl _ _).alloc (Nat.le_refl _) _).alloc (by simp) _, heap_first w a b, heap_second w a b⟩
theorem list_eq_iff {a b : List Int} (h : a.length = b.length) : a = b ↔ ∀ i, i < a.length → gt a i = gt b i := by
  constructor
  · rintro rfl i _; rfl
  · intro hh
    refine List.ext_getElem h fun i h1 h2 => ?_
    have := hh i h1
    rw [gt_get h1, gt_get h2] at this; exact this
theorem sameN_no_aft {n m : Nd} (h : ¬ n.aft = m.aft) : sameN n m = false := by simp [sameN, h]



theorem nb_one {n i : Nat} (h : 0 < n) : nbI n i 1 = (i + 1) % n := by
  unfold nbI
  rw [Int.add_emod_right, show (i : Int) + 1 = ((i + 1 : Nat) : Int) by omega, ← Int.natCast_emod]; exact Int.toNat_natCast _
theorem nb_two {n i : Nat} (h : 0 < n) : nbI n i 2 = (i + 2) % n := by
  unfold nbI
  rw [Int.add_emod_right, show (i : Int) + 2 = ((i + 2 : Nat) : Int) by omega, ← Int.natCast_emod]; exact Int.toNat_natCast _
theorem nb_less {n i : Nat} (h : 0 < n) : nbI n i (-1) = (i + n - 1) % n := by
  unfold nbI
  rw [show (i : Int) + -1 + n = ((i + n - 1 : Nat) : Int) by omega, ← Int.natCast_emod]; exact Int.toNat_natCast _
theorem idl_kn {r : List Nd} (hv : rvB r = true) (h3 : 3 ≤ r.length) : sameR r (idR (idsOf r)) = allTo (knB r) r.length := by
  have hl : (idR (idsOf r)).length = r.length := by rw [idR_len, ids_len]
  have he : ∀ i, i < r.length → sameN (gn r i) (gn (idR (idsOf r)) i) = knB r i := by
    intro i hi
    rw [idR_at (by rw [ids_len]; exact hi), idNd, ids_len]
    obtain ⟨_, _, x, y, ha, _⟩ := (ndB_iff _).1 (rv_nd hv hi)
    have hp : 0 < r.length := by omega
    unfold knB kn1 knb
    rw [nb_one hp, nb_two hp, nb_less hp, ids_gt hi, ids_gt (Nat.mod_lt _ hp), ids_gt (Nat.mod_lt _ hp), ids_gt (Nat.mod_lt _ hp), ha]
    have e0 : gt [x, y] 0 = x := rfl
    have e1 : gt [x, y] 1 = y := rfl
    rw [e0, e1, Bool.eq_iff_iff]
    simp only [sameN, ha, Bool.and_eq_true, decide_eq_true_eq, List.cons.injEq, and_true, true_and]
    constructor
    · rintro ⟨h1, h2, h3⟩; exact ⟨⟨h2, h3⟩, h1⟩
    · rintro ⟨⟨h2, h3⟩, h1⟩; exact ⟨h1, h2, h3⟩
  rw [Bool.eq_iff_iff]
  simp only [sameR, hl, decide_true, Bool.true_and, allTo_iff]
  constructor
  · intro h i hi; rw [← he i hi]; exact h i hi
  · intro h i hi; rw [he i hi]; exact h i hi
theorem idl_eq {r : List Nd} (hv : rvB r = true) (h3 : 3 ≤ r.length) : idlB r = allTo (knB r) r.length := by rw [idlB, hv, idl_kn hv h3]; simp [h3]


end Go.Proofs.Ytfmodgongdochaa
