/- Drawing rings that are often not safe. -/
import Derived.Test.YtfhjmfcdogpbeaaDrawR2
namespace Go.Proofs.Ytfhjmfcdogpbeaa
open Go.RowKit
set_option linter.unusedVariables false

section
variable {w : World} {lo hi N k : Nat} {r : List Nd} {F : Nat → Nat}
theorem own_pos_set (h : RingOwn w lo hi N r F) (hk : k < r.length) (x : Int) : RingOwn (w.setCell ⟨N, k * 3, none⟩ (.int .i64 x)) lo hi N (r.set k ⟨x, (gn r k).bef, (gn r k).aft⟩) F := by
  obtain ⟨cs, hb, hc⟩ := h.row
  have hl : (r.set k ⟨x, (gn r k).bef, (gn r k).aft⟩).length = r.length := by simp
  refine ⟨⟨_, heap_set _ _ _ _ hb, fun i hi => ?_⟩, fun i hi => ?_, h.inN, fun i hi => h.inF i (by rw [hl] at hi; exact hi), fun i j hi hj => h.inj i j (by rw [hl] at hi; exact hi) (by rw [hl] at hj; exact hj)⟩
  · rw [hl] at hi
    rw [gn_set hi]
    by_cases e : i = k
    · subst e
      obtain ⟨c0, c1, c, c2, c3⟩ := hc i hi
      have z2 : i * 3 + 2 < cs.size := (Array.getElem?_eq_some_iff.1 c2).1
      rw [if_pos rfl]
      exact ⟨by rw [Array.getElem?_setIfInBounds_self_of_lt (by omega)], by rw [Array.getElem?_setIfInBounds_ne (by omega)]; exact c1, c, by rw [Array.getElem?_setIfInBounds_ne (by omega)]; exact c2, c3⟩
    · rw [if_neg e]; exact nd_keep (d := 0) (hc i hi) e (by omega)
  · rw [hl] at hi
    have := (h.inn i hi).kept (heap_set_ne w N (k * 3) (F i) (.int .i64 x) (h.inF i hi).2.2)
    rw [gn_set hi]; split
    · rename_i e; subst e; exact this
    · exact this
theorem own_bef_set (h : RingOwn w lo hi N r F) (hk : k < r.length) (x : Int) : RingOwn (w.setCell ⟨N, k * 3 + 1, none⟩ (.int .i64 x)) lo hi N (r.set k ⟨(gn r k).pos, x, (gn r k).aft⟩) F := by
  obtain ⟨cs, hb, hc⟩ := h.row
  have hl : (r.set k ⟨(gn r k).pos, x, (gn r k).aft⟩).length = r.length := by simp
  refine ⟨⟨_, heap_set _ _ _ _ hb, fun i hi => ?_⟩, fun i hi => ?_, h.inN, fun i hi => h.inF i (by rw [hl] at hi; exact hi), fun i j hi hj => h.inj i j (by rw [hl] at hi; exact hi) (by rw [hl] at hj; exact hj)⟩
  · rw [hl] at hi
    rw [gn_set hi]
    by_cases e : i = k
    · subst e
      obtain ⟨c0, c1, c, c2, c3⟩ := hc i hi
      have z2 : i * 3 + 2 < cs.size := (Array.getElem?_eq_some_iff.1 c2).1
      rw [if_pos rfl]
      exact ⟨by rw [Array.getElem?_setIfInBounds_ne (by omega)]; exact c0, by rw [Array.getElem?_setIfInBounds_self_of_lt (by omega)], c, by rw [Array.getElem?_setIfInBounds_ne (by omega)]; exact c2, c3⟩
    · rw [if_neg e]; exact nd_keep (hc i hi) e (by omega)
  · rw [hl] at hi
    have := (h.inn i hi).kept (heap_set_ne w N (k * 3 + 1) (F i) (.int .i64 x) (h.inF i hi).2.2)
    rw [gn_set hi]; split
    · rename_i e; subst e; exact this
    · exact this
theorem own_aft_cut (h : RingOwn w lo hi N r F) (hk : k < r.length) (m c : Nat) (hm : m ≤ (gn r k).aft.length) (hc1 : m ≤ c) (hc2 : c ≤ maxLen) : RingOwn (w.setCell ⟨N, k * 3 + 2, none⟩ (.slice (some ⟨F k, 0, none⟩) m c)) lo hi N (r.set k ⟨(gn r k).pos, (gn r k).bef, (gn r k).aft.take m⟩) F := by
  obtain ⟨cs, hb, hc⟩ := h.row
  have hl : (r.set k ⟨(gn r k).pos, (gn r k).bef, (gn r k).aft.take m⟩).length = r.length := by simp
  have hml : ((gn r k).aft.take m).length = m := by simp; omega
  refine ⟨⟨_, heap_set _ _ _ _ hb, fun i hi => ?_⟩, fun i hi => ?_, h.inN, fun i hi => h.inF i (by rw [hl] at hi; exact hi), fun i j hi hj => h.inj i j (by rw [hl] at hi; exact hi) (by rw [hl] at hj; exact hj)⟩
  · rw [hl] at hi
    rw [gn_set hi]
    by_cases e : i = k
    · subst e
      obtain ⟨c0, c1, c', c2, c3⟩ := hc i hi
      have z2 : i * 3 + 2 < cs.size := (Array.getElem?_eq_some_iff.1 c2).1
      rw [if_pos rfl]
      exact ⟨by rw [Array.getElem?_setIfInBounds_ne (by omega)]; exact c0, by rw [Array.getElem?_setIfInBounds_ne (by omega)]; exact c1, c, by rw [Array.getElem?_setIfInBounds_self_of_lt (by omega), hml], by rw [hml]; exact hc1, hc2⟩
    · rw [if_neg e]; exact nd_keep (hc i hi) e (by omega)
  · rw [hl] at hi
    have := (h.inn i hi).kept (heap_set_ne w N (k * 3 + 2) (F i) (.slice (some ⟨F k, 0, none⟩) m c) (h.inF i hi).2.2)
    rw [gn_set hi]; split
    · rename_i e; subst e
      obtain ⟨ds, hd, hdc⟩ := this
      refine ⟨ds, hd, fun j hj => ?_⟩
      rw [hml] at hj
      rw [hdc j (by omega)]
      have : gt ((gn r i).aft.take m) j = gt (gn r i).aft j := by simp [gt, hj]
      rw [this]
    · exact this
theorem own_inner (h : RingOwn w lo hi N r F) (hk : k < r.length) (p : Nat) (z : Int) (hp : p < (gn r k).aft.length) : RingOwn (w.setCell ⟨F k, p, none⟩ (.int .i64 z)) lo hi N (r.set k ⟨(gn r k).pos, (gn r k).bef, (gn r k).aft.set p z⟩) F := by
  obtain ⟨cs, hb, hc⟩ := h.row
  have hl : (r.set k ⟨(gn r k).pos, (gn r k).bef, (gn r k).aft.set p z⟩).length = r.length := by simp
  have hFk := h.inF k hk
  refine ⟨⟨cs, (heap_set_ne _ _ _ _ _ (Ne.symm hFk.2.2)).trans hb, fun i hi => ?_⟩, fun i hi => ?_, h.inN, fun i hi => h.inF i (by rw [hl] at hi; exact hi), fun i j hi hj => h.inj i j (by rw [hl] at hi; exact hi) (by rw [hl] at hj; exact hj)⟩
  · rw [hl] at hi
    rw [gn_set hi]
    by_cases e : i = k
    · subst e
      obtain ⟨c0, c1, c', c2, c3⟩ := hc i hi
      rw [if_pos rfl]
      exact ⟨c0, c1, c', by rw [List.length_set]; exact c2, by rw [List.length_set]; exact c3⟩
    · rw [if_neg e]; exact hc i hi
  · rw [hl] at hi
    rw [gn_set hi]
    by_cases e : i = k
    · subst e
      rw [if_pos rfl]
      obtain ⟨ds, hd, hdc⟩ := h.inn i hi
      refine ⟨_, heap_set _ _ _ _ hd, fun j hj => ?_⟩
      rw [List.length_set] at hj
      have hz : p < ds.size := (Array.getElem?_eq_some_iff.1 (hdc p hp)).1
      by_cases ej : j = p
      · subst ej
        rw [Array.getElem?_setIfInBounds_self_of_lt hz]
        rw [gt_get (by simpa using hj)]; simp
      · rw [Array.getElem?_setIfInBounds_ne (Ne.symm ej), hdc j hj]
        rw [gt_get hj, gt_get (by simpa using hj)]; simp [Ne.symm ej]
    · rw [if_neg e]
      exact (h.inn i hi).kept (heap_set_ne _ _ _ _ _ (fun e' => e (h.inj i k hi hk e')))
end
/-- what drawing a spoilt ring leaves -/
def Spoilt (q K : Nat) (w : World) (e : Ending) (w' : World) : Prop :=
  ∃ N cap F r, e = .returned (.slice (some ⟨N, 0, none⟩) r.length cap) ∧ RingOwn w' w.heap.size w'.heap.size N r F ∧ r.length ≤ cap ∧ cap ≤ maxLen ∧ r.length ≤ 10 ∧ Ready w' q K ∧ w.grownBy w' (some q)
end Go.Proofs.Ytfhjmfcdogpbeaa
