/- A set of nodes with one node more. -/
import Derived.Test.YtphkpkafhilenaaNodesMath2
import Derived.Test.YtphkpkafhilenaaOwn
namespace Go.Proofs.Ytphkpkafhilenaa
set_option linter.unusedVariables false

/-- the positions below K that are nodes or p -/
def joinTo (zs : List Int) (p : Int) : Nat → List Int
  | 0 => []
  | k + 1 => if hasB zs (k : Int) || ((k : Int) == p) then joinTo zs p k ++ [(k : Int)] else joinTo zs p k

theorem joinTo_len (zs : List Int) (p : Int) (k : Nat) : (joinTo zs p k).length ≤ k := by
  induction k with
  | zero => simp [joinTo]
  | succ k ih =>
    rw [joinTo]; split
    · simp; exact ih
    · omega
theorem mem_joinTo {zs : List Int} {p x : Int} {k : Nat} : x ∈ joinTo zs p k ↔ 0 ≤ x ∧ x < k ∧ (x ∈ zs ∨ x = p) := by
  induction k with
  | zero => simp [joinTo]; omega
  | succ k ih =>
    rw [joinTo]
    by_cases h : (hasB zs (k : Int) || ((k : Int) == p)) = true
    · rw [if_pos h, List.mem_append, ih, List.mem_singleton]
      rw [Bool.or_eq_true, hasB_iff, beq_iff_eq] at h
      constructor
      · rintro (⟨h1, h2, h3⟩ | rfl)
        · exact ⟨h1, by omega, h3⟩
        · exact ⟨by omega, by omega, h⟩
      · rintro ⟨h1, h2, h3⟩
        by_cases e : x = k
        · exact .inr e
        · exact .inl ⟨h1, by omega, h3⟩
    · rw [if_neg h, ih]
      rw [Bool.or_eq_true, hasB_iff, beq_iff_eq] at h
      constructor
      · rintro ⟨h1, h2, h3⟩; exact ⟨h1, by omega, h3⟩
      · rintro ⟨h1, h2, h3⟩
        by_cases e : x = k
        · subst e; exact absurd h3 h
        · exact ⟨h1, by omega, h3⟩
theorem joinTo_nodup (zs : List Int) (p : Int) (k : Nat) : (joinTo zs p k).Nodup := by
  induction k with
  | zero => simp [joinTo]
  | succ k ih =>
    rw [joinTo]; split
    · rw [List.nodup_append]
      refine ⟨ih, by simp, fun a ha b hb => ?_⟩
      rw [List.mem_singleton] at hb
      have := (mem_joinTo.1 ha).2.1
      omega
    · exact ih
theorem ascTo_congr {l l' : List Int} {k : Nat} (h : ∀ i, i < k → gt l i = gt l' i) : ascTo l k = ascTo l' k := by
  induction k with
  | zero => rfl
  | succ k ih =>
    rw [ascTo, ascTo, ih (fun i hi => h i (by omega))]
    unfold okAt
    rw [h k (by omega)]
    rcases Nat.eq_zero_or_pos k with e | e
    · subst e; simp
    · rw [h (k - 1) (by omega)]
theorem gt_append_lt {l : List Int} {x : Int} {i : Nat} (h : i < l.length) : gt (l ++ [x]) i = gt l i := by
  rw [gt_get h, gt_get (by simp; omega)]; simp [h]
theorem gt_append_eq {l : List Int} {x : Int} : gt (l ++ [x]) l.length = x := by
  rw [gt_get (by simp)]; simp
theorem asc_append {l : List Int} {x : Int} (h : ascTo l l.length = true) (hp : ptB x = true) (hx : ∀ y ∈ l, y < x) : ascTo (l ++ [x]) (l ++ [x]).length = true := by
  rw [List.length_append, List.length_singleton, ascTo, ascTo_congr (l' := l) (fun i hi => gt_append_lt hi), h, Bool.true_and, okAt, gt_append_eq, hp, Bool.true_and]
  rcases Nat.eq_zero_or_pos l.length with e | e
  · simp [e]
  · rw [gt_append_lt (by omega)]
    have : gt l (l.length - 1) < x := hx _ (by rw [gt_get (by omega)]; exact List.getElem_mem _)
    simp [this]
theorem joinTo_asc (zs : List Int) (p : Int) (k : Nat) (hk : k ≤ 64) : ascTo (joinTo zs p k) (joinTo zs p k).length = true := by
  induction k with
  | zero => rfl
  | succ k ih =>
    rw [joinTo]; split
    · refine asc_append (ih (by omega)) ?_ (fun y hy => (mem_joinTo.1 hy).2.1)
      rw [ptB_iff]; omega
    · exact ih (by omega)
theorem join_valid {zs : List Int} {p : Int} (hl : zs.length ≤ 9) (h0 : 0 ≤ p) (h1 : p < 64) : vldB (joinTo zs p 64) = true := by
  have hs := nodup_sub_len _ (p :: zs) (joinTo_nodup zs p 64) (fun x hx => by
    rcases (mem_joinTo.1 hx).2.2 with h | h
    · simp [h]
    · simp [h])
  have hp : p ∈ joinTo zs p 64 := mem_joinTo.2 ⟨h0, by omega, .inr rfl⟩
  have hpos := List.length_pos_of_mem hp
  simp only [List.length_cons] at hs
  simp only [vldB, joinTo_asc zs p 64 (Nat.le_refl _), Bool.and_true, decide_eq_true_eq]
  omega

/-- what the next node is -/
theorem nxt_char {l : List Int} {key : Int} (ha : ascTo l l.length = true) (h0 : 0 < l.length) :
    nxtL l key ∈ l ∧ ((key ≤ nxtL l key ∧ ∀ y ∈ l, key ≤ y → nxtL l key ≤ y) ∨ ((∀ y ∈ l, y < key) ∧ ∀ y ∈ l, nxtL l key ≤ y)) := by
  refine ⟨(hasB_iff _ _).1 (nxt_has h0), ?_⟩
  rcases nxt_cases l key h0 with ⟨j, hj, h1, h2, h3⟩ | ⟨h1, h3⟩
  · refine .inl ⟨by rw [h3]; exact h2, fun y hy hky => ?_⟩
    obtain ⟨i, hi, rfl⟩ := List.getElem_of_mem hy
    rw [← gt_get hi] at hky ⊢
    rw [h3]
    rcases Nat.lt_or_ge i j with e | e
    · have := h1 i e; omega
    · rcases Nat.eq_or_lt_of_le e with e' | e'
      · subst e'; omega
      · have := asc_lt ha e' hi; omega
  · refine .inr ⟨fun y hy => ?_, fun y hy => ?_⟩
    · obtain ⟨i, hi, rfl⟩ := List.getElem_of_mem hy
      have := h1 i hi
      rw [gt_get hi] at this
      exact this
    · obtain ⟨i, hi, rfl⟩ := List.getElem_of_mem hy
      rw [h3, ← gt_get hi]
      rcases Nat.eq_zero_or_pos i with e | e
      · subst e; omega
      · have := asc_lt ha e hi; omega

theorem join_ok {zs : List Int} {p k : Int} (hv : vldB zs = true) (hl : zs.length ≤ 9) (h0 : 0 ≤ p) (h1 : p < 64) (hne : ¬ nxtL (joinTo zs p 64) k = nxtL zs k) :
    nxtL (joinTo zs p 64) k = p ∧ nxtL zs k = nxtL zs p := by
  have ha := vld_asc hv
  have hz := (vld_len hv).1
  have hjv := join_valid (zs := zs) hl h0 h1
  have hja := vld_asc hjv
  have hjl := (vld_len hjv).1
  have hpt : ∀ y ∈ zs, 0 ≤ y ∧ y < 64 := by
    intro y hy
    obtain ⟨i, hi, rfl⟩ := List.getElem_of_mem hy
    have := asc_pt ha hi
    rw [gt_get hi, ptB_iff] at this
    exact this
  have hin : ∀ y ∈ zs, y ∈ joinTo zs p 64 := fun y hy => mem_joinTo.2 ⟨(hpt y hy).1, by have := (hpt y hy).2; omega, .inl hy⟩
  have hpin : p ∈ joinTo zs p 64 := mem_joinTo.2 ⟨h0, by omega, .inr rfl⟩
  obtain ⟨nm, nc⟩ := nxt_char (key := k) hja (by omega)
  obtain ⟨mm, mc⟩ := nxt_char (key := k) ha (by omega)
  obtain ⟨pm, pc⟩ := nxt_char (key := p) ha (by omega)
  generalize nxtL (joinTo zs p 64) k = n at *
  generalize nxtL zs k = m at *
  generalize nxtL zs p = mp at *
  have hnz := (mem_joinTo.1 nm).2.2
  have hm' := hin m mm
  have hmp' := hin mp pm
  rcases hnz with hnz | hnz
  · exfalso
    apply hne
    rcases mc with ⟨a1, a2⟩ | ⟨a1, a2⟩ <;> rcases nc with ⟨b1, b2⟩ | ⟨b1, b2⟩
    · have := b2 m hm' a1; have := a2 n hnz b1; omega
    · have := b1 m hm'; omega
    · have := a1 n hnz; omega
    · have := b2 m hm'; have := a2 n hnz; omega
  · refine ⟨hnz, ?_⟩
    rcases mc with ⟨a1, a2⟩ | ⟨a1, a2⟩ <;> rcases nc with ⟨b1, b2⟩ | ⟨b1, b2⟩ <;> rcases pc with ⟨c1, c2⟩ | ⟨c1, c2⟩
    · have := b2 m hm' a1; have := c2 m mm (by omega); have := a2 mp pm (by omega); omega
    · have := b2 m hm' a1; have := c1 m mm; omega
    · have := b1 m hm'; omega
    · have := b1 m hm'; omega
    · have := a1 mp pm; omega
    · have := a2 mp pm; have := c2 m mm; omega
    · have := b2 m hm'; have := c2 m mm (by omega); have := a2 mp pm; omega
    · have := b2 m hm'; have := c1 m mm; omega
end Go.Proofs.Ytphkpkafhilenaa
