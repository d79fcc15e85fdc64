/- The model's RingNew makes a ring in blocks of its own; the ideal ring of valid nodes is safe. -/
import Derived.Test.YtfhjmfcdogpbeaaJoinS
import Derived.Test.YtfhjmfcdogpbeaaGood2
namespace Go.Proofs.Ytfhjmfcdogpbeaa
open Go.RowKit
set_option linter.unusedVariables false

theorem asc_lt {zs : List Int} (h : AscP zs) : ∀ {i j : Nat}, i < j → j < zs.length → gt zs i < gt zs j := by
  intro i j hij hj
  induction j with
  | zero => omega
  | succ j ih =>
    have := h.2 j hj
    rcases Nat.lt_or_ge i j with h3 | h3
    · have := ih h3 (by omega); omega
    · rw [show i = j by omega]; exact this
theorem ideal_rv {zs : List Int} (h : AscP zs) (h3 : 3 ≤ zs.length) (h10 : zs.length ≤ 10) : rvB (idR zs) = true := by
  have hp : 0 < zs.length := by omega
  refine (rv_iff _).2 ⟨by rw [idR_len]; exact h10, fun k hk => ?_⟩
  rw [idR_len] at hk
  refine ⟨?_, ?_⟩
  · rw [idR_at hk]
    exact (ndB_iff _).2 ⟨h.1 k hk, .inr (h.1 _ (Nat.mod_lt _ hp)), _, _, rfl, h.1 _ (Nat.mod_lt _ hp), h.1 _ (Nat.mod_lt _ hp)⟩
  · by_cases h0 : k = 0
    · exact .inl h0
    · refine .inr ?_
      rw [idR_at hk, idR_at (by omega)]
      show gt zs (k - 1) < gt zs k
      exact asc_lt h (by omega) hk
/-- between two neighbours there is no node -/
theorem none_between {zs : List Int} (h : AscP zs) {i j : Nat} (hi : i < zs.length) (hj : j < zs.length) : btwI (gt zs i) (gt zs j) (gt zs ((i + 1) % zs.length)) = false := by
  rw [← Bool.not_eq_true, btwI_iff]
  by_cases hl : i + 1 < zs.length
  · rw [Nat.mod_eq_of_lt hl]
    have h1 := asc_lt h (show i < i + 1 by omega) hl
    rcases Nat.lt_trichotomy j i with a | a | a
    · have := asc_lt h a hi; omega
    · subst a; omega
    · rcases Nat.lt_trichotomy j (i + 1) with b | b | b
      · omega
      · subst b; omega
      · have := asc_lt h b hj; omega
  · have e : (i + 1) % zs.length = 0 := by rw [show i + 1 = zs.length by omega]; exact Nat.mod_self _
    rw [e]
    have h1 : gt zs 0 ≤ gt zs j := by
      rcases Nat.eq_zero_or_pos j with a | a
      · subst a; omega
      · have := asc_lt h a hj; omega
    have h2 : gt zs j ≤ gt zs i := by
      rcases Nat.lt_or_ge j i with a | a
      · have := asc_lt h a hi; omega
      · rw [show j = i by omega]; exact Int.le_refl _
    by_cases e0 : zs.length = 1
    · omega
    · have := asc_lt h (show 0 < i by omega) hi; omega
theorem ideal_safe {zs : List Int} (h : AscP zs) (h3 : 3 ≤ zs.length) (h10 : zs.length ≤ 10) : safeB (idR zs) = true ∧ (prL (idR zs)).length = zs.length := by
  have hv := ideal_rv h h3 h10
  have hp : 0 < zs.length := by omega
  have hl := idR_len zs
  have hpos : ∀ i, i < zs.length → (gn (idR zs) i).pos = gt zs i := fun i hi => by rw [idR_at hi]; rfl
  have hlive : ∀ i, i < zs.length → liveB (idR zs) (gt zs i) = true := fun i hi => (live_iff _ _).2 ⟨i, by rw [hl]; exact hi, hpos i hi⟩
  have hno : ∀ j, j < zs.length → skdB (idR zs) (gt zs j) = false := fun j hj => by
    refine (skd_no _ _).2 fun k hk => ?_
    rw [hl] at hk
    rw [idR_at hk, skB]
    have e1 : gt (idNd zs k).aft 0 = gt zs ((k + 1) % zs.length) := rfl
    have e2 : gt (idNd zs k).aft 1 = gt zs ((k + 2) % zs.length) := rfl
    have e3 : (k + 2) % zs.length = ((k + 1) % zs.length + 1) % zs.length := by rw [Nat.mod_add_mod]
    rw [e1, e2, e3]
    show (btwI (gt zs k) (gt zs j) _ || _) = false
    rw [none_between h hk hj, none_between h (Nat.mod_lt _ hp) hj]; rfl
  have hpr : ∀ k, k ≤ zs.length → (prTo (idR zs) k).length = k := by
    intro k hk
    induction k with
    | zero => rfl
    | succ k ih =>
      rw [prTo, hpos k (by omega), hno k (by omega)]
      simp [ih (by omega)]
  have hlen : (prL (idR zs)).length = zs.length := by rw [prL, hl]; exact hpr _ (Nat.le_refl _)
  refine ⟨(safe_iff _).2 ⟨hv, fun k hk => ?_, by omega⟩, hlen⟩
  rw [hl] at hk
  rw [idR_at hk]
  have : liveB (idR zs) (gt (idNd zs k).aft 0) = true := hlive _ (Nat.mod_lt _ hp)
  unfold lsB; rw [this]; rfl
theorem asc_vld {zs : List Int} (h : AscP zs) (h1 : 1 ≤ zs.length) (h10 : zs.length ≤ 10) : vldB zs = true := by
  refine vld_yes h1 h10 ?_
  have key : ∀ k, k ≤ zs.length → ascTo zs k = true := by
    intro k hk
    induction k with
    | zero => rfl
    | succ k ih =>
      have hp := h.1 k (by omega)
      have hpt : ptB (gt zs k) = true := (ptB_iff _).2 hp
      rcases Nat.eq_zero_or_pos k with e | e
      · subst e; exact ok_zero hpt
      · obtain ⟨j, rfl⟩ : ∃ j, k = j + 1 := ⟨k - 1, by omega⟩
        exact ok_succ (ih (by omega)) hpt (h.2 j (by omega))
  exact key _ (Nat.le_refl _)
end Go.Proofs.Ytfhjmfcdogpbeaa
