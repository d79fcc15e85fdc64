/- Ascending nodes: the node before a node, the node next to a key. -/
import Derived.Test.YtpmnfgladfmffaaMA
namespace Go.Proofs.Ytpmnfgladfmffaa
set_option linter.unusedVariables false

theorem asc_step {zs : List Int} {n j : Nat} (h : ascTo zs n = true) (hj : j + 1 < n) : gt zs j < gt zs (j + 1) := by
  have := asc_ok hj h
  simp only [okAt, Nat.add_sub_cancel, Bool.and_eq_true, Bool.or_eq_true, decide_eq_true_eq] at this
  rcases this.2 with h' | h'
  · omega
  · exact h'
theorem asc_lt {zs : List Int} {n i j : Nat} (h : ascTo zs n = true) (hij : i < j) (hj : j < n) : gt zs i < gt zs j := by
  induction j with
  | zero => omega
  | succ j ih =>
    have h1 := asc_step h hj
    rcases Nat.lt_or_ge i j with h' | h'
    · have := ih h' (by omega); omega
    · have : i = j := by omega
      subst this; exact h1
theorem asc_pt {zs : List Int} {n j : Nat} (h : ascTo zs n = true) (hj : j < n) : ptB (gt zs j) = true := by
  have := asc_ok hj h
  simp only [okAt, Bool.and_eq_true] at this
  exact this.1

theorem noneFrom_of {zs : List Int} {key : Int} (m : Nat) (hm : m ≤ zs.length) (h : ∀ j, m ≤ j → j < zs.length → ¬ gt zs j < key) : NoneFrom zs key m := by
  have key' : ∀ d, d ≤ zs.length - m → NoneFrom zs key (zs.length - d) := by
    intro d
    induction d with
    | zero => intro _; exact noneFrom_len _ _
    | succ d ih =>
      intro hd
      have h1 := ih (by omega)
      rw [show zs.length - d = (zs.length - (d + 1)) + 1 by omega] at h1
      exact noneFrom_down h1 (h _ (by omega) (by omega))
  have := key' (zs.length - m) (Nat.le_refl _)
  rw [show zs.length - (zs.length - m) = m by omega] at this
  exact this

theorem bef_node_zero {zs : List Int} (h : ascTo zs zs.length = true) (h0 : 0 < zs.length) : befL zs (gt zs 0) = gt zs (zs.length - 1) :=
  bef_none (noneFrom_of 0 (by omega) (fun j _ hj => by
    rcases Nat.eq_zero_or_pos j with e | e
    · subst e; omega
    · have := asc_lt h e hj; omega))
theorem bef_node_succ {zs : List Int} {i : Nat} (h : ascTo zs zs.length = true) (hi : i + 1 < zs.length) : befL zs (gt zs (i + 1)) = gt zs i :=
  bef_at (noneFrom_of (i + 1) (by omega) (fun j hj hj' => by
    rcases Nat.eq_or_lt_of_le hj with e | e
    · subst e; omega
    · have := asc_lt h e hj'; omega)) (asc_step h hi)

/-- the next node is at some place -/
theorem nxt_cases (zs : List Int) (key : Int) (h0 : 0 < zs.length) :
    (∃ j, j < zs.length ∧ NoneTo zs key j ∧ key ≤ gt zs j ∧ nxtL zs key = gt zs j) ∨ (NoneTo zs key zs.length ∧ nxtL zs key = gt zs 0) := by
  have : ∀ m, m ≤ zs.length → (∃ j, j < m ∧ NoneTo zs key j ∧ key ≤ gt zs j) ∨ NoneTo zs key m := by
    intro m
    induction m with
    | zero => intro _; exact .inr (noneTo_zero _ _)
    | succ m ih =>
      intro hm
      rcases ih (by omega) with ⟨j, hj, h1, h2⟩ | h'
      · exact .inl ⟨j, by omega, h1, h2⟩
      · by_cases hk : gt zs m < key
        · exact .inr (noneTo_succ h' hk)
        · exact .inl ⟨m, by omega, h', by omega⟩
  rcases this zs.length (Nat.le_refl _) with ⟨j, hj, h1, h2⟩ | h'
  · exact .inl ⟨j, hj, h1, h2, nxt_at hj h1 h2⟩
  · exact .inr ⟨h', nxt_none h'⟩

theorem next_ok {zs : List Int} {key : Int} {i : Nat} (hv : vldB zs = true) (hk : ptB key = true) (hi : i < zs.length) :
    hldB (befI zs (gt zs i)) (gt zs i) key = (gt zs i == nxtI zs key) := by
  have ha := vld_asc hv
  have hl := vld_len hv
  have pi := asc_pt ha hi
  have e1 : befI zs (gt zs i) = befL zs (gt zs i) := by simp [befI, hv, pi]
  have e2 : nxtI zs key = nxtL zs key := by simp [nxtI, hv, hk]
  rw [e1, e2]
  have k1 := (ptB_iff key).1 hk
  have i1 := (ptB_iff _).1 pi
  have hlast : ∀ j, j < zs.length → gt zs j ≤ gt zs (zs.length - 1) := by
    intro j hj
    rcases Nat.lt_or_ge j (zs.length - 1) with h' | h'
    · have := asc_lt ha h' (by omega); omega
    · have : j = zs.length - 1 := by omega
      subst this; omega
  have hfirst : ∀ j, j < zs.length → gt zs 0 ≤ gt zs j := by
    intro j hj
    rcases Nat.eq_zero_or_pos j with e | e
    · subst e; omega
    · have := asc_lt ha e hj; omega
  rcases i with _ | i
  · rw [bef_node_zero ha (by omega)]
    have pl := asc_pt (j := zs.length - 1) ha (by omega)
    have l1 := (ptB_iff _).1 pl
    have hb : hldB (gt zs (zs.length - 1)) (gt zs 0) key = hldI (gt zs (zs.length - 1)) (gt zs 0) key := by simp [hldB, pl, pi, hk]
    rw [hb, Bool.eq_iff_iff, beq_iff_eq]
    unfold hldI
    rw [decide_eq_true_eq]
    have hle := hfirst (zs.length - 1) (by omega)
    rcases nxt_cases zs key (by omega) with ⟨j, hj, h1, h2, h3⟩ | ⟨h1, h3⟩
    · rw [h3]
      rcases Nat.eq_zero_or_pos j with e | e
      · subst e; omega
      · have hj0 := asc_lt ha e hj
        have hj1 := hlast j hj
        have := h1 0 e
        omega
    · rw [h3]
      have := h1 (zs.length - 1) (by omega)
      omega
  · rw [bef_node_succ ha hi]
    have pl := asc_pt (j := i) ha (by omega)
    have l1 := (ptB_iff _).1 pl
    have hs := asc_step ha hi
    have hb : hldB (gt zs i) (gt zs (i + 1)) key = hldI (gt zs i) (gt zs (i + 1)) key := by simp [hldB, pl, pi, hk]
    rw [hb, Bool.eq_iff_iff, beq_iff_eq]
    unfold hldI
    rw [decide_eq_true_eq]
    rcases nxt_cases zs key (by omega) with ⟨j, hj, h1, h2, h3⟩ | ⟨h1, h3⟩
    · rw [h3]
      rcases Nat.lt_trichotomy j (i + 1) with e | e | e
      · have hji := asc_lt ha e hi
        have : gt zs j ≤ gt zs i := by
          rcases Nat.lt_or_ge j i with h' | h'
          · have := asc_lt ha h' (by omega); omega
          · have : j = i := by omega
            subst this; omega
        omega
      · subst e
        have := h1 i (by omega)
        omega
      · have hji := asc_lt ha e hj
        have := h1 (i + 1) e
        omega
    · rw [h3]
      have := h1 (i + 1) hi
      have := asc_lt ha (show 0 < i + 1 by omega) hi
      omega

theorem nxt_has {zs : List Int} {key : Int} (h0 : 0 < zs.length) : hasB zs (nxtL zs key) = true := by
  rcases nxt_cases zs key h0 with ⟨j, hj, _, _, h3⟩ | ⟨_, h3⟩
  · exact has_at hj h3.symm
  · exact has_at h0 h3.symm

theorem nxtI_nonneg {zs : List Int} {key : Int} (h : 0 ≤ nxtI zs key) : vldB zs = true ∧ ptB key = true := by
  unfold nxtI at h
  cases h1 : vldB zs <;> cases h2 : ptB key <;> simp [h1, h2] at h ⊢
theorem befI_nonneg {zs : List Int} {key : Int} (h : 0 ≤ befI zs key) : vldB zs = true ∧ ptB key = true := by
  unfold befI at h
  cases h1 : vldB zs <;> cases h2 : ptB key <;> simp [h1, h2] at h ⊢
theorem nxtI_eq {zs : List Int} {key : Int} (h1 : vldB zs = true) (h2 : ptB key = true) : nxtI zs key = nxtL zs key := by simp [nxtI, h1, h2]
theorem befI_eq {zs : List Int} {key : Int} (h1 : vldB zs = true) (h2 : ptB key = true) : befI zs key = befL zs key := by simp [befI, h1, h2]

/-- the node before a key is at some place -/
theorem bef_cases (zs : List Int) (key : Int) (h0 : 0 < zs.length) :
    (∃ m, m < zs.length ∧ gt zs m < key ∧ (∀ j, m < j → j < zs.length → ¬ gt zs j < key) ∧ befL zs key = gt zs m) ∨ ((∀ j, j < zs.length → ¬ gt zs j < key) ∧ befL zs key = gt zs (zs.length - 1)) := by
  have : ∀ d, d ≤ zs.length → (∃ m, zs.length - d ≤ m ∧ m < zs.length ∧ gt zs m < key ∧ ∀ j, m < j → j < zs.length → ¬ gt zs j < key) ∨ (∀ j, zs.length - d ≤ j → j < zs.length → ¬ gt zs j < key) := by
    intro d
    induction d with
    | zero => intro _; exact .inr (fun j h1 h2 => by omega)
    | succ d ih =>
      intro hd
      rcases ih (by omega) with ⟨m, h1, h2, h3, h4⟩ | h'
      · exact .inl ⟨m, by omega, h2, h3, h4⟩
      · by_cases hk : gt zs (zs.length - (d + 1)) < key
        · exact .inl ⟨zs.length - (d + 1), Nat.le_refl _, by omega, hk, fun j h1 h2 => h' j (by omega) h2⟩
        · refine .inr (fun j h1 h2 => ?_)
          rcases Nat.eq_or_lt_of_le h1 with e | e
          · rw [← e]; exact hk
          · exact h' j (by omega) h2
  rcases this zs.length (Nat.le_refl _) with ⟨m, _, h2, h3, h4⟩ | h'
  · exact .inl ⟨m, h2, h3, h4, bef_at (noneFrom_of (m + 1) (by omega) (fun j h1 h2 => h4 j (by omega) h2)) h3⟩
  · exact .inr ⟨fun j hj => h' j (by omega) hj, bef_none (noneFrom_of 0 (by omega) (fun j _ hj => h' j (by omega) hj))⟩

theorem bef_has {zs : List Int} {key : Int} (h0 : 0 < zs.length) : hasB zs (befL zs key) = true := by
  rcases bef_cases zs key h0 with ⟨m, hm, _, _, h3⟩ | ⟨_, h3⟩
  · exact has_at hm h3.symm
  · exact has_at (by omega) h3.symm

theorem bef_between {zs : List Int} {key : Int} {i : Nat} (hv : vldB zs = true) (hk : ptB key = true) (hi : i < zs.length) (hne : ¬ befL zs key = key) :
    btwB (befL zs key) (gt zs i) key = false := by
  have ha := vld_asc hv
  have h : btwI (befL zs key) (gt zs i) key = false := by
    unfold btwI
    rw [decide_eq_false_iff_not]
    have hlast : ∀ j, j < zs.length → gt zs j ≤ gt zs (zs.length - 1) := by
      intro j hj
      rcases Nat.lt_or_ge j (zs.length - 1) with h' | h'
      · have := asc_lt ha h' (by omega); omega
      · have : j = zs.length - 1 := by omega
        subst this; omega
    rcases bef_cases zs key (by omega) with ⟨m, hm, h1, h2, h3⟩ | ⟨h1, h3⟩
    · rw [h3]
      rcases Nat.lt_or_ge m i with e | e
      · have := h2 i e hi; omega
      · have : gt zs i ≤ gt zs m := by
          rcases Nat.eq_or_lt_of_le e with e' | e'
          · subst e'; omega
          · have := asc_lt ha e' hm; omega
        omega
    · rw [h3] at hne ⊢
      have h4 := h1 i hi
      have h5 := hlast i hi
      have h6 := h1 (zs.length - 1) (by omega)
      omega
  simp [btwB, h]
theorem bef_self {zs : List Int} {key : Int} (hv : vldB zs = true) (h : befL zs key = key) : zs.length = 1 := by
  have ha := vld_asc hv
  have hl := vld_len hv
  rcases bef_cases zs key (by omega) with ⟨m, hm, h1, h2, h3⟩ | ⟨h1, h3⟩
  · omega
  · rcases Nat.lt_or_ge 1 zs.length with e | e
    · have := asc_lt ha (show 0 < zs.length - 1 by omega) (by omega)
      have := h1 0 (by omega)
      omega
    · omega
end Go.Proofs.Ytpmnfgladfmffaa
