/- What merging leaves (no walk). -/
import Derived.Test.YtoaamamconcieabLsS
namespace Go.Proofs.Ytoaamamconcieab
open Go.RowKit
set_option linter.unusedVariables false

theorem gl_app {Q : List Ls} {y : Ls} {i : Nat} (h : i < Q.length) : gl (Q ++ [y]) i = gl Q i := by
  rw [gl_get (by simp; omega), gl_get h, List.getElem_append_left h]
theorem gl_app_end {Q : List Ls} {y : Ls} : gl (Q ++ [y]) Q.length = y := by
  rw [gl_get (by simp)]; simp
structure MInv (L : List Ls) (k : Nat) (Q : List Ls) : Prop where
  len1 : 1 ≤ Q.length
  lenk : Q.length ≤ k + 1
  last : gl Q (Q.length - 1) = gl L k
  ls : ∀ i, i < Q.length → lzB (gl Q i) = true
  asc : ∀ i, i + 1 < Q.length → (gl Q i).e < (gl Q (i + 1)).e
  ns : ∀ i, i + 1 < Q.length → sameLs (gl Q i) (gl Q (i + 1)) = false
  bd : ∀ i, i < Q.length → (gl Q i).e ≤ (gl L k).e
  lo : ∀ i, i < Q.length → (gl L 0).e ≤ (gl Q i).e
  look : ∀ key, key ≤ (gl L k).e → ∃ j, j < Q.length ∧ (∀ i, i < j → (gl Q i).e < key) ∧ key ≤ (gl Q j).e ∧ (gl Q j).o = (gl L (fdL L key)).o ∧ (gl Q j).u = (gl L (fdL L key)).u
theorem same_iff (x y : Ls) : sameLs x y = true ↔ x.o = y.o ∧ x.u = y.u := by simp [sameLs]
theorem same_l (x y y' : Ls) (h1 : y.o = y'.o) (h2 : y.u = y'.u) : sameLs x y = sameLs x y' := by unfold sameLs; rw [h1, h2]
theorem mg_inv {L : List Ls} (hv : lvB L = true) : ∀ k, k < L.length → MInv L k (mgS L (k + 1)) := by
  intro k
  induction k with
  | zero =>
    intro h0
    have e : mgS L 1 = [gl L 0] := rfl
    rw [e]
    have g0 : gl [gl L 0] 0 = gl L 0 := rfl
    refine ⟨by simp, by simp, g0, fun i hi => ?_, fun i hi => by simp at hi, fun i hi => by simp at hi, fun i hi => ?_, fun i hi => ?_, fun key hk => ⟨0, by simp, fun i hi => by omega, by rw [g0]; exact hk, ?_, ?_⟩⟩
    · obtain rfl : i = 0 := by simp at hi; exact hi
      rw [g0]; exact lv_ls hv h0
    · obtain rfl : i = 0 := by simp at hi; exact hi
      rw [g0]; exact Int.le_refl _
    · obtain rfl : i = 0 := by simp at hi; exact hi
      rw [g0]; exact Int.le_refl _
    all_goals
      have ef : fdL L key = 0 := fd_eq (by omega) (fun i hi => by omega) (fun _ => hk)
      rw [g0, ef]
  | succ k ih =>
    intro hk1
    have I := ih (by omega)
    have hx := lv_step hv hk1
    have h0k : (gl L 0).e ≤ (gl L (k + 1)).e := by
      have := lv_lt hv (i := 0) (j := k + 1) (by omega) hk1; omega
    have hfd : ∀ key, (gl L k).e < key → key ≤ (gl L (k + 1)).e → fdL L key = k + 1 := fun key h1 h2 => fd_eq (by omega) (fun i hi => by
      rcases Nat.lt_or_ge i k with h' | h'
      · have := lv_lt hv h' (by omega); omega
      · obtain rfl : i = k := by omega
        exact h1) (fun _ => h2)
    have hl := mgS_lenS L k
    have hz := I.len1
    cases hs : sameLs (gl L k) (gl L (k + 1))
    · rw [mgS_diff hs]
      have gl' : ∀ i, i < (mgS L (k + 1)).length → gl (mgS L (k + 1) ++ [gl L (k + 1)]) i = gl (mgS L (k + 1)) i := fun i hi => gl_app hi
      have ge : gl (mgS L (k + 1) ++ [gl L (k + 1)]) (mgS L (k + 1)).length = gl L (k + 1) := gl_app_end
      have hL : (mgS L (k + 1) ++ [gl L (k + 1)]).length = (mgS L (k + 1)).length + 1 := by simp
      have hlk := I.lenk
      refine ⟨by omega, by omega, by rw [hL, Nat.add_sub_cancel]; exact ge, fun i hi => ?_, fun i hi => ?_, fun i hi => ?_, fun i hi => ?_, fun i hi => ?_, fun key hk => ?_⟩
      · rcases Nat.lt_or_ge i (mgS L (k + 1)).length with h' | h'
        · rw [gl' i h']; exact I.ls i h'
        · obtain rfl : i = (mgS L (k + 1)).length := by omega
          rw [ge]; exact lv_ls hv hk1
      · rcases Nat.lt_or_ge (i + 1) (mgS L (k + 1)).length with h' | h'
        · rw [gl' i (by omega), gl' (i + 1) h']; exact I.asc i h'
        · obtain he : i + 1 = (mgS L (k + 1)).length := by omega
          rw [gl' i (by omega), he, ge]; have := I.bd i (by omega); omega
      · rcases Nat.lt_or_ge (i + 1) (mgS L (k + 1)).length with h' | h'
        · rw [gl' i (by omega), gl' (i + 1) h']; exact I.ns i h'
        · obtain he : i + 1 = (mgS L (k + 1)).length := by omega
          have h2 := I.last
          rw [← he, Nat.add_sub_cancel] at h2
          rw [gl' i (by omega), he, ge, h2]; exact hs
      · rcases Nat.lt_or_ge i (mgS L (k + 1)).length with h' | h'
        · rw [gl' i h']; have := I.bd i h'; omega
        · obtain rfl : i = (mgS L (k + 1)).length := by omega
          rw [ge]; exact Int.le_refl _
      · rcases Nat.lt_or_ge i (mgS L (k + 1)).length with h' | h'
        · rw [gl' i h']; exact I.lo i h'
        · obtain rfl : i = (mgS L (k + 1)).length := by omega
          rw [ge]; exact h0k
      · by_cases hc : key ≤ (gl L k).e
        · obtain ⟨j, h1, h2, h3, h4, h5⟩ := I.look key hc
          exact ⟨j, by omega, fun i hi => by rw [gl' i (by omega)]; exact h2 i hi, by rw [gl' j h1]; exact h3, by rw [gl' j h1]; exact h4, by rw [gl' j h1]; exact h5⟩
        · have ef := hfd key (by omega) hk
          exact ⟨(mgS L (k + 1)).length, by omega, fun i hi => by rw [gl' i hi]; have := I.bd i hi; omega, by rw [ge]; exact hk, by rw [ge, ef], by rw [ge, ef]⟩
    · rw [mgS_same hs]
      obtain ⟨so, su⟩ := (same_iff _ _).1 hs
      have hy : (⟨(gl L (k + 1)).e, (gl L k).o, (gl L k).u⟩ : Ls) = gl L (k + 1) := by rw [so, su]
      rw [hy]
      have hl2 : (mgTo L k).length = (mgS L (k + 1)).length - 1 := by omega
      rw [hl2]
      have gn : ∀ i, i < (mgS L (k + 1)).length - 1 → gl ((mgS L (k + 1)).set ((mgS L (k + 1)).length - 1) (gl L (k + 1))) i = gl (mgS L (k + 1)) i := fun i hi => gl_set_ne _ (by omega)
      have ge : gl ((mgS L (k + 1)).set ((mgS L (k + 1)).length - 1) (gl L (k + 1))) ((mgS L (k + 1)).length - 1) = gl L (k + 1) := gl_set_eq _ (by omega)
      have hL : ((mgS L (k + 1)).set ((mgS L (k + 1)).length - 1) (gl L (k + 1))).length = (mgS L (k + 1)).length := List.length_set
      have hlk := I.lenk
      have hla := I.last
      refine ⟨by omega, by omega, by rw [hL]; exact ge, fun i hi => ?_, fun i hi => ?_, fun i hi => ?_, fun i hi => ?_, fun i hi => ?_, fun key hk => ?_⟩
      · rcases Nat.lt_or_ge i ((mgS L (k + 1)).length - 1) with h' | h'
        · rw [gn i h']; exact I.ls i (by omega)
        · obtain rfl : i = (mgS L (k + 1)).length - 1 := by omega
          rw [ge]; exact lv_ls hv hk1
      · rcases Nat.lt_or_ge (i + 1) ((mgS L (k + 1)).length - 1) with h' | h'
        · rw [gn i (by omega), gn (i + 1) h']; exact I.asc i (by omega)
        · obtain he : i + 1 = (mgS L (k + 1)).length - 1 := by omega
          rw [gn i (by omega), he, ge]; have := I.bd i (by omega); omega
      · rcases Nat.lt_or_ge (i + 1) ((mgS L (k + 1)).length - 1) with h' | h'
        · rw [gn i (by omega), gn (i + 1) h']; exact I.ns i (by omega)
        · obtain he : i + 1 = (mgS L (k + 1)).length - 1 := by omega
          have h2 := I.ns i (by omega)
          rw [he, hla] at h2
          rw [gn i (by omega), he, ge, ← same_l _ _ _ so su]; exact h2
      · rcases Nat.lt_or_ge i ((mgS L (k + 1)).length - 1) with h' | h'
        · rw [gn i h']; have := I.bd i (by omega); omega
        · obtain rfl : i = (mgS L (k + 1)).length - 1 := by omega
          rw [ge]; exact Int.le_refl _
      · rcases Nat.lt_or_ge i ((mgS L (k + 1)).length - 1) with h' | h'
        · rw [gn i h']; exact I.lo i (by omega)
        · obtain rfl : i = (mgS L (k + 1)).length - 1 := by omega
          rw [ge]; exact h0k
      · by_cases hc : key ≤ (gl L k).e
        · obtain ⟨j, h1, h2, h3, h4, h5⟩ := I.look key hc
          rcases Nat.lt_or_ge j ((mgS L (k + 1)).length - 1) with h' | h'
          · exact ⟨j, by omega, fun i hi => by rw [gn i (by omega)]; exact h2 i hi, by rw [gn j h']; exact h3, by rw [gn j h']; exact h4, by rw [gn j h']; exact h5⟩
          · obtain rfl : j = (mgS L (k + 1)).length - 1 := by omega
            rw [hla] at h4 h5
            exact ⟨(mgS L (k + 1)).length - 1, by omega, fun i hi => by rw [gn i hi]; exact h2 i hi, by rw [ge]; omega, by rw [ge, ← so]; exact h4, by rw [ge, ← su]; exact h5⟩
        · have ef := hfd key (by omega) hk
          exact ⟨(mgS L (k + 1)).length - 1, by omega, fun i hi => by rw [gn i hi]; have := I.bd i (by omega); omega, by rw [ge]; exact hk, by rw [ge, ef], by rw [ge, ef]⟩
/-- the leases behind merging -/
theorem mg_done {L : List Ls} (hv : lvB L = true) : lvB (mgR L) = true ∧ (mgR L).length ≤ L.length ∧ (∀ i, i + 1 < (mgR L).length → sameLs (gl (mgR L) i) (gl (mgR L) (i + 1)) = false) ∧
    ∀ key : Int, (ofL (mgR L) key).o = (ofL L key).o ∧ (ofL (mgR L) key).u = (ofL L key).u := by
  have hn := lv_len hv
  rw [mgR_yes hv]
  obtain ⟨k, hk⟩ : ∃ k, L.length = k + 1 := ⟨L.length - 1, by omega⟩
  have I := mg_inv hv k (by omega)
  rw [hk]
  have hlk := I.lenk
  have hvm : lvB (mgS L (k + 1)) = true := lv_of I.len1 (by omega) I.ls I.asc
  refine ⟨hvm, hlk, I.ns, fun key => ?_⟩
  by_cases hc : key ≤ (gl L k).e
  · obtain ⟨j, h1, h2, h3, h4, h5⟩ := I.look key hc
    have ef : fdL (mgS L (k + 1)) key = j := fd_eq (by omega) h2 (fun _ => h3)
    have efl : fdL L key < L.length := by
      rcases Nat.lt_or_ge (fdL L key) L.length with h' | h'
      · exact h'
      · have := fd_below (L := L) (key := key) (i := k) (by omega); omega
    unfold ofL atL
    rw [ef, if_pos h1, if_pos efl]
    exact ⟨h4, h5⟩
  · have ef : fdL (mgS L (k + 1)) key = (mgS L (k + 1)).length := fd_eq (Nat.le_refl _) (fun i hi => by have := I.bd i hi; omega) (fun h => by omega)
    have efl : fdL L key = L.length := fd_eq (Nat.le_refl _) (fun i hi => by
      rcases Nat.lt_or_ge i k with h' | h'
      · have := lv_lt hv h' (by omega); omega
      · obtain rfl : i = k := by omega
        omega) (fun h => by omega)
    unfold ofL atL
    rw [ef, efl, if_neg (by omega), if_neg (by omega)]
    obtain ⟨j, h1, h2, h3, h4, h5⟩ := I.look (gl L 0).e (by
      rcases Nat.eq_zero_or_pos k with h' | h'
      · rw [h']; exact Int.le_refl _
      · have := lv_lt hv h' (by omega); omega)
    have hj : j = 0 := by
      rcases Nat.eq_zero_or_pos j with h' | h'
      · exact h'
      · have h6 := h2 0 h'; have h7 := I.lo 0 (by omega); omega
    subst hj
    have ef0 : fdL L (gl L 0).e = 0 := fd_end hv (by omega)
    rw [ef0] at h4 h5
    exact ⟨h4, h5⟩
theorem mgTo_ns {L : List Ls} (hn : ∀ i, i + 1 < L.length → sameLs (gl L i) (gl L (i + 1)) = false) : ∀ k, k + 1 ≤ L.length → mgTo L k = L.take k := by
  intro k
  induction k with
  | zero => intro _; rfl
  | succ k ih =>
    intro h
    rw [mgTo, ih (by omega), if_neg (by rw [hn k (by omega)]; decide), gl_get (by omega)]
    exact (List.take_succ_eq_append_getElem (by omega)).symm
theorem mg_again {L : List Ls} (hv : lvB L = true) : mgR (mgR L) = mgR L := by
  obtain ⟨h1, _, h2, _⟩ := mg_done hv
  have hn := lv_len h1
  obtain ⟨k, hk⟩ : ∃ k, (mgR L).length = k + 1 := ⟨(mgR L).length - 1, by omega⟩
  rw [mgR_yes h1, hk]
  show mgTo (mgR L) k ++ [gl (mgR L) k] = _
  rw [mgTo_ns h2 k (by omega), gl_get (by omega), ← List.take_succ_eq_append_getElem (by omega), List.take_of_length_le (by omega)]
end Go.Proofs.Ytoaamamconcieab
