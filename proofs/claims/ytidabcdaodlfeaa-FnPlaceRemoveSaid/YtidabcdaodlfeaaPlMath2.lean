/- Placement as lists: whole tables, removing a node, more weight. -/
import Derived.Test.YtidabcdaodlfeaaPlMath
namespace Go.Proofs.Ytidabcdaodlfeaa
set_option linter.unusedVariables false

theorem asc_lt {zs : List Int} (h : vldB zs = true) {i j : Nat} (hij : i < j) (hj : j < zs.length) : gt zs i < gt zs j := by
  induction j with
  | zero => omega
  | succ j ih =>
    have h1 := asc_ok hj (vld_asc h)
    simp only [okAt, Bool.and_eq_true, Bool.or_eq_true, decide_eq_true_eq, Nat.add_sub_cancel] at h1
    rcases h1.2 with h' | h'
    · omega
    · rcases Nat.lt_or_ge i j with e | e
      · have := ih e (by omega); omega
      · obtain rfl : i = j := by omega
        exact h'
theorem asc_pt {zs : List Int} (h : vldB zs = true) {i : Nat} (hi : i < zs.length) : 0 ≤ gt zs i ∧ gt zs i < 64 := by
  have h1 := asc_ok hi (vld_asc h)
  simp only [okAt, Bool.and_eq_true] at h1
  exact (ptB_iff _).1 h1.1
theorem asc_inj {zs : List Int} (h : vldB zs = true) {i j : Nat} (hi : i < zs.length) (hj : j < zs.length) (e : gt zs i = gt zs j) : i = j := by
  rcases Nat.lt_trichotomy i j with h' | h' | h'
  · have := asc_lt h h' hj; omega
  · exact h'
  · have := asc_lt h h' hi; omega
def plOk (zs ws : List Int) : Bool := vldB zs && decide (ws.length = zs.length) && wsB ws
theorem plOk_iff (zs ws : List Int) : plOk zs ws = true ↔ vldB zs = true ∧ ws.length = zs.length ∧ wsB ws = true := by simp [plOk, and_assoc]
def plR (zs ws : List Int) : List Tk := if plOk zs ws = true then tabTo zs ws 64 else []
theorem plR_bad {zs ws : List Int} (h : plOk zs ws = false) : plR zs ws = [] := by unfold plR; rw [if_neg (by rw [h]; decide)]
theorem plR_ok {zs ws : List Int} (h : plOk zs ws = true) : plR zs ws = tabTo zs ws 64 := by unfold plR; rw [if_pos h]
theorem plR_len (zs ws : List Int) : (plR zs ws).length ≤ 64 := by
  unfold plR; split; exact tabTo_len _ _ _; simp
theorem hit_iff (zs ws : List Int) (i : Nat) (p : Int) : hit zs ws i p = true ↔ ∃ k : Nat, (k : Int) < gt ws i ∧ tok (gt zs i) k = p := by
  unfold hit
  rw [hitTo_iff]
  constructor
  · rintro ⟨k, h1, h2⟩; exact ⟨k, by omega, h2⟩
  · rintro ⟨k, h1, h2⟩; exact ⟨k, by omega, h2⟩
/-- the least node that has a token at a position -/
theorem hit_least {zs ws : List Int} {p : Int} {i : Nat} (h : hit zs ws i p = true) : ∃ j, j ≤ i ∧ hit zs ws j p = true ∧ ∀ q, q < j → hit zs ws q p = false := by
  induction i using Nat.strongRecOn with
  | _ i ih =>
    by_cases hx : ∃ q, q < i ∧ hit zs ws q p = true
    · obtain ⟨q, hq, hh⟩ := hx
      obtain ⟨j, h1, h2, h3⟩ := ih q hq hh
      exact ⟨j, by omega, h2, h3⟩
    · refine ⟨i, Nat.le_refl _, h, fun q hq => ?_⟩
      rcases hh : hit zs ws q p with _ | _
      · rfl
      · exact absurd ⟨q, hq, hh⟩ hx
/-- P125 -/
theorem tab_has {zs ws : List Int} (h : plOk zs ws = true) {i k : Nat} (hi : i < zs.length) (hk : (k : Int) < gt ws i) : ∃ x ∈ tabTo zs ws 64, x.p = tok (gt zs i) k ∧ x.n ≤ gt zs i := by
  obtain ⟨hv, hl, hw⟩ := (plOk_iff _ _).1 h
  have hpt := tok_pt (gt zs i) k
  obtain ⟨p, hp⟩ : ∃ p : Nat, tok (gt zs i) k = (p : Int) := ⟨(tok (gt zs i) k).toNat, by omega⟩
  have hh : hit zs ws i p = true := (hit_iff _ _ _ _).2 ⟨k, hk, hp⟩
  obtain ⟨j, h1, h2, h3⟩ := hit_least hh
  refine ⟨⟨p, gt zs j⟩, (mem_tab_iff _ _ _ _).2 ⟨p, j, by omega, by omega, h2, h3, rfl⟩, hp.symm, ?_⟩
  rcases Nat.eq_or_lt_of_le h1 with e | e
  · subst e; exact Int.le_refl _
  · have := asc_lt hv e hi
    simp only
    omega
theorem tab_node {zs ws : List Int} {x : Tk} (hx : x ∈ tabTo zs ws 64) : ∃ i, i < zs.length ∧ x.n = gt zs i := by
  obtain ⟨p, i, _, hi, _, _, rfl⟩ := (mem_tab_iff _ _ _ _).1 hx
  exact ⟨i, hi, rfl⟩
theorem tab_valid {zs ws : List Int} (h : plOk zs ws = true) : tbB (tabTo zs ws 64) = true := by
  obtain ⟨hv, hl, hw⟩ := (plOk_iff _ _).1 h
  have h1 := (vld_len hv).1
  have hw0 := (wsB_iff _).1 hw 0 (by omega)
  obtain ⟨x, hx, _⟩ := tab_has h (i := 0) (k := 0) (by omega) (by omega)
  refine tb_of (List.length_pos_of_mem hx) (fun y hy => ?_) (tab_ord zs ws 64).1
  have h2 := (tab_ord zs ws 64).2 y hy
  obtain ⟨i, hi, e⟩ := tab_node hy
  have h3 := asc_pt hv hi
  omega

/-! ### owners by their tokens -/
/-- x is the first token at a key or behind it, or there is none and x is the first of all -/
def Own (L : List Tk) (key : Int) (x : Tk) : Prop :=
  x ∈ L ∧ ((key ≤ x.p ∧ ∀ y ∈ L, key ≤ y.p → x.p ≤ y.p) ∨ ((∀ y ∈ L, y.p < key) ∧ ∀ y ∈ L, x.p ≤ y.p))
theorem own_is {L : List Tk} (h : tbB L = true) {key : Int} {x : Tk} (ho : Own L key x) : ownT L key = x.n := by
  obtain ⟨hx, hc⟩ := ho
  obtain ⟨i, hi, rfl⟩ := mem_gk hx
  rcases hc with ⟨h1, h2⟩ | ⟨h1, h2⟩
  · refine own_at hi (fun j hj => ?_) h1
    rcases Int.lt_or_le (gk L j).p key with h' | h'
    · exact h'
    · have h3 := h2 _ (gk_mem (by omega : j < L.length)) h'
      have h4 := tb_lt h hj hi
      omega
  · rw [own_end fun j hj => h1 _ (gk_mem hj)]
    rcases Nat.eq_zero_or_pos i with h0 | h0
    · rw [h0]
    · have h3 := tb_lt h h0 hi
      have h4 := h2 _ (gk_mem (tb_len h))
      omega
theorem own_ex {L : List Tk} (h : tbB L = true) (key : Int) : ∃ x, Own L key x := by
  by_cases hf : fdT L key < L.length
  · refine ⟨gk L (fdT L key), gk_mem hf, .inl ⟨fdT_at hf, fun y hy hk => ?_⟩⟩
    obtain ⟨j, hj, rfl⟩ := mem_gk hy
    rcases Nat.lt_trichotomy (fdT L key) j with e | e | e
    · have := tb_lt h e hj; omega
    · rw [e]; exact Int.le_refl _
    · have := fdT_below e; omega
  · have hl := fdT_le L key
    refine ⟨gk L 0, gk_mem (tb_len h), .inr ⟨fun y hy => ?_, fun y hy => ?_⟩⟩
    · obtain ⟨j, hj, rfl⟩ := mem_gk hy
      exact fdT_below (by omega)
    · obtain ⟨j, hj, rfl⟩ := mem_gk hy
      rcases Nat.eq_zero_or_pos j with e | e
      · rw [e]; exact Int.le_refl _
      · have := tb_lt h e hj; omega
/-- a table with fewer positions, the owner's token among them -/
theorem Own.less {L M : List Tk} {key : Int} {x : Tk} (h : Own L key x) (hx : x ∈ M) (hs : ∀ y ∈ M, ∃ z ∈ L, z.p = y.p) : Own M key x := by
  refine ⟨hx, ?_⟩
  rcases h.2 with ⟨h1, h2⟩ | ⟨h1, h2⟩
  · refine .inl ⟨h1, fun y hy hk => ?_⟩
    obtain ⟨z, hz, e⟩ := hs y hy
    rw [← e] at hk ⊢
    exact h2 z hz hk
  · refine .inr ⟨fun y hy => ?_, fun y hy => ?_⟩
    · obtain ⟨z, hz, e⟩ := hs y hy
      rw [← e]; exact h1 z hz
    · obtain ⟨z, hz, e⟩ := hs y hy
      rw [← e]; exact h2 z hz

/-- the node z of one table is all in which two tables differ: B has fewer positions, and every token of A but z's -/
structure But (A B : List Tk) (z : Int) : Prop where
  tok : ∀ x ∈ A, x.n ≠ z → x ∈ B
  pos : ∀ y ∈ B, ∃ x ∈ A, x.p = y.p
theorem But.own {A B : List Tk} {z : Int} (h : But A B z) (ha : tbB A = true) (hb : tbB B = true) {key : Int} (hne : ownT A key ≠ z) : ownT B key = ownT A key := by
  obtain ⟨x, hx⟩ := own_ex ha key
  have e := own_is ha hx
  rw [e] at hne ⊢
  exact own_is hb (hx.less (h.tok x hx.1 hne) h.pos)
theorem mv_count (A B : List Tk) (z : Int) (n : Nat) (h : ∀ k : Nat, k < n → (ownT A k ≠ ownT B k ↔ ownT A k = z)) : (mvTo A B n).length = ldN A z n := by
  induction n with
  | zero => rfl
  | succ n ih =>
    rw [mvTo_s, List.length_append, ih (fun k hk => h k (by omega)), ldN]
    have := h n (by omega)
    by_cases e : ownT A n = z
    · rw [if_pos (this.2 e), if_pos e]; rfl
    · rw [if_neg (fun hh => e (this.1 hh)), if_neg e]; rfl
theorem ld_more (A B : List Tk) (z : Int) (n : Nat) (h : ∀ k : Nat, k < n → ownT B k ≠ z → ownT A k = ownT B k) : ldN B z n = ldN A z n + (mvTo A B n).length := by
  induction n with
  | zero => rfl
  | succ n ih =>
    rw [mvTo_s, List.length_append, ldN, ldN, ih fun k hk => h k (by omega)]
    have := h n (by omega)
    by_cases e : ownT B n = z
    · by_cases e' : ownT A n = z
      · rw [if_pos e, if_pos e', if_neg (by rw [e, e']; simp)]; simp; omega
      · rw [if_pos e, if_neg e', if_pos (by rw [e]; exact e')]; simp; omega
    · have h2 := this e
      rw [if_neg e, if_neg (by rw [h2]; exact e), if_neg (by rw [h2]; simp)]; simp

/-! ### removing a node -/
theorem gt_erase (zs : List Int) (k i : Nat) : gt (zs.eraseIdx k) i = if i < k then gt zs i else gt zs (i + 1) := by
  unfold gt
  rw [List.getD_eq_getElem?_getD, List.getElem?_eraseIdx]
  split <;> rw [List.getD_eq_getElem?_getD]
theorem hit_erase (zs ws : List Int) (k i : Nat) (p : Int) : hit (zs.eraseIdx k) (ws.eraseIdx k) i p = hit zs ws (if i < k then i else i + 1) p := by
  rw [Bool.eq_iff_iff, hit_iff, hit_iff, gt_erase, gt_erase]
  split <;> rfl
theorem erase_but {zs ws : List Int} (h : plOk zs ws = true) {k : Nat} (hk : k < zs.length) : But (tabTo zs ws 64) (tabTo (zs.eraseIdx k) (ws.eraseIdx k) 64) (gt zs k) := by
  obtain ⟨hv, hl, hw⟩ := (plOk_iff _ _).1 h
  have hlen : (zs.eraseIdx k).length = zs.length - 1 := List.length_eraseIdx_of_lt hk
  refine ⟨fun x hx hne => ?_, fun y hy => ?_⟩
  · obtain ⟨p, i, hp, hi, h3, h4, rfl⟩ := (mem_tab_iff _ _ _ _).1 hx
    have hik : i ≠ k := fun e => hne (by rw [e])
    rcases Nat.lt_or_ge i k with e | e
    · exact (mem_tab_iff _ _ _ _).2 ⟨p, i, hp, by omega, by rw [hit_erase, if_pos e]; exact h3, fun j hj => by rw [hit_erase, if_pos (by omega)]; exact h4 j hj, by rw [gt_erase, if_pos e]⟩
    · exact (mem_tab_iff _ _ _ _).2 ⟨p, i - 1, hp, by omega, by rw [hit_erase, if_neg (by omega), show i - 1 + 1 = i by omega]; exact h3, fun j hj => by rw [hit_erase]; exact h4 _ (by split <;> omega), by rw [gt_erase, if_neg (by omega), show i - 1 + 1 = i by omega]⟩
  · obtain ⟨p, i, hp, hi, h3, _, rfl⟩ := (mem_tab_iff _ _ _ _).1 hy
    rw [hit_erase] at h3
    obtain ⟨j, h5, h6, h7⟩ := hit_least h3
    refine ⟨⟨p, gt zs j⟩, (mem_tab_iff _ _ _ _).2 ⟨p, j, hp, ?_, h6, h7, rfl⟩, rfl⟩
    rw [hlen] at hi
    split at h5 <;> omega
theorem erase_not {zs ws : List Int} (h : plOk zs ws = true) {k : Nat} (hk : k < zs.length) {y : Tk} (hy : y ∈ tabTo (zs.eraseIdx k) (ws.eraseIdx k) 64) : y.n ≠ gt zs k := by
  obtain ⟨hv, hl, hw⟩ := (plOk_iff _ _).1 h
  obtain ⟨i, hi, e⟩ := tab_node hy
  have hlen : (zs.eraseIdx k).length = zs.length - 1 := List.length_eraseIdx_of_lt hk
  rw [hlen] at hi
  rw [e, gt_erase]
  intro hh
  split at hh
  · have := asc_inj hv (by omega) hk hh; omega
  · have := asc_inj hv (by omega) hk hh; omega
theorem erase_ok {zs ws : List Int} (h : plOk zs ws = true) {k : Nat} (hk : k < zs.length) (h2 : 2 ≤ zs.length) : plOk (zs.eraseIdx k) (ws.eraseIdx k) = true := by
  obtain ⟨hv, hl, hw⟩ := (plOk_iff _ _).1 h
  have hlen : (zs.eraseIdx k).length = zs.length - 1 := List.length_eraseIdx_of_lt hk
  have hlen' : (ws.eraseIdx k).length = ws.length - 1 := List.length_eraseIdx_of_lt (by omega)
  have h10 := vld_len hv
  refine (plOk_iff _ _).2 ⟨?_, by omega, (wsB_iff _).2 fun i hi => ?_⟩
  · refine vld_yes (by omega) (by omega) ?_
    have key : ∀ n, n ≤ (zs.eraseIdx k).length → ascTo (zs.eraseIdx k) n = true := by
      intro n
      induction n with
      | zero => intro _; rfl
      | succ n ih =>
        intro hn
        have hp : ptB (gt (zs.eraseIdx k) n) = true := by
          rw [gt_erase]
          split
          · exact (ptB_iff _).2 (asc_pt hv (by omega))
          · exact (ptB_iff _).2 (asc_pt hv (by omega))
        rcases n with _ | n
        · exact ok_zero hp
        · refine ok_succ (ih (by omega)) hp ?_
          rw [gt_erase, gt_erase]
          split <;> split <;> first | exact asc_lt hv (by omega) (by omega) | omega
    exact key _ (Nat.le_refl _)
  · rw [gt_erase]
    split
    · exact (wsB_iff _).1 hw _ (by omega)
    · exact (wsB_iff _).1 hw _ (by omega)
/-- P128 -/
theorem erase_moved {zs ws : List Int} (h : plOk zs ws = true) {k : Nat} (hk : k < zs.length) (h2 : 2 ≤ zs.length) (key : Int) :
    ownT (tabTo zs ws 64) key ≠ ownT (tabTo (zs.eraseIdx k) (ws.eraseIdx k) 64) key ↔ ownT (tabTo zs ws 64) key = gt zs k := by
  have ha := tab_valid h
  have hb := tab_valid (erase_ok h hk h2)
  constructor
  · intro hne
    exact Decidable.byContradiction fun hh => hne ((erase_but h hk).own ha hb hh).symm
  · intro e hh
    obtain ⟨x, hx⟩ := own_ex hb key
    exact erase_not h hk hx.1 (by rw [← own_is hb hx, ← hh, e])

/-! ### more weight -/
theorem gt_set (ws : List Int) (k : Nat) (v : Int) (hk : k < ws.length) (i : Nat) : gt (ws.set k v) i = if i = k then v else gt ws i := by
  unfold gt
  rw [List.getD_eq_getElem?_getD, List.getElem?_set, List.getD_eq_getElem?_getD]
  by_cases e : k = i
  · rw [if_pos e, if_pos e.symm, if_pos (by omega)]; rfl
  · rw [if_neg e, if_neg (Ne.symm e)]
theorem hit_grow {zs ws : List Int} {k : Nat} (hk : k < ws.length) {i : Nat} {p : Int} (h : hit zs ws i p = true) : hit zs (ws.set k (gt ws k + 1)) i p = true := by
  obtain ⟨j, h1, h2⟩ := (hit_iff _ _ _ _).1 h
  refine (hit_iff _ _ _ _).2 ⟨j, ?_, h2⟩
  rw [gt_set _ _ _ hk]
  split
  · rename_i e; rw [e] at h1; omega
  · exact h1
theorem hit_same {zs ws : List Int} {k : Nat} (hk : k < ws.length) {i : Nat} {p : Int} (hi : i ≠ k) : hit zs (ws.set k (gt ws k + 1)) i p = hit zs ws i p := by
  rw [Bool.eq_iff_iff, hit_iff, hit_iff, gt_set _ _ _ hk, if_neg hi]
/-- the table with more weight, and the one with less -/
theorem grow_but {zs ws : List Int} (h : plOk zs ws = true) {k : Nat} (hk : k < zs.length) : But (tabTo zs (ws.set k (gt ws k + 1)) 64) (tabTo zs ws 64) (gt zs k) := by
  obtain ⟨hv, hl, hw⟩ := (plOk_iff _ _).1 h
  have hkw : k < ws.length := by omega
  refine ⟨fun x hx hne => ?_, fun y hy => ?_⟩
  · obtain ⟨p, i, hp, hi, h3, h4, rfl⟩ := (mem_tab_iff _ _ _ _).1 hx
    have hik : i ≠ k := fun e => hne (by rw [e])
    rw [hit_same hkw hik] at h3
    refine (mem_tab_iff _ _ _ _).2 ⟨p, i, hp, hi, h3, fun j hj => ?_, rfl⟩
    rcases hh : hit zs ws j p with _ | _
    · rfl
    · rw [← h4 j hj, hit_grow hkw hh]
  · obtain ⟨p, i, hp, hi, h3, h4, rfl⟩ := (mem_tab_iff _ _ _ _).1 hy
    obtain ⟨j, h5, h6, h7⟩ := hit_least (hit_grow hkw h3)
    exact ⟨⟨p, gt zs j⟩, (mem_tab_iff _ _ _ _).2 ⟨p, j, hp, by omega, h6, h7, rfl⟩, rfl⟩
theorem grow_ok {zs ws : List Int} (h : plOk zs ws = true) {k : Nat} (hk : k < zs.length) (h5 : gt ws k ≠ 5) : plOk zs (ws.set k (gt ws k + 1)) = true := by
  obtain ⟨hv, hl, hw⟩ := (plOk_iff _ _).1 h
  have hkw : k < ws.length := by omega
  refine (plOk_iff _ _).2 ⟨hv, by rw [List.length_set]; exact hl, (wsB_iff _).2 fun i hi => ?_⟩
  rw [List.length_set] at hi
  rw [gt_set _ _ _ hkw]
  have h1 := (wsB_iff _).1 hw k hkw
  split
  · omega
  · exact (wsB_iff _).1 hw i hi
/-- P129 -/
theorem grow_moved {zs ws : List Int} (h : plOk zs ws = true) {k : Nat} (hk : k < zs.length) (h5 : gt ws k ≠ 5) (key : Int) (hne : ownT (tabTo zs (ws.set k (gt ws k + 1)) 64) key ≠ gt zs k) :
    ownT (tabTo zs ws 64) key = ownT (tabTo zs (ws.set k (gt ws k + 1)) 64) key :=
  (grow_but h hk).own (tab_valid (grow_ok h hk h5)) (tab_valid h) hne
/-- P131 -/
theorem single_own {z w : Int} (h : plOk [z] [w] = true) (key : Int) : ownT (tabTo [z] [w] 64) key = z := by
  have hv := tab_valid h
  obtain ⟨x, hx⟩ := own_ex hv key
  rw [own_is hv hx]
  obtain ⟨i, hi, e⟩ := tab_node hx.1
  obtain rfl : i = 0 := by simp at hi; exact hi
  rw [e]; rfl
theorem single_ld {z w : Int} (h : plOk [z] [w] = true) (n : Nat) : ldN (tabTo [z] [w] 64) z n = n := by
  induction n with
  | zero => rfl
  | succ n ih => rw [ldN, ih, if_pos (single_own h _)]
theorem mv_self (A : List Tk) (n : Nat) : mvTo A A n = [] := by unfold mvTo; simp
end Go.Proofs.Ytidabcdaodlfeaa
