/- Lookups on sets of nodes as lists of numbers: what the functions of chapter 11 compute. -/
import Derived.Test.YtlkpgkhggknphaaNodesMath2
namespace Go.Proofs.Ytlkpgkhggknphaa
set_option linter.unusedVariables false

theorem mem_gt {zs : List Int} {z : Int} (h : z ∈ zs) : ∃ i, i < zs.length ∧ gt zs i = z := by
  obtain ⟨i, hi, e⟩ := List.getElem_of_mem h
  exact ⟨i, hi, by rw [gt_get hi]; exact e⟩
theorem gt_mem {zs : List Int} {i : Nat} (h : i < zs.length) : gt zs i ∈ zs := by rw [gt_get h]; exact List.getElem_mem h
theorem vld_pt {zs : List Int} (hv : vldB zs = true) {z : Int} (h : z ∈ zs) : 0 ≤ z ∧ z < 64 := by
  obtain ⟨i, hi, e⟩ := mem_gt h
  rw [← e]; exact (ptB_iff _).1 (asc_pt (vld_asc hv) hi)
theorem nxt_mem {zs : List Int} (hv : vldB zs = true) (key : Int) : nxtL zs key ∈ zs := (hasB_iff _ _).1 (nxt_has (by have := vld_len hv; omega))
theorem bef_mem {zs : List Int} (hv : vldB zs = true) (key : Int) : befL zs key ∈ zs := (hasB_iff _ _).1 (bef_has (by have := vld_len hv; omega))

/-- no node is nearer above a key than the next one -/
theorem nxt_min {zs : List Int} (hv : vldB zs = true) {key : Int} (h0 : 0 ≤ key) (h1 : key < 64) {z : Int} (hz : z ∈ zs) : (nxtL zs key - key) % 64 ≤ (z - key) % 64 := by
  have ha := vld_asc hv
  have hl := vld_len hv
  obtain ⟨i, hi, rfl⟩ := mem_gt hz
  have pi := (ptB_iff _).1 (asc_pt ha hi)
  rcases nxt_cases zs key (by omega) with ⟨j, hj, h2, h3, h4⟩ | ⟨h2, h4⟩
  · rw [h4]
    have pj := (ptB_iff _).1 (asc_pt ha hj)
    rcases Nat.lt_or_ge i j with e | e
    · have := h2 i e; omega
    · rcases Nat.eq_or_lt_of_le e with e' | e'
      · subst e'; omega
      · have := asc_lt ha e' hi; omega
  · rw [h4]
    have p0 := (ptB_iff _).1 (asc_pt ha (show 0 < zs.length by omega))
    have h5 := h2 i hi
    have h6 := h2 0 (by omega)
    rcases Nat.eq_zero_or_pos i with e | e
    · subst e; omega
    · have := asc_lt ha e hi; omega
theorem nxt_uniq {zs : List Int} (hv : vldB zs = true) {key : Int} (h0 : 0 ≤ key) (h1 : key < 64) {z : Int} (hz : z ∈ zs) (h : ∀ y ∈ zs, (z - key) % 64 ≤ (y - key) % 64) : nxtL zs key = z := by
  have a1 := nxt_min hv h0 h1 hz
  have a2 := h _ (nxt_mem hv key)
  have a3 := vld_pt hv hz
  have a4 := vld_pt hv (nxt_mem hv key)
  omega
theorem nxt_self {zs : List Int} (hv : vldB zs = true) {z : Int} (hz : z ∈ zs) : nxtL zs z = z := by
  have a3 := vld_pt hv hz
  exact nxt_uniq hv a3.1 a3.2 hz (fun y _ => by omega)
/-- no node is nearer below a key than the one before it -/
theorem bef_min {zs : List Int} (hv : vldB zs = true) {key : Int} (h0 : 0 ≤ key) (h1 : key < 64) {z : Int} (hz : z ∈ zs) : (key - 1 - befL zs key) % 64 ≤ (key - 1 - z) % 64 := by
  have ha := vld_asc hv
  have hl := vld_len hv
  obtain ⟨i, hi, rfl⟩ := mem_gt hz
  have pi := (ptB_iff _).1 (asc_pt ha hi)
  rcases bef_cases zs key (by omega) with ⟨m, hm, h2, h3, h4⟩ | ⟨h2, h4⟩
  · rw [h4]
    have pm := (ptB_iff _).1 (asc_pt ha hm)
    rcases Nat.lt_or_ge m i with e | e
    · have := h3 i e hi; omega
    · rcases Nat.eq_or_lt_of_le e with e' | e'
      · subst e'; omega
      · have := asc_lt ha e' hm; omega
  · rw [h4]
    have p0 := (ptB_iff _).1 (asc_pt ha (show zs.length - 1 < zs.length by omega))
    have h5 := h2 i hi
    have h6 := h2 (zs.length - 1) (by omega)
    rcases Nat.lt_or_ge i (zs.length - 1) with e | e
    · have := asc_lt ha e (by omega); omega
    · have : i = zs.length - 1 := by omega
      subst this; omega

/-- the finger at distance 2 to the i -/
def fgAt (zs : List Int) (id : Int) (i : Nat) : Int := nxtL zs ((id + ((2 ^ i : Nat) : Int)) % 64)
/-- the first k fingers -/
def fgTo (zs : List Int) (id : Int) (k : Nat) : List Int := (List.range k).map (fgAt zs id)
theorem fgTo_len (zs : List Int) (id : Int) (k : Nat) : (fgTo zs id k).length = k := by simp [fgTo]
theorem fgTo_succ (zs : List Int) (id : Int) (k : Nat) : fgTo zs id (k + 1) = fgTo zs id k ++ [fgAt zs id k] := by simp [fgTo, List.range_succ]
theorem gt_fgTo {zs : List Int} {id : Int} {k i : Nat} (h : i < k) : gt (fgTo zs id k) i = fgAt zs id i := by
  rw [gt_get (by rw [fgTo_len]; exact h)]; simp [fgTo]
theorem fg_mem {zs : List Int} (hv : vldB zs = true) (id : Int) (i : Nat) : fgAt zs id i ∈ zs := nxt_mem hv _

/-- the fingers from k down to 1, the last one before a key, or the first finger -/
def lnScan (zs : List Int) (id key : Int) : Nat → Int
  | 0 => fgAt zs id 0
  | k + 1 => if btwI id (fgAt zs id (k + 1)) key then fgAt zs id (k + 1) else lnScan zs id key k
/-- the node that is asked next -/
def lnxL (zs : List Int) (id key : Int) : Int := if hldI id (fgAt zs id 0) key then fgAt zs id 0 else lnScan zs id key 5
theorem lnScan_mem {zs : List Int} (hv : vldB zs = true) (id key : Int) (k : Nat) : lnScan zs id key k ∈ zs := by
  induction k with
  | zero => exact fg_mem hv _ _
  | succ k ih => unfold lnScan; split
                 · exact fg_mem hv _ _
                 · exact ih
theorem lnx_mem {zs : List Int} (hv : vldB zs = true) (id key : Int) : lnxL zs id key ∈ zs := by
  unfold lnxL; split
  · exact fg_mem hv _ _
  · exact lnScan_mem hv _ _ _

theorem fg_in {id key p f s : Int} (a1 : 0 ≤ id) (a2 : id < 64) (b1 : 0 ≤ key) (b2 : key < 64) (c1 : 0 ≤ p) (c2 : p < 64) (d1 : 0 ≤ f) (d2 : f < 64) (s1 : 1 ≤ s) (s2 : s ≤ 32)
    (hp : (p - id) % 64 < (key - id) % 64) (hm : (f - (id + s) % 64) % 64 ≤ (p - (id + s) % 64) % 64) (hs : s ≤ (p - id) % 64) : btwI id f key = true ∧ s ≤ (f - id) % 64 ∧ (f - id) % 64 ≤ (p - id) % 64 := by
  have e : s ≤ (f - id) % 64 ∧ (f - id) % 64 ≤ (p - id) % 64 := by omega
  refine ⟨?_, e⟩
  unfold btwI
  rw [decide_eq_true_iff]
  omega
theorem fg_out {id key p f s : Int} (a1 : 0 ≤ id) (a2 : id < 64) (b1 : 0 ≤ key) (b2 : key < 64) (c1 : 0 ≤ p) (c2 : p < 64) (d1 : 0 ≤ f) (d2 : f < 64) (s1 : 1 ≤ s) (s2 : s ≤ 32)
    (hp : (p - id) % 64 < (key - id) % 64) (hm : (f - (id + s) % 64) % 64 ≤ (id - (id + s) % 64) % 64) (hb : (key - 1 - p) % 64 ≤ (key - 1 - f) % 64) (hs : (p - id) % 64 < s) : btwI id f key = false := by
  have e : (f - id) % 64 = 0 ∨ s ≤ (f - id) % 64 := by omega
  unfold btwI
  rw [decide_eq_false_iff_not]
  omega

/-- a node that does not hold the key asks the holder, or one that is more than twice as near to the last node before the key -/
theorem lnx_step {zs : List Int} (hv : vldB zs = true) {id key : Int} (hid : id ∈ zs) (h0 : 0 ≤ key) (h1 : key < 64) (hne : ¬ id = nxtL zs key) :
    lnxL zs id key = nxtL zs key ∨ 2 * ((befL zs key - lnxL zs id key) % 64) < (befL zs key - id) % 64 := by
  have pid := vld_pt hv hid
  have po := vld_pt hv (nxt_mem hv key)
  have pp := vld_pt hv (bef_mem hv key)
  have hmin : ∀ (s : Int) (z : Int), z ∈ zs → (nxtL zs ((id + s) % 64) - (id + s) % 64) % 64 ≤ (z - (id + s) % 64) % 64 := fun s z hz => nxt_min hv (by omega) (by omega) hz
  have f0p := vld_pt hv (fg_mem hv id 0)
  unfold lnxL
  cases hh : hldI id (fgAt zs id 0) key
  · refine .inr ?_
    have hbt : (fgAt zs id 0 - id) % 64 < (key - id) % 64 ∧ 0 < (fgAt zs id 0 - id) % 64 := by
      unfold hldI at hh
      rw [decide_eq_false_iff_not] at hh
      have hki : ¬ key = id := fun e => hne (by rw [e]; exact (nxt_self hv hid).symm)
      have := hmin 1 _ hid
      omega
    have hbm := bef_min hv h0 h1 (fg_mem hv id 0)
    have hp : (befL zs key - id) % 64 < (key - id) % 64 := by omega
    have hD : 1 ≤ (befL zs key - id) % 64 := by omega
    have hin : ∀ i, i ≤ 5 → ((2 ^ i : Nat) : Int) ≤ (befL zs key - id) % 64 → btwI id (fgAt zs id i) key = true ∧ ((2 ^ i : Nat) : Int) ≤ (fgAt zs id i - id) % 64 ∧ (fgAt zs id i - id) % 64 ≤ (befL zs key - id) % 64 := by
      intro i hi hs
      have pf := vld_pt hv (fg_mem hv id i)
      have hw : (1 : Int) ≤ ((2 ^ i : Nat) : Int) ∧ ((2 ^ i : Nat) : Int) ≤ 32 := by
        have : i = 0 ∨ i = 1 ∨ i = 2 ∨ i = 3 ∨ i = 4 ∨ i = 5 := by omega
        rcases this with rfl | rfl | rfl | rfl | rfl | rfl <;> decide
      exact fg_in pid.1 pid.2 h0 h1 pp.1 pp.2 pf.1 pf.2 hw.1 hw.2 hp (hmin _ _ (bef_mem hv key)) hs
    have hout : ∀ i, i ≤ 5 → (befL zs key - id) % 64 < ((2 ^ i : Nat) : Int) → btwI id (fgAt zs id i) key = false := by
      intro i hi hs
      have pf := vld_pt hv (fg_mem hv id i)
      have hw : (1 : Int) ≤ ((2 ^ i : Nat) : Int) ∧ ((2 ^ i : Nat) : Int) ≤ 32 := by
        have : i = 0 ∨ i = 1 ∨ i = 2 ∨ i = 3 ∨ i = 4 ∨ i = 5 := by omega
        rcases this with rfl | rfl | rfl | rfl | rfl | rfl <;> decide
      exact fg_out pid.1 pid.2 h0 h1 pp.1 pp.2 pf.1 pf.2 hw.1 hw.2 hp (hmin _ _ hid) (bef_min hv h0 h1 (fg_mem hv id i)) hs
    have fin : ∀ f s : Int, 0 ≤ f → f < 64 → s ≤ (f - id) % 64 → (f - id) % 64 ≤ (befL zs key - id) % 64 → (befL zs key - id) % 64 < 2 * s → 2 * ((befL zs key - f) % 64) < (befL zs key - id) % 64 := by
      intro f s _ _ _ _ _; omega
    simp only [Bool.false_eq_true, if_false]
    have hDb : (befL zs key - id) % 64 < 64 := by omega
    have F := fun i => vld_pt hv (fg_mem hv id i)
    by_cases c5 : 32 ≤ (befL zs key - id) % 64
    · have h5 := hin 5 (by omega) c5
      simp only [lnScan, h5.1, if_true]
      exact fin _ 32 (F 5).1 (F 5).2 h5.2.1 h5.2.2 (by omega)
    have o5 := hout 5 (by omega) (by simpa using c5)
    by_cases c4 : 16 ≤ (befL zs key - id) % 64
    · have h4 := hin 4 (by omega) c4
      simp only [lnScan, o5, h4.1, if_true, Bool.false_eq_true, if_false]
      exact fin _ 16 (F 4).1 (F 4).2 h4.2.1 h4.2.2 (by omega)
    have o4 := hout 4 (by omega) (by simpa using c4)
    by_cases c3 : 8 ≤ (befL zs key - id) % 64
    · have h3 := hin 3 (by omega) c3
      simp only [lnScan, o5, o4, h3.1, if_true, Bool.false_eq_true, if_false]
      exact fin _ 8 (F 3).1 (F 3).2 h3.2.1 h3.2.2 (by omega)
    have o3 := hout 3 (by omega) (by simpa using c3)
    by_cases c2 : 4 ≤ (befL zs key - id) % 64
    · have h2 := hin 2 (by omega) c2
      simp only [lnScan, o5, o4, o3, h2.1, if_true, Bool.false_eq_true, if_false]
      exact fin _ 4 (F 2).1 (F 2).2 h2.2.1 h2.2.2 (by omega)
    have o2 := hout 2 (by omega) (by simpa using c2)
    by_cases c1 : 2 ≤ (befL zs key - id) % 64
    · have h1' := hin 1 (by omega) c1
      simp only [lnScan, o5, o4, o3, o2, h1'.1, if_true, Bool.false_eq_true, if_false]
      exact fin _ 2 (F 1).1 (F 1).2 h1'.2.1 h1'.2.2 (by omega)
    have o1 := hout 1 (by omega) (by simpa using c1)
    have h0' := hin 0 (by omega) (by simpa using hD)
    simp only [lnScan, o5, o4, o3, o2, o1, Bool.false_eq_true, if_false]
    exact fin _ 1 (F 0).1 (F 0).2 h0'.2.1 h0'.2.2 (by omega)
  · refine .inl ?_
    simp only [if_true]
    unfold hldI at hh
    rw [decide_eq_true_iff] at hh
    have a1 := hmin 1 _ (nxt_mem hv key)
    have a2 := nxt_min hv h0 h1 (fg_mem hv id 0)
    have a3 := nxt_min hv h0 h1 hid
    have e : fgAt zs id 0 = nxtL zs ((id + 1) % 64) := rfl
    rw [← e] at a1
    omega

/-- the rounds to come -/
def mu (zs : List Int) (key id : Int) : Nat := if id = nxtL zs key then 0 else ((befL zs key - id) % 64).toNat + 1
theorem mu_le (zs : List Int) (key id : Int) : mu zs key id ≤ 64 := by unfold mu; split <;> omega
theorem mu_lt {zs : List Int} (hv : vldB zs = true) {id key : Int} (hid : id ∈ zs) (h0 : 0 ≤ key) (h1 : key < 64) (hne : ¬ id = nxtL zs key) : mu zs key (lnxL zs id key) < mu zs key id := by
  have := lnx_step hv hid h0 h1 hne
  unfold mu
  rw [if_neg hne]
  split
  · omega
  · rcases this with h | h
    · contradiction
    · omega

def pathF (zs : List Int) (key : Int) : Nat → Int → List Int
  | 0, id => [id]
  | n + 1, id => if id = nxtL zs key then [id] else id :: pathF zs key n (lnxL zs id key)
theorem pathF_succ (zs : List Int) (key : Int) (n : Nat) (id : Int) : pathF zs key (n + 1) id = if id = nxtL zs key then [id] else id :: pathF zs key n (lnxL zs id key) := rfl
/-- all nodes that are asked for a key -/
def pathL (zs : List Int) (id key : Int) : List Int := pathF zs key 64 id
theorem pathF_fuel {zs : List Int} (hv : vldB zs = true) {key : Int} (h0 : 0 ≤ key) (h1 : key < 64) : ∀ (n m : Nat) (id : Int), id ∈ zs → mu zs key id ≤ n → mu zs key id ≤ m → pathF zs key n id = pathF zs key m id := by
  intro n
  induction n with
  | zero =>
    intro m id hid hn hm
    have : id = nxtL zs key := by
      by_cases e : id = nxtL zs key
      · exact e
      · unfold mu at hn; rw [if_neg e] at hn; omega
    cases m with
    | zero => rfl
    | succ m => simp [pathF, this]
  | succ n ih =>
    intro m id hid hn hm
    by_cases e : id = nxtL zs key
    · cases m with
      | zero => simp [pathF, e]
      | succ m => simp [pathF, e]
    · have hl := mu_lt hv hid h0 h1 e
      cases m with
      | zero => omega
      | succ m =>
        simp only [pathF, if_neg e]
        rw [ih m _ (lnx_mem hv _ _) (by omega) (by omega)]
theorem path_end {zs : List Int} {id key : Int} (h : id = nxtL zs key) : pathL zs id key = [id] := by unfold pathL pathF; rw [if_pos h]
theorem path_step {zs : List Int} (hv : vldB zs = true) {id key : Int} (hid : id ∈ zs) (h0 : 0 ≤ key) (h1 : key < 64) (hne : ¬ id = nxtL zs key) : pathL zs id key = id :: pathL zs (lnxL zs id key) key := by
  have hl := mu_lt hv hid h0 h1 hne
  have hm := mu_le zs key id
  show pathF zs key (63 + 1) id = id :: pathF zs key 64 (lnxL zs id key)
  rw [pathF_succ, if_neg hne]
  rw [pathF_fuel hv h0 h1 63 64 _ (lnx_mem hv _ _) (by omega) (by omega)]
theorem path_ne (zs : List Int) (id key : Int) : 1 ≤ (pathL zs id key).length := by
  unfold pathL pathF; split <;> simp
theorem path_head (zs : List Int) (id key : Int) : gt (pathL zs id key) 0 = id := by
  unfold pathL pathF; split <;> simp [gt]

/-- what holds at the holder, and at a node if it holds at the one asked next, holds at all nodes -/
theorem path_ind {zs : List Int} (hv : vldB zs = true) {key : Int} (h0 : 0 ≤ key) (h1 : key < 64) {R : Int → Prop} (he : ∀ id, id ∈ zs → id = nxtL zs key → R id)
    (hs : ∀ id, id ∈ zs → ¬ id = nxtL zs key → R (lnxL zs id key) → R id) (id : Int) (hid : id ∈ zs) : R id := by
  have : ∀ n id, id ∈ zs → mu zs key id ≤ n → R id := by
    intro n
    induction n with
    | zero =>
      intro id hid hn
      by_cases e : id = nxtL zs key
      · exact he id hid e
      · unfold mu at hn; rw [if_neg e] at hn; omega
    | succ n ih =>
      intro id hid hn
      by_cases e : id = nxtL zs key
      · exact he id hid e
      · have hl := mu_lt hv hid h0 h1 e
        exact hs id hid e (ih _ (lnx_mem hv _ _) (by omega))
  exact this 64 id hid (mu_le _ _ _)

theorem path_sub {zs : List Int} (hv : vldB zs = true) {key : Int} (h0 : 0 ≤ key) (h1 : key < 64) (id : Int) (hid : id ∈ zs) : ∀ x ∈ pathL zs id key, x ∈ zs ∧ mu zs key x ≤ mu zs key id := by
  refine path_ind (R := fun id => ∀ x ∈ pathL zs id key, x ∈ zs ∧ mu zs key x ≤ mu zs key id) hv h0 h1 ?_ ?_ id hid
  · intro id hid e x hx
    rw [path_end e] at hx
    simp at hx
    subst hx; exact ⟨hid, Nat.le_refl _⟩
  · intro id hid e ih x hx
    rw [path_step hv hid h0 h1 e] at hx
    rcases List.mem_cons.1 hx with rfl | hx
    · exact ⟨hid, Nat.le_refl _⟩
    · have := ih x hx
      have := mu_lt hv hid h0 h1 e
      exact ⟨(ih x hx).1, by omega⟩
theorem path_nodup {zs : List Int} (hv : vldB zs = true) {key : Int} (h0 : 0 ≤ key) (h1 : key < 64) (id : Int) (hid : id ∈ zs) : (pathL zs id key).Nodup := by
  refine path_ind (R := fun id => (pathL zs id key).Nodup) hv h0 h1 ?_ ?_ id hid
  · intro id hid e
    rw [path_end e]; simp
  · intro id hid e ih
    rw [path_step hv hid h0 h1 e, List.nodup_cons]
    refine ⟨fun hx => ?_, ih⟩
    have := (path_sub hv h0 h1 _ (lnx_mem hv _ _) _ hx).2
    have := mu_lt hv hid h0 h1 e
    omega
theorem path_last {zs : List Int} (hv : vldB zs = true) {key : Int} (h0 : 0 ≤ key) (h1 : key < 64) (id : Int) (hid : id ∈ zs) : gt (pathL zs id key) ((pathL zs id key).length - 1) = nxtL zs key := by
  refine path_ind (R := fun id => gt (pathL zs id key) ((pathL zs id key).length - 1) = nxtL zs key) hv h0 h1 ?_ ?_ id hid
  · intro id hid e
    rw [path_end e]; simp [gt]; exact e
  · intro id hid e ih
    have hn := path_ne zs (lnxL zs id key) key
    rw [path_step hv hid h0 h1 e]
    rw [show (id :: pathL zs (lnxL zs id key) key).length - 1 = ((pathL zs (lnxL zs id key) key).length - 1) + 1 by simp; omega, gt_cons_succ]
    exact ih
theorem path_len_of {zs : List Int} (hv : vldB zs = true) {key : Int} (h0 : 0 ≤ key) (h1 : key < 64) : ∀ (n : Nat) (id : Int), id ∈ zs → (befL zs key - id) % 64 < ((2 ^ n : Nat) : Int) → (pathL zs id key).length ≤ n + 2 := by
  intro n
  induction n with
  | zero =>
    intro id hid hd
    by_cases e : id = nxtL zs key
    · rw [path_end e]; simp
    · rw [path_step hv hid h0 h1 e]
      rcases lnx_step hv hid h0 h1 e with h | h
      · rw [path_end h]; simp
      · have e1 : ((2 ^ 0 : Nat) : Int) = 1 := rfl
        rw [e1] at hd
        omega
  | succ n ih =>
    intro id hid hd
    by_cases e : id = nxtL zs key
    · rw [path_end e]; simp
    · rw [path_step hv hid h0 h1 e]
      rcases lnx_step hv hid h0 h1 e with h | h
      · rw [path_end h]; simp
      · have e1 : ((2 ^ (n + 1) : Nat) : Int) = 2 * ((2 ^ n : Nat) : Int) := by rw [Nat.pow_succ]; omega
        rw [e1] at hd
        have := ih _ (lnx_mem hv id key) (by omega)
        simp only [List.length_cons]; omega
theorem path_len {zs : List Int} (hv : vldB zs = true) {key : Int} (h0 : 0 ≤ key) (h1 : key < 64) (id : Int) (hid : id ∈ zs) : (pathL zs id key).length ≤ 8 :=
  path_len_of hv h0 h1 6 id hid (by show _ < (64 : Int); omega)
theorem path_half {zs : List Int} (hv : vldB zs = true) {key : Int} (h0 : 0 ≤ key) (h1 : key < 64) (id : Int) (hid : id ∈ zs) :
    ∀ i, i + 2 < (pathL zs id key).length → 2 * ((befL zs key - gt (pathL zs id key) (i + 1)) % 64) < (befL zs key - gt (pathL zs id key) i) % 64 := by
  refine path_ind (R := fun id => ∀ i, i + 2 < (pathL zs id key).length → 2 * ((befL zs key - gt (pathL zs id key) (i + 1)) % 64) < (befL zs key - gt (pathL zs id key) i) % 64) hv h0 h1 ?_ ?_ id hid
  · intro id hid e i hi
    rw [path_end e] at hi; simp at hi
  · intro id hid e ih i hi
    rw [path_step hv hid h0 h1 e] at hi ⊢
    simp only [List.length_cons] at hi
    cases i with
    | zero =>
      rw [gt_cons_succ, gt_cons_zero, path_head]
      rcases lnx_step hv hid h0 h1 e with h | h
      · rw [path_end h] at hi; simp at hi
      · exact h
    | succ i =>
      rw [gt_cons_succ, gt_cons_succ]
      exact ih i (by omega)
theorem path_drop {zs : List Int} (hv : vldB zs = true) {key : Int} (h0 : 0 ≤ key) (h1 : key < 64) (id : Int) (hid : id ∈ zs) :
    ∀ k, k < (pathL zs id key).length → pathL zs (gt (pathL zs id key) k) key = (pathL zs id key).drop k := by
  refine path_ind (R := fun id => ∀ k, k < (pathL zs id key).length → pathL zs (gt (pathL zs id key) k) key = (pathL zs id key).drop k) hv h0 h1 ?_ ?_ id hid
  · intro id hid e k hk
    rw [path_end e] at hk ⊢
    simp at hk
    subst hk
    simp [gt, path_end e]
  · intro id hid e ih k hk
    cases k with
    | zero => rw [path_head]; simp
    | succ k =>
      rw [path_step hv hid h0 h1 e] at hk ⊢
      simp only [List.length_cons] at hk
      rw [gt_cons_succ, ih k (by omega)]
      simp

/-- no node lies between a node and its first finger -/
theorem first_ok {zs : List Int} (hv : vldB zs = true) {id z : Int} (hid : id ∈ zs) (hz : z ∈ zs) (hne : ¬ z = id) : btwI id z (fgAt zs id 0) = false := by
  have a1 := vld_pt hv hid
  have a2 := vld_pt hv hz
  have a3 := vld_pt hv (fg_mem hv id 0)
  have a4 := nxt_min hv (key := (id + 1) % 64) (by omega) (by omega) hz
  have e : fgAt zs id 0 = nxtL zs ((id + 1) % 64) := rfl
  rw [← e] at a4
  unfold btwI
  rw [decide_eq_false_iff_not]
  omega
theorem first_one {zs : List Int} (hv : vldB zs = true) {id : Int} (hid : id ∈ zs) (h : fgAt zs id 0 = id) : zs.length = 1 := by
  have hl := vld_len hv
  have ha := vld_asc hv
  rcases Nat.lt_or_ge 1 zs.length with h2 | h2
  · exfalso
    have p0 := gt_mem (zs := zs) (i := 0) (by omega)
    have p1 := gt_mem (zs := zs) (i := 1) (by omega)
    have h01 := asc_lt ha (show 0 < 1 by omega) (by omega)
    have a1 := vld_pt hv hid
    have m0 := nxt_min hv (key := (id + 1) % 64) (by omega) (by omega) p0
    have m1 := nxt_min hv (key := (id + 1) % 64) (by omega) (by omega) p1
    have q0 := vld_pt hv p0
    have q1 := vld_pt hv p1
    have e : nxtL zs ((id + 1) % 64) = id := h
    rw [e] at m0 m1
    omega
  · omega

end Go.Proofs.Ytlkpgkhggknphaa
