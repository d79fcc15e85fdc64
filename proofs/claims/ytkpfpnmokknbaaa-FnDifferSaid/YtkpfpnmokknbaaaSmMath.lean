/- Trees of sums, as lists of 31 numbers: building, setting a leaf, comparing. -/
import Derived.Test.YtkpfpnmokknbaaaRowsI
namespace Go.Proofs.Ytkpfpnmokknbaaa
set_option linter.unusedVariables false

/-- a sum -/
def sB (n : Int) : Bool := decide (0 ≤ n) && decide (n < 991)
theorem sB_iff (n : Int) : sB n = true ↔ 0 ≤ n ∧ n < 991 := by simp [sB]
theorem sB_no (n : Int) : sB n = false ↔ n < 0 ∨ 991 ≤ n := by simp only [sB, Bool.and_eq_false_iff, decide_eq_false_iff_not]; omega
/-- the sum of two sums -/
def sumI (a b : Int) : Int := (31 * a + 17 * b + 5).tmod 991
theorem sumI_emod {a b : Int} (ha : 0 ≤ a) (hb : 0 ≤ b) : sumI a b = (31 * a + 17 * b + 5) % 991 := by
  unfold sumI; exact Int.tmod_eq_emod_of_nonneg (by omega)
theorem sumI_s {a b : Int} (ha : sB a = true) (hb : sB b = true) : sB (sumI a b) = true := by
  rw [sB_iff] at ha hb ⊢; rw [sumI_emod ha.1 hb.1]; omega
theorem sumI_left {a a' b : Int} (ha : sB a = true) (ha' : sB a' = true) (hb : sB b = true) (h : a ≠ a') : sumI a b ≠ sumI a' b := by
  rw [sB_iff] at ha ha' hb; rw [sumI_emod ha.1 hb.1, sumI_emod ha'.1 hb.1]; omega
theorem sumI_right {a b b' : Int} (ha : sB a = true) (hb : sB b = true) (hb' : sB b' = true) (h : b ≠ b') : sumI a b ≠ sumI a b' := by
  rw [sB_iff] at ha hb hb'; rw [sumI_emod ha.1 hb.1, sumI_emod ha.1 hb'.1]; omega

theorem cases15 {p : Nat → Prop} {i : Nat} (h : i < 15) (h0 : p 0) (h1 : p 1) (h2 : p 2) (h3 : p 3) (h4 : p 4) (h5 : p 5) (h6 : p 6) (h7 : p 7) (h8 : p 8) (h9 : p 9) (h10 : p 10) (h11 : p 11) (h12 : p 12) (h13 : p 13) (h14 : p 14) : p i := by
  have : i = 0 ∨ i = 1 ∨ i = 2 ∨ i = 3 ∨ i = 4 ∨ i = 5 ∨ i = 6 ∨ i = 7 ∨ i = 8 ∨ i = 9 ∨ i = 10 ∨ i = 11 ∨ i = 12 ∨ i = 13 ∨ i = 14 := by omega
  rcases this with e | e | e | e | e | e | e | e | e | e | e | e | e | e | e <;> subst e <;> assumption

/-- node i of the tree over the leaves v -/
def tnF : Nat → (Nat → Int) → Nat → Int
  | 0, v, i => v (i - 15)
  | f + 1, v, i => if 15 ≤ i then v (i - 15) else sumI (tnF f v (2 * i + 1)) (tnF f v (2 * i + 2))
def tn (v : Nat → Int) (i : Nat) : Int := tnF 5 v i
theorem tn_leaf (v : Nat → Int) {i : Nat} (h : 15 ≤ i) : tn v i = v (i - 15) := by simp [tn, tnF, h]
theorem tn_node (v : Nat → Int) {i : Nat} (h : i < 15) : tn v i = sumI (tn v (2 * i + 1)) (tn v (2 * i + 2)) := by
  apply cases15 (p := fun i => tn v i = sumI (tn v (2 * i + 1)) (tn v (2 * i + 2))) h <;> rfl

/-- what holds at the leaves and goes up holds everywhere -/
theorem tree_ind {p : Nat → Prop} (hl : ∀ i, 15 ≤ i → i < 31 → p i) (hn : ∀ i, i < 15 → p (2 * i + 1) → p (2 * i + 2) → p i) : ∀ i, i < 31 → p i := by
  have : ∀ d i, 31 - i ≤ d → i < 31 → p i := by
    intro d
    induction d with
    | zero => intro i h1 h2; omega
    | succ d ih =>
      intro i h1 h2
      rcases Nat.lt_or_ge i 15 with h | h
      · exact hn i h (ih _ (by omega) (by omega)) (ih _ (by omega) (by omega))
      · exact hl i h h2
  intro i hi
  exact this 31 i (by omega) hi

theorem tn_congr {v v' : Nat → Int} (h : ∀ k, k < 16 → v k = v' k) : ∀ i, i < 31 → tn v i = tn v' i :=
  tree_ind (fun i h1 h2 => by rw [tn_leaf _ h1, tn_leaf _ h1]; exact h _ (by omega)) (fun i hi h1 h2 => by rw [tn_node _ hi, tn_node _ hi, h1, h2])
theorem tn_s {v : Nat → Int} (h : ∀ k, k < 16 → sB (v k) = true) : ∀ i, i < 31 → sB (tn v i) = true :=
  tree_ind (fun i h1 h2 => by rw [tn_leaf _ h1]; exact h _ (by omega)) (fun i hi h1 h2 => by rw [tn_node _ hi]; exact sumI_s h1 h2)

/-- the tree over a list of leaves -/
def bld (vs : List Int) : List Int := (List.range 31).map (tn (gt vs))
theorem bld_len (vs : List Int) : (bld vs).length = 31 := by simp [bld]
theorem bld_gt (vs : List Int) {i : Nat} (h : i < 31) : gt (bld vs) i = tn (gt vs) i := by
  rw [gt_get (by rw [bld_len]; exact h)]; simp [bld]
theorem list_gt {a b : List Int} (hl : a.length = b.length) (h : ∀ i, i < a.length → gt a i = gt b i) : a = b := by
  apply List.ext_getElem hl
  intro i h1 h2
  have := h i h1
  rwa [gt_get h1, gt_get h2] at this
theorem bld_of {ts vs : List Int} (hl : ts.length = 31) (h : ∀ i, i < 31 → gt ts i = tn (gt vs) i) : ts = bld vs :=
  list_gt (by rw [hl, bld_len]) (fun i hi => by rw [bld_gt _ (by omega)]; exact h i (by omega))
theorem all_gt {vs : List Int} (h : vs.all sB = true) : ∀ i, i < vs.length → sB (gt vs i) = true := by
  intro i hi
  rw [gt_get hi]
  exact (List.all_eq_true.1 h) _ (List.getElem_mem hi)
theorem gt_all {vs : List Int} (h : ∀ i, i < vs.length → sB (gt vs i) = true) : vs.all sB = true := by
  rw [List.all_eq_true]
  intro x hx
  obtain ⟨i, hi, rfl⟩ := List.getElem_of_mem hx
  have := h i hi
  rwa [gt_get hi] at this
theorem bld_all {vs : List Int} (hl : vs.length = 16) (h : vs.all sB = true) : (bld vs).all sB = true :=
  gt_all (fun i hi => by
    rw [bld_len] at hi
    rw [bld_gt _ hi]
    exact tn_s (fun k hk => all_gt h k (by omega)) i hi)
theorem gt_drop (ts : List Int) (k i : Nat) : gt (ts.drop k) i = gt ts (k + i) := by simp [gt, List.getD]
theorem bld_drop {vs : List Int} (hl : vs.length = 16) : (bld vs).drop 15 = vs :=
  list_gt (by rw [List.length_drop, bld_len, hl]) (fun i hi => by
    rw [List.length_drop, bld_len] at hi
    rw [gt_drop, bld_gt _ (by omega), tn_leaf _ (by omega)]
    congr 1; omega)

/-- the leaves are right, one of a number -/
def leavesB (vs : List Int) : Bool := decide (vs.length = 16) && vs.all sB
/-- SumsOf -/
def sumsL (vs : List Int) : List Int := if leavesB vs then bld vs else []
/-- a valid tree -/
def treeB (ts : List Int) : Bool := decide (ts.length = 31) && (ts.drop 15).all sB && decide (bld (ts.drop 15) = ts)
theorem leavesB_yes {vs : List Int} (h : leavesB vs = true) : vs.length = 16 ∧ vs.all sB = true := by
  simpa [leavesB] using h
theorem leavesB_mk {vs : List Int} (h : vs.length = 16) (h2 : vs.all sB = true) : leavesB vs = true := by
  simp only [leavesB, h, h2]; decide
theorem treeB_yes {ts : List Int} (h : treeB ts = true) : ts.length = 31 ∧ leavesB (ts.drop 15) = true ∧ bld (ts.drop 15) = ts := by
  simp only [treeB, Bool.and_eq_true, decide_eq_true_eq] at h
  exact ⟨h.1.1, leavesB_mk (by rw [List.length_drop, h.1.1]) h.1.2, h.2⟩
theorem treeB_mk {ts : List Int} (h1 : ts.length = 31) (h2 : (ts.drop 15).all sB = true) (h3 : bld (ts.drop 15) = ts) : treeB ts = true := by
  simp only [treeB, h1, h2, h3]; decide
theorem treeB_all {ts : List Int} (h : treeB ts = true) : ts.all sB = true := by
  obtain ⟨h1, h2, h3⟩ := treeB_yes h
  rw [← h3]
  exact bld_all (leavesB_yes h2).1 (leavesB_yes h2).2
theorem treeB_bld {vs : List Int} (h : leavesB vs = true) : treeB (bld vs) = true := by
  obtain ⟨h1, h2⟩ := leavesB_yes h
  exact treeB_mk (bld_len _) (by rw [bld_drop h1]; exact h2) (by rw [bld_drop h1])
theorem treeB_gt {ts : List Int} (h : treeB ts = true) {i : Nat} (hi : i < 31) : gt ts i = tn (gt (ts.drop 15)) i := by
  obtain ⟨h1, h2, h3⟩ := treeB_yes h
  have := bld_gt (ts.drop 15) hi
  rwa [h3] at this

/-- SumsSet -/
def leafB (leaf : Int) : Bool := decide (0 ≤ leaf) && decide (leaf < 16)
def setL (ts : List Int) (leaf : Nat) (v : Int) : List Int := bld ((ts.drop 15).set leaf v)
def sumsSetL (ts : List Int) (leaf v : Int) : List Int := if treeB ts && leafB leaf && sB v then setL ts leaf.toNat v else []
theorem gt_set {zs : List Int} {i j : Nat} {v : Int} (h : i < zs.length) : gt (zs.set i v) j = if j = i then v else gt zs j := by
  by_cases hj : j = i
  · subst hj; rw [if_pos rfl, gt_get (by rw [List.length_set]; exact h)]; simp
  · rw [if_neg hj]; simp only [gt, List.getD]
    rw [List.getElem?_set_ne (by omega)]
theorem all_set {vs : List Int} {k : Nat} {v : Int} (h : vs.all sB = true) (hv : sB v = true) : (vs.set k v).all sB = true := by
  rw [List.all_eq_true] at h ⊢
  intro x hx
  rcases List.mem_or_eq_of_mem_set hx with h' | h'
  · exact h x h'
  · rw [h']; exact hv
theorem leavesB_set {vs : List Int} {k : Nat} {v : Int} (h : leavesB vs = true) (hv : sB v = true) : leavesB (vs.set k v) = true := by
  obtain ⟨h1, h2⟩ := leavesB_yes h
  exact leavesB_mk (by rw [List.length_set, h1]) (all_set h2 hv)
theorem setL_tree {ts : List Int} {k : Nat} {v : Int} (h : treeB ts = true) (hv : sB v = true) : treeB (setL ts k v) = true :=
  treeB_bld (leavesB_set (treeB_yes h).2.1 hv)
theorem setL_drop {ts : List Int} {k : Nat} {v : Int} (h : treeB ts = true) : (setL ts k v).drop 15 = (ts.drop 15).set k v :=
  bld_drop (by rw [List.length_set]; exact (leavesB_yes (treeB_yes h).2.1).1)

/-- the nodes above a node -/
def ups : Nat → Nat → List Nat
  | 0, _ => []
  | f + 1, n => if n = 0 then [] else (n - 1) / 2 :: ups f ((n - 1) / 2)
def up (n : Nat) : List Nat := ups 5 n
theorem ups_lt : ∀ f n x, x ∈ ups f n → x ≤ (n - 1) / 2 ∧ 0 < n
  | 0, n, x, h => by simp [ups] at h
  | f + 1, n, x, h => by
    unfold ups at h
    by_cases h0 : n = 0
    · simp [h0] at h
    · rw [if_neg h0] at h
      rcases List.mem_cons.1 h with h | h
      · exact ⟨by omega, by omega⟩
      · have := ups_lt f _ x h
        exact ⟨by omega, by omega⟩
theorem up_zero : up 0 = [] := rfl
theorem up_step {n : Nat} (h : 0 < n) (hn : n < 31) : up n = (n - 1) / 2 :: up ((n - 1) / 2) := by
  have : ∀ n : Fin 31, 0 < n.1 → up n.1 = (n.1 - 1) / 2 :: up ((n.1 - 1) / 2) := by decide
  exact this ⟨n, hn⟩ h
theorem up_lt {n x : Nat} (h : x ∈ up n) : x ≤ (n - 1) / 2 ∧ 0 < n := ups_lt 5 n x h
/-- a node and those above it -/
def pth (n : Nat) : List Nat := n :: up n
theorem pth_down {k i : Nat} (hk : k < 16) (hi : i < 15) : (2 * i + 1 ∈ pth (15 + k) ∨ 2 * i + 2 ∈ pth (15 + k)) ↔ i ∈ pth (15 + k) := by
  have : ∀ k : Fin 16, ∀ i : Fin 15, (2 * i.1 + 1 ∈ pth (15 + k.1) ∨ 2 * i.1 + 2 ∈ pth (15 + k.1)) ↔ i.1 ∈ pth (15 + k.1) := by decide
  exact this ⟨k, hk⟩ ⟨i, hi⟩
theorem pth_one {k i : Nat} (hk : k < 16) (hi : i < 15) : ¬ (2 * i + 1 ∈ pth (15 + k) ∧ 2 * i + 2 ∈ pth (15 + k)) := by
  have : ∀ k : Fin 16, ∀ i : Fin 15, ¬ (2 * i.1 + 1 ∈ pth (15 + k.1) ∧ 2 * i.1 + 2 ∈ pth (15 + k.1)) := by decide
  exact this ⟨k, hk⟩ ⟨i, hi⟩
theorem pth_leaf {k i : Nat} (hk : k < 16) (hi : 15 ≤ i) (hi' : i < 31) : i ∈ pth (15 + k) ↔ i = 15 + k := by
  have : ∀ k : Fin 16, ∀ i : Fin 31, 15 ≤ i.1 → (i.1 ∈ pth (15 + k.1) ↔ i.1 = 15 + k.1) := by decide
  exact this ⟨k, hk⟩ ⟨i, hi'⟩ hi
theorem pth_lt {k i : Nat} (hk : k < 16) (hi : i ∈ pth (15 + k)) : i < 31 := by
  have : ∀ k : Fin 16, ∀ i ∈ pth (15 + k.1), i < 31 := by decide
  exact this ⟨k, hk⟩ i hi

/-- off its path, a leaf matters not -/
theorem tn_off {vs : List Int} {k : Nat} {v : Int} (hl : vs.length = 16) (hk : k < 16) : ∀ i, i < 31 → i ∉ pth (15 + k) → tn (gt (vs.set k v)) i = tn (gt vs) i :=
  tree_ind (p := fun i => i ∉ pth (15 + k) → tn (gt (vs.set k v)) i = tn (gt vs) i)
    (fun i h1 h2 hp => by
      rw [tn_leaf _ h1, tn_leaf _ h1, gt_set (by omega), if_neg]
      intro e; exact hp ((pth_leaf hk h1 h2).2 (by omega)))
    (fun i hi h1 h2 hp => by
      rw [tn_node _ hi, tn_node _ hi, h1 (fun h => hp ((pth_down hk hi).1 (.inl h))), h2 (fun h => hp ((pth_down hk hi).1 (.inr h)))])
/-- on its path, another leaf gives another sum -/
theorem tn_on {vs : List Int} {k : Nat} {v : Int} (hl : vs.length = 16) (hs : vs.all sB = true) (hv : sB v = true) (hk : k < 16) (hne : v ≠ gt vs k) :
    ∀ i, i < 31 → i ∈ pth (15 + k) → tn (gt (vs.set k v)) i ≠ tn (gt vs) i := by
  have hs1 : ∀ i, i < 31 → sB (tn (gt vs) i) = true := tn_s (fun k hk => all_gt hs k (by omega))
  have hs2 : ∀ i, i < 31 → sB (tn (gt (vs.set k v)) i) = true := tn_s (fun j hj => all_gt (all_set hs hv) j (by rw [List.length_set]; omega))
  refine tree_ind (p := fun i => i ∈ pth (15 + k) → tn (gt (vs.set k v)) i ≠ tn (gt vs) i) ?_ ?_
  · intro i h1 h2 hp
    have := (pth_leaf hk h1 h2).1 hp
    rw [tn_leaf _ h1, tn_leaf _ h1, gt_set (by omega), if_pos (by omega), show i - 15 = k by omega]
    exact hne
  · intro i hi h1 h2 hp
    rw [tn_node _ hi, tn_node _ hi]
    rcases (pth_down hk hi).2 hp with h | h
    · have h3 := tn_off (v := v) hl hk (2 * i + 2) (by omega) (fun h' => pth_one hk hi ⟨h, h'⟩)
      rw [h3]
      exact sumI_left (hs2 _ (by omega)) (hs1 _ (by omega)) (hs1 _ (by omega)) (h1 h)
    · have h3 := tn_off (v := v) hl hk (2 * i + 1) (by omega) (fun h' => pth_one hk hi ⟨h', h⟩)
      rw [h3]
      exact sumI_right (hs1 _ (by omega)) (hs2 _ (by omega)) (hs1 _ (by omega)) (h2 h)

/-! Comparing two trees. -/
/-- node i is compared -/
def opF : Nat → (Nat → Bool) → Nat → Bool
  | 0, _, i => i == 0
  | f + 1, d, i => i == 0 || (opF f d ((i - 1) / 2) && d ((i - 1) / 2))
def opn (d : Nat → Bool) (i : Nat) : Bool := opF 5 d i
theorem opn_zero (d : Nat → Bool) : opn d 0 = true := rfl
theorem opF_one (d : Nat → Bool) : ∀ f, opF f d 0 = true
  | 0 => rfl
  | f + 1 => rfl
theorem opF_more (d : Nat → Bool) : ∀ f i, i < 2 ^ (f + 1) - 1 → opF (f + 1) d i = opF f d i
  | 0, i, h => by
    have : i = 0 := by simp at h; omega
    subst this; rfl
  | f + 1, i, h => by
    have ih := opF_more d f ((i - 1) / 2) (by rw [Nat.pow_succ] at h; omega)
    show (i == 0 || (opF (f + 1) d ((i - 1) / 2) && d ((i - 1) / 2))) = (i == 0 || (opF f d ((i - 1) / 2) && d ((i - 1) / 2)))
    rw [ih]
theorem opn_up (d : Nat → Bool) {i : Nat} (h0 : 0 < i) (h : i < 31) : opn d i = (opn d ((i - 1) / 2) && d ((i - 1) / 2)) := by
  unfold opn
  have h1 : opF 5 d i = (i == 0 || (opF 4 d ((i - 1) / 2) && d ((i - 1) / 2))) := rfl
  rw [h1, ← opF_more d 4 ((i - 1) / 2) (by omega)]
  have : (i == 0) = false := by simp; omega
  rw [this, Bool.false_or]
/-- how many below k -/
def cnt (p : Nat → Bool) : Nat → Nat
  | 0 => 0
  | k + 1 => cnt p k + (p k).toNat
theorem cnt_le (p : Nat → Bool) : ∀ k, cnt p k ≤ k
  | 0 => Nat.le_refl _
  | k + 1 => by have := cnt_le p k; have : (p k).toNat ≤ 1 := Bool.toNat_le _; simp only [cnt]; omega
theorem cnt_mono {p q : Nat → Bool} (h : ∀ i, p i = true → q i = true) : ∀ k, cnt p k ≤ cnt q k
  | 0 => Nat.le_refl _
  | k + 1 => by
    have h1 := cnt_mono h k
    have h2 : (p k).toNat ≤ (q k).toNat := by
      cases hp : p k
      · exact Nat.zero_le _
      · rw [h k hp]; exact Nat.le_refl _
    simp only [cnt]; omega
theorem cnt_congr {p q : Nat → Bool} (k : Nat) (h : ∀ i, i < k → p i = q i) : cnt p k = cnt q k := by
  induction k with
  | zero => rfl
  | succ k ih => simp only [cnt]; rw [ih (fun i hi => h i (by omega)), h k (by omega)]
/-- the leaves that are found, below node k -/
def outP (d : Nat → Bool) (i : Nat) : Bool := decide (15 ≤ i) && (opn d i && d i)
def outL (d : Nat → Bool) (k : Nat) : List Int := ((List.range k).filter (outP d)).map fun i => ((i : Nat) : Int) - 15
theorem outL_zero (d : Nat → Bool) : outL d 0 = [] := rfl
theorem outL_yes {d : Nat → Bool} {k : Nat} (h : outP d k = true) : outL d (k + 1) = outL d k ++ [((k : Nat) : Int) - 15] := by
  simp [outL, List.range_succ, h]
theorem outL_no {d : Nat → Bool} {k : Nat} (h : outP d k = false) : outL d (k + 1) = outL d k := by
  simp [outL, List.range_succ, h]
theorem outL_len (d : Nat → Bool) : ∀ k, (outL d k).length = cnt (outP d) k
  | 0 => rfl
  | k + 1 => by
    cases h : outP d k
    · rw [outL_no h, outL_len d k]; simp [cnt, h]
    · rw [outL_yes h, List.length_append, outL_len d k]; simp [cnt, h]
theorem outL_len_le (d : Nat → Bool) (k : Nat) : (outL d k).length ≤ k := by rw [outL_len]; exact cnt_le _ _
/-- where two trees differ -/
def dff (a b : List Int) (i : Nat) : Bool := !(gt a i == gt b i)
/-- the nodes that are to be compared, as they stand before node k -/
def dueAt (d : Nat → Bool) (k j : Nat) : Bool := (decide (j = 0) || decide ((j - 1) / 2 < k)) && opn d j
theorem due_start (d : Nat → Bool) {j : Nat} : dueAt d 0 j = decide (j = 0) := by
  unfold dueAt
  by_cases h : j = 0
  · subst h; rfl
  · simp [h]
theorem due_now (d : Nat → Bool) {k : Nat} : dueAt d k k = opn d k := by
  unfold dueAt
  have : (decide (k = 0) || decide ((k - 1) / 2 < k)) = true := by simp; omega
  rw [this, Bool.true_and]
theorem due_no {d : Nat → Bool} {k j : Nat} (hj : j < 31) (h : (opn d k && d k) = false) : dueAt d (k + 1) j = dueAt d k j := by
  unfold dueAt
  by_cases h0 : j = 0
  · subst h0; rfl
  · by_cases h1 : (j - 1) / 2 = k
    · have := opn_up d (i := j) (by omega) hj
      rw [h1, h] at this
      rw [this, Bool.and_false, Bool.and_false]
    · have : decide ((j - 1) / 2 < k + 1) = decide ((j - 1) / 2 < k) := by
        apply decide_eq_decide.2; omega
      rw [this]
theorem due_leaf {d : Nat → Bool} {k j : Nat} (hj : j < 31) (h : 15 ≤ k) : dueAt d (k + 1) j = dueAt d k j := by
  unfold dueAt
  have : decide ((j - 1) / 2 < k + 1) = decide ((j - 1) / 2 < k) := by apply decide_eq_decide.2; omega
  rw [this]
theorem due_yes {d : Nat → Bool} {k j : Nat} (hj : j < 31) (h : (opn d k && d k) = true) : dueAt d (k + 1) j = if j = 2 * k + 2 then true else if j = 2 * k + 1 then true else dueAt d k j := by
  unfold dueAt
  by_cases h1 : 0 < j ∧ (j - 1) / 2 = k
  · have h2 := opn_up d (i := j) h1.1 hj
    rw [h1.2, h] at h2
    rw [h2, Bool.and_true]
    have e1 : decide ((j - 1) / 2 < k + 1) = true := by simp; omega
    rw [e1, Bool.or_true]
    by_cases e : j = 2 * k + 2
    · rw [if_pos e]
    · rw [if_neg e, if_pos (by omega)]
  · rw [if_neg (by omega), if_neg (by omega)]
    by_cases h0 : j = 0
    · subst h0; rfl
    · have : decide ((j - 1) / 2 < k + 1) = decide ((j - 1) / 2 < k) := by apply decide_eq_decide.2; omega
      rw [this]

/-- SumsDiffer -/
def dfB (a b : List Int) : Bool := treeB a && treeB b
def dfL (a b : List Int) : List Int := if dfB a b then outL (dff a b) 31 else []
def dfN (a b : List Int) : Int := if dfB a b then ((cnt (opn (dff a b)) 31 : Nat) : Int) else -1

end Go.Proofs.Ytkpfpnmokknbaaa
