/- Registers as lists: what the functions of chapter 13 compute. -/
import Derived.Test.YtcjlohikfjafiaaMA
namespace Go.Proofs.Ytcjlohikfjafiaa
set_option linter.unusedVariables false

/-- a replica: version, writer, value -/
structure Ls where
  e : Int
  o : Int
  u : Int

def gl (L : List Ls) (i : Nat) : Ls := L.getD i ⟨0, 0, 0⟩
theorem gl_get {L : List Ls} {i : Nat} (h : i < L.length) : gl L i = L[i] := by simp [gl, List.getElem?_eq_getElem h]
theorem gl_ext {L M : List Ls} (hl : L.length = M.length) (h : ∀ i, i < L.length → gl L i = gl M i) : L = M := by
  apply List.ext_getElem hl
  intro i h1 h2
  have := h i h1
  rwa [gl_get h1, gl_get h2] at this
theorem gl_set_eq {L : List Ls} {i : Nat} (x : Ls) (h : i < L.length) : gl (L.set i x) i = x := by
  rw [gl_get (by simpa using h)]; simp
theorem gl_set_ne {L : List Ls} {i j : Nat} (x : Ls) (h : i ≠ j) : gl (L.set i x) j = gl L j := by
  simp [gl, List.getElem?_set_ne h]
theorem gl_out {L : List Ls} {i : Nat} (h : L.length ≤ i) : gl L i = ⟨0, 0, 0⟩ := by simp [gl, List.getElem?_eq_none h]

def vlB (u : Int) : Bool := decide (0 ≤ u ∧ u ≤ 99)
theorem vlB_iff (u : Int) : vlB u = true ↔ 0 ≤ u ∧ u ≤ 99 := by simp [vlB]
def vsB (e : Int) : Bool := decide (1 ≤ e ∧ e ≤ 99)
theorem vsB_iff (e : Int) : vsB e = true ↔ 1 ≤ e ∧ e ≤ 99 := by simp [vsB]
/-- a valid replica -/
def lzB (x : Ls) : Bool := if x.e = 0 then decide (x.o = 0 ∧ x.u = 0) else vsB x.e && ptB x.o && vlB x.u
theorem lzB_z {x : Ls} (h : x.e = 0) : lzB x = decide (x.o = 0 ∧ x.u = 0) := by simp [lzB, h]
theorem lzB_p {x : Ls} (h : x.e ≠ 0) : lzB x = (vsB x.e && ptB x.o && vlB x.u) := by simp [lzB, h]
theorem lzB_iff (x : Ls) : lzB x = true ↔ (x.e = 0 ∧ x.o = 0 ∧ x.u = 0) ∨ (1 ≤ x.e ∧ x.e ≤ 99) ∧ (0 ≤ x.o ∧ x.o < 64) ∧ 0 ≤ x.u ∧ x.u ≤ 99 := by
  unfold lzB
  split
  · rename_i h; simp [h]
  · rename_i h; simp [vsB_iff, ptB_iff, vlB_iff, and_assoc, h]
/-- x is older than y -/
def ltB (x y : Ls) : Bool := decide (x.e < y.e ∨ (x.e = y.e ∧ x.o < y.o))
theorem ltB_iff (x y : Ls) : ltB x y = true ↔ x.e < y.e ∨ (x.e = y.e ∧ x.o < y.o) := by simp [ltB]
theorem ltB_no (x y : Ls) : ltB x y = false ↔ y.e < x.e ∨ (x.e = y.e ∧ y.o ≤ x.o) := by simp [ltB]; omega
/-- same version and writer, another value -/
def cfB (x y : Ls) : Bool := decide (x.e = y.e ∧ x.o = y.o ∧ x.u ≠ y.u)
theorem cfB_iff (x y : Ls) : cfB x y = true ↔ x.e = y.e ∧ x.o = y.o ∧ x.u ≠ y.u := by simp [cfB]
theorem cfB_no (x y : Ls) : cfB x y = false ↔ (x.e = y.e → x.o = y.o → x.u = y.u) := by simp [cfB]
theorem cfB_swap (x y : Ls) : cfB x y = cfB y x := by
  rw [Bool.eq_iff_iff, cfB_iff, cfB_iff]; omega
/-- none of the first n contradicts x -/
def fineTo (L : List Ls) (x : Ls) : Nat → Bool
  | 0 => true
  | k + 1 => fineTo L x k && !cfB x (gl L k)
theorem fineTo_iff (L : List Ls) (x : Ls) (n : Nat) : fineTo L x n = true ↔ ∀ j, j < n → cfB x (gl L j) = false := by
  induction n with
  | zero => simp [fineTo]
  | succ n ih =>
    simp only [fineTo, Bool.and_eq_true, ih, Bool.not_eq_true']
    refine ⟨fun h k hk => ?_, fun h => ⟨fun k hk => h k (by omega), h n (by omega)⟩⟩
    rcases Nat.lt_or_ge k n with h' | h'
    · exact h.1 k h'
    · obtain rfl : k = n := by omega
      exact h.2
theorem fineTo_no {L : List Ls} {x : Ls} {n j : Nat} (hj : j < n) (h : cfB x (gl L j) = true) : fineTo L x n = false := by
  rcases hb : fineTo L x n with _ | _
  · rfl
  · rw [(fineTo_iff L x n).1 hb j hj] at h; cases h
theorem fineTo_s {L : List Ls} {x : Ls} {k : Nat} (h : fineTo L x k = true) (hk : cfB x (gl L k) = false) : fineTo L x (k + 1) = true := by simp [fineTo, h, hk]
def okL (L : List Ls) (k : Nat) : Bool := lzB (gl L k) && fineTo L (gl L k) k
def okTo (L : List Ls) : Nat → Bool
  | 0 => true
  | k + 1 => okTo L k && okL L k
/-- the register is valid -/
def lvB (L : List Ls) : Bool := decide (1 ≤ L.length ∧ L.length ≤ 5) && okTo L L.length

theorem okTo_iff (L : List Ls) (n : Nat) : okTo L n = true ↔ ∀ k, k < n → okL L k = true := by
  induction n with
  | zero => simp [okTo]
  | succ n ih =>
    simp only [okTo, Bool.and_eq_true, ih]
    refine ⟨fun h k hk => ?_, fun h => ⟨fun k hk => h k (by omega), h n (by omega)⟩⟩
    rcases Nat.lt_or_ge k n with h' | h'
    · exact h.1 k h'
    · obtain rfl : k = n := by omega
      exact h.2
theorem okTo_no {L : List Ls} {n k : Nat} (hk : k < n) (h : okL L k = false) : okTo L n = false := by
  rcases hb : okTo L n with _ | _
  · rfl
  · rw [(okTo_iff L n).1 hb k hk] at h; cases h
theorem lvB_no {L : List Ls} {k : Nat} (hk : k < L.length) (h : okL L k = false) : lvB L = false := by
  simp only [lvB, okTo_no hk h, Bool.and_false]
theorem lvB_no_ls {L : List Ls} {k : Nat} (hk : k < L.length) (h : lzB (gl L k) = false) : lvB L = false := lvB_no hk (by simp only [okL, h, Bool.false_and])
theorem lvB_no_cf {L : List Ls} {j k : Nat} (hk : k < L.length) (hj : j < k) (h : cfB (gl L k) (gl L j) = true) : lvB L = false :=
  lvB_no hk (by simp only [okL, fineTo_no hj h, Bool.and_false])
theorem lvB_no_fine {L : List Ls} {k : Nat} (hk : k < L.length) (h : fineTo L (gl L k) k = false) : lvB L = false :=
  lvB_no hk (by simp only [okL, h, Bool.and_false])
theorem lvB_no_len {L : List Ls} (h : ¬ (1 ≤ L.length ∧ L.length ≤ 5)) : lvB L = false := by
  simp only [lvB, Bool.and_eq_false_iff, decide_eq_false_iff_not]; exact .inl h
theorem lvB_yes {L : List Ls} (h1 : 1 ≤ L.length) (h2 : L.length ≤ 5) (h : okTo L L.length = true) : lvB L = true := by
  simp only [lvB, h, Bool.and_true, decide_eq_true_eq]; exact ⟨h1, h2⟩
theorem lvB_all {L : List Ls} (h : okTo L L.length = true) : lvB L = decide (1 ≤ L.length ∧ L.length ≤ 5) := by
  simp only [lvB, h, Bool.and_true]
theorem okTo_s {L : List Ls} {j : Nat} (h : okTo L j = true) (hp : lzB (gl L j) = true) (hl : fineTo L (gl L j) j = true) : okTo L (j + 1) = true := by
  rw [okTo, h]; simp [okL, hp, hl]
theorem lv_len {L : List Ls} (h : lvB L = true) : 1 ≤ L.length ∧ L.length ≤ 5 := by
  simp only [lvB, Bool.and_eq_true, decide_eq_true_eq] at h; exact h.1
theorem lv_ok {L : List Ls} (h : lvB L = true) {k : Nat} (hk : k < L.length) : okL L k = true := by
  simp only [lvB, Bool.and_eq_true] at h; exact (okTo_iff _ _).1 h.2 k hk
theorem lv_ls {L : List Ls} (h : lvB L = true) {k : Nat} (hk : k < L.length) : lzB (gl L k) = true := by
  have := lv_ok h hk; simp only [okL, Bool.and_eq_true] at this; exact this.1
theorem lv_cf {L : List Ls} (h : lvB L = true) {j k : Nat} (hj : j < L.length) (hk : k < L.length) : cfB (gl L k) (gl L j) = false := by
  have key : ∀ {a b : Nat}, a < b → b < L.length → cfB (gl L b) (gl L a) = false := by
    intro a b hab hb
    have := lv_ok h hb; simp only [okL, Bool.and_eq_true] at this
    exact (fineTo_iff _ _ _).1 this.2 a hab
  rcases Nat.lt_trichotomy j k with h' | h' | h'
  · exact key h' hk
  · subst h'; simp [cfB]
  · rw [cfB_swap]; exact key h' hj
theorem lv_of {L : List Ls} (h1 : 1 ≤ L.length) (h2 : L.length ≤ 5) (hs : ∀ k, k < L.length → lzB (gl L k) = true) (hc : ∀ j k, j < k → k < L.length → cfB (gl L k) (gl L j) = false) : lvB L = true :=
  lvB_yes h1 h2 ((okTo_iff _ _).2 fun k hk => by
    simp only [okL, hs k hk, Bool.true_and]
    exact (fineTo_iff _ _ _).2 fun j hj => hc j k hj hk)

/-- comparing two numbers -/
def cmI (a b : Int) : Int := if a < b then -1 else if b < a then 1 else 0
theorem cmI_lt {a b : Int} (h : a < b) : cmI a b = -1 := by simp [cmI, h]
theorem cmI_gt {a b : Int} (h : b < a) : cmI a b = 1 := by unfold cmI; rw [if_neg (by omega), if_pos h]
theorem cmI_eq (a : Int) : cmI a a = 0 := by simp [cmI]
/-- .. two replicas -/
def cmL (x y : Ls) : Int := if cmI x.e y.e = 0 then cmI x.o y.o else cmI x.e y.e
theorem cmL_lt (x y : Ls) : decide (cmL x y < 0) = ltB x y := by
  unfold cmL cmI ltB
  rw [Bool.eq_iff_iff]
  simp only [decide_eq_true_eq]
  split <;> split <;> (try split) <;> omega
theorem cmL_zero (x y : Ls) : (cmL x y == 0) = decide (x.e = y.e ∧ x.o = y.o) := by
  unfold cmL cmI
  rw [Bool.eq_iff_iff]
  simp only [beq_iff_eq, decide_eq_true_eq]
  split <;> split <;> (try split) <;> omega

/-! ### sets -/
def setAt (zs : List Int) (many : Int) (k : Nat) : Bool := decide (0 ≤ gt zs k ∧ gt zs k < many) && (decide (k = 0) || decide (gt zs (k - 1) < gt zs k))
def setTo (zs : List Int) (many : Int) : Nat → Bool
  | 0 => true
  | k + 1 => setTo zs many k && setAt zs many k
/-- a set of replicas of a register that has many -/
def setB (zs : List Int) (many : Int) : Bool := setTo zs many zs.length
theorem setTo_iff (zs : List Int) (many : Int) (n : Nat) : setTo zs many n = true ↔ ∀ k, k < n → setAt zs many k = true := by
  induction n with
  | zero => simp [setTo]
  | succ n ih =>
    simp only [setTo, Bool.and_eq_true, ih]
    refine ⟨fun h k hk => ?_, fun h => ⟨fun k hk => h k (by omega), h n (by omega)⟩⟩
    rcases Nat.lt_or_ge k n with h' | h'
    · exact h.1 k h'
    · obtain rfl : k = n := by omega
      exact h.2
theorem setB_no {zs : List Int} {many : Int} {k : Nat} (hk : k < zs.length) (h : setAt zs many k = false) : setB zs many = false := by
  rcases hb : setB zs many with _ | _
  · rfl
  · rw [(setTo_iff zs many _).1 hb k hk] at h; cases h
theorem setB_no_in {zs : List Int} {many : Int} {k : Nat} (hk : k < zs.length) (h : ¬ (0 ≤ gt zs k ∧ gt zs k < many)) : setB zs many = false :=
  setB_no hk (by simp [setAt, h])
theorem setB_no_lt {zs : List Int} {many : Int} {j : Nat} (hk : j + 1 < zs.length) (h : gt zs (j + 1) ≤ gt zs j) : setB zs many = false := by
  refine setB_no hk ?_
  simp only [setAt, Nat.add_sub_cancel, Bool.and_eq_false_iff, Bool.or_eq_false_iff, decide_eq_false_iff_not]
  exact .inr ⟨by omega, by omega⟩
theorem setTo_z {zs : List Int} {many : Int} (h : 0 ≤ gt zs 0) (h' : gt zs 0 < many) : setTo zs many 1 = true := by simp [setTo, setAt, h, h']
theorem setTo_s {zs : List Int} {many : Int} {j : Nat} (h : setTo zs many (j + 1) = true) (h0 : 0 ≤ gt zs (j + 1)) (h1 : gt zs (j + 1) < many) (hl : gt zs j < gt zs (j + 1)) : setTo zs many (j + 1 + 1) = true := by
  rw [setTo, h]; simp only [Bool.true_and, setAt, Nat.add_sub_cancel, Bool.and_eq_true, Bool.or_eq_true, decide_eq_true_eq]; exact ⟨⟨h0, h1⟩, .inr hl⟩
theorem set_in {zs : List Int} {many : Int} (h : setB zs many = true) {k : Nat} (hk : k < zs.length) : 0 ≤ gt zs k ∧ gt zs k < many := by
  have := (setTo_iff zs many _).1 h k hk
  simp only [setAt, Bool.and_eq_true, decide_eq_true_eq] at this; exact this.1
theorem set_step {zs : List Int} {many : Int} (h : setB zs many = true) {k : Nat} (hk : k + 1 < zs.length) : gt zs k < gt zs (k + 1) := by
  have := (setTo_iff zs many _).1 h (k + 1) hk
  simp only [setAt, Bool.and_eq_true, Bool.or_eq_true, decide_eq_true_eq, Nat.add_sub_cancel] at this
  rcases this.2 with h' | h'
  · omega
  · exact h'
theorem set_ge {zs : List Int} {many : Int} (h : setB zs many = true) : ∀ {k : Nat}, k < zs.length → (k : Int) ≤ gt zs k
  | 0, hk => (set_in h hk).1
  | k + 1, hk => by have h1 := set_step h hk; have h2 := set_ge h (k := k) (by omega); push_cast; omega
theorem set_len {zs : List Int} {many : Int} (h : setB zs many = true) (hm : 0 ≤ many) : (zs.length : Int) ≤ many := by
  rcases Nat.eq_zero_or_pos zs.length with h0 | h0
  · omega
  · have h1 := set_ge h (k := zs.length - 1) (by omega)
    have h2 := set_in h (k := zs.length - 1) (by omega)
    omega

/-! ### writing -/
/-- x written at one place -/
def put1 (L : List Ls) (x : Ls) (i : Nat) : List Ls := if ltB (gl L i) x then L.set i x else L
theorem put1_yes {L : List Ls} {x : Ls} {i : Nat} (h : ltB (gl L i) x = true) : put1 L x i = L.set i x := by simp [put1, h]
theorem put1_no {L : List Ls} {x : Ls} {i : Nat} (h : ltB (gl L i) x = false) : put1 L x i = L := by simp [put1, h]
theorem put1_len (L : List Ls) (x : Ls) (i : Nat) : (put1 L x i).length = L.length := by unfold put1; split <;> simp
theorem put1_at (L : List Ls) (x : Ls) (i : Nat) (hi : i < L.length) (j : Nat) : gl (put1 L x i) j = if j = i ∧ ltB (gl L i) x = true then x else gl L j := by
  by_cases h : ltB (gl L i) x = true
  · rw [put1_yes h]
    by_cases e : j = i
    · subst e; rw [gl_set_eq _ hi, if_pos ⟨rfl, h⟩]
    · rw [gl_set_ne _ (Ne.symm e), if_neg (by simp [e])]
  · rw [put1_no (by simpa using h), if_neg (by simp [h])]
/-- .. at the first k places of a list -/
def putTo (L : List Ls) (x : Ls) (zs : List Int) : Nat → List Ls
  | 0 => L
  | k + 1 => put1 (putTo L x zs k) x (gt zs k).toNat
def putL (L : List Ls) (x : Ls) (zs : List Int) : List Ls := putTo L x zs zs.length
theorem putTo_len (L : List Ls) (x : Ls) (zs : List Int) (k : Nat) : (putTo L x zs k).length = L.length := by
  induction k with
  | zero => rfl
  | succ k ih => rw [putTo, put1_len, ih]
theorem putL_len (L : List Ls) (x : Ls) (zs : List Int) : (putL L x zs).length = L.length := putTo_len _ _ _ _
/-- j is among the first k numbers -/
def inTo (zs : List Int) (j : Int) : Nat → Bool
  | 0 => false
  | k + 1 => inTo zs j k || decide (gt zs k = j)
theorem inTo_iff (zs : List Int) (j : Int) (n : Nat) : inTo zs j n = true ↔ ∃ i, i < n ∧ gt zs i = j := by
  induction n with
  | zero => simp [inTo]
  | succ n ih =>
    simp only [inTo, Bool.or_eq_true, ih, decide_eq_true_eq]
    refine ⟨fun h => ?_, fun ⟨i, hi, hv⟩ => ?_⟩
    · rcases h with ⟨i, hi, hv⟩ | h
      · exact ⟨i, by omega, hv⟩
      · exact ⟨n, by omega, h⟩
    · rcases Nat.lt_or_ge i n with h' | h'
      · exact .inl ⟨i, h', hv⟩
      · obtain rfl : i = n := by omega
        exact .inr hv
theorem inTo_no {zs : List Int} {j : Int} {k : Nat} (h : inTo zs j k = false) (hk : gt zs k ≠ j) : inTo zs j (k + 1) = false := by simp [inTo, h, hk]
theorem inTo_yes {zs : List Int} {j : Int} {k n : Nat} (hk : k < n) (h : gt zs k = j) : inTo zs j n = true := (inTo_iff _ _ _).2 ⟨k, hk, h⟩
/-- what stands behind writing -/
theorem putTo_at {L : List Ls} {x : Ls} {zs : List Int} {k : Nat} (hs : ∀ i, i < k → 0 ≤ gt zs i ∧ gt zs i < L.length) {j : Nat} (hj : j < L.length) :
    gl (putTo L x zs k) j = if (inTo zs j k && ltB (gl L j) x) = true then x else gl L j := by
  induction k with
  | zero => simp [putTo, inTo]
  | succ k ih =>
    have hk := hs k (by omega)
    have ih := ih (fun i hi => hs i (by omega))
    have hi : (gt zs k).toNat < (putTo L x zs k).length := by rw [putTo_len]; omega
    have hxx : ltB x x = false := by rw [ltB_no]; omega
    rw [putTo, put1_at _ _ _ hi]
    by_cases e : j = (gt zs k).toNat
    · subst e
      have e1 : inTo zs (((gt zs k).toNat : Nat) : Int) (k + 1) = true := inTo_yes (k := k) (by omega) (by omega)
      rw [ih, e1]
      cases hl : ltB (gl L (gt zs k).toNat) x
      · simp [hl]
      · cases h2 : inTo zs (((gt zs k).toNat : Nat) : Int) k
        · simp [hl]
        · simp [hxx]
    · have e1 : inTo zs (j : Int) (k + 1) = inTo zs (j : Int) k := by
        have : ¬ gt zs k = (j : Int) := by omega
        simp [inTo, this]
      rw [if_neg (fun h => e h.1), ih, e1]
theorem putL_at {L : List Ls} {x : Ls} {zs : List Int} (hs : setB zs L.length = true) {j : Nat} (hj : j < L.length) :
    gl (putL L x zs) j = if (inTo zs j zs.length && ltB (gl L j) x) = true then x else gl L j := putTo_at (fun i hi => set_in hs hi) hj
/-- what RegisterPart answers -/
def partR (L : List Ls) (zs : List Int) (x : Ls) : List Ls × Bool :=
  if lvB L && setB zs L.length && lzB x && lvB (putL L x zs) then (putL L x zs, true) else ([], false)
theorem partR_no1 {L : List Ls} {zs : List Int} {x : Ls} (h : lvB L = false) : partR L zs x = ([], false) := by simp [partR, h]
theorem partR_no2 {L : List Ls} {zs : List Int} {x : Ls} (h : setB zs L.length = false) : partR L zs x = ([], false) := by simp [partR, h]
theorem partR_no3 {L : List Ls} {zs : List Int} {x : Ls} (h : lzB x = false) : partR L zs x = ([], false) := by simp [partR, h]
theorem partR_no4 {L : List Ls} {zs : List Int} {x : Ls} (h : lvB (putL L x zs) = false) : partR L zs x = ([], false) := by simp [partR, h]
theorem partR_yes {L : List Ls} {zs : List Int} {x : Ls} (h1 : lvB L = true) (h2 : setB zs L.length = true) (h3 : lzB x = true) (h4 : lvB (putL L x zs) = true) : partR L zs x = (putL L x zs, true) := by simp [partR, h1, h2, h3, h4]
theorem partR_ok {L : List Ls} {zs : List Int} {x : Ls} (h : (partR L zs x).2 = true) : lvB L = true ∧ setB zs L.length = true ∧ lzB x = true ∧ lvB (putL L x zs) = true ∧ (partR L zs x).1 = putL L x zs := by
  unfold partR at h ⊢
  split at h
  · rename_i hc
    simp only [Bool.and_eq_true] at hc
    exact ⟨hc.1.1.1, hc.1.1.2, hc.1.2, hc.2, by simp [hc]⟩
  · cases h
theorem partR_bad {L : List Ls} {zs : List Int} {x : Ls} (h : (partR L zs x).2 = false) : (partR L zs x).1 = [] := by
  unfold partR at h ⊢
  split at h
  · cases h
  · rename_i hc; rw [if_neg hc]
theorem partR_len (L : List Ls) (zs : List Int) (x : Ls) : (partR L zs x).1.length ≤ 5 := by
  rcases hb : (partR L zs x).2 with _ | _
  · rw [partR_bad hb]; simp
  · obtain ⟨h1, _, _, _, h5⟩ := partR_ok hb
    rw [h5, putL_len]; exact (lv_len h1).2
/-- writing twice has no further effect -/
theorem putL_twice {L : List Ls} {zs : List Int} {x : Ls} (h : setB zs L.length = true) : putL (putL L x zs) x zs = putL L x zs := by
  refine gl_ext (by rw [putL_len]) fun j hj => ?_
  rw [putL_len, putL_len] at hj
  have hxx : ltB x x = false := by rw [ltB_no]; omega
  rw [putL_at (by rw [putL_len]; exact h) (by rw [putL_len]; exact hj), putL_at h hj]
  cases h1 : inTo zs (j : Int) zs.length
  · simp
  · cases h2 : ltB (gl L j) x
    · simp [h2]
    · simp [hxx]
end Go.Proofs.Ytcjlohikfjafiaa
