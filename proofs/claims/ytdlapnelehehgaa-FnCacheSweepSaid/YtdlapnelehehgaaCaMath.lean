/- Caches as lists: what the functions of chapter 23 compute. -/
import Derived.Test.YtdlapnelehehgaaMA
namespace Go.Proofs.Ytdlapnelehehgaa
set_option linter.unusedVariables false

/-- an entry: key, value, time -/
structure Ls where
  e : Int
  o : Int
  u : Int

def gl (L : List Ls) (i : Nat) : Ls := L.getD i ⟨0, 0, 0⟩
theorem gl_get {L : List Ls} {i : Nat} (h : i < L.length) : gl L i = L[i] := by simp [gl, List.getElem?_eq_getElem h]
theorem gl_ext {L M : List Ls} (hl : L.length = M.length) (h : ∀ i, i < L.length → gl L i = gl M i) : L = M := by
  apply List.ext_getElem hl
  intro i h1 h2
  have := h i h1
  rwa [gl_get h1, gl_get h2] at this
theorem gl_set_eq {L : List Ls} {i : Nat} (x : Ls) (h : i < L.length) : gl (L.set i x) i = x := by
  rw [gl_get (by simpa using h)]; simp
theorem gl_set_ne {L : List Ls} {i j : Nat} (x : Ls) (h : i ≠ j) : gl (L.set i x) j = gl L j := by
  simp [gl, List.getElem?_set_ne h]
theorem gl_out {L : List Ls} {i : Nat} (h : L.length ≤ i) : gl L i = ⟨0, 0, 0⟩ := by simp [gl, List.getElem?_eq_none h]
theorem gl_mem {L : List Ls} {i : Nat} (h : i < L.length) : gl L i ∈ L := by rw [gl_get h]; exact List.getElem_mem _
theorem mem_gl {L : List Ls} {x : Ls} (h : x ∈ L) : ∃ i, i < L.length ∧ gl L i = x := by
  obtain ⟨i, hi, he⟩ := List.getElem_of_mem h
  exact ⟨i, hi, by rw [gl_get hi]; exact he⟩
theorem take_succ {L : List Ls} {k : Nat} (h : k < L.length) : L.take (k + 1) = L.take k ++ [gl L k] := by
  rw [List.take_succ_eq_append_getElem h, gl_get h]

def tmB (u : Int) : Bool := decide (0 ≤ u ∧ u ≤ 999)
theorem tmB_iff (u : Int) : tmB u = true ↔ 0 ≤ u ∧ u ≤ 999 := by simp [tmB]
theorem tmB_no (u : Int) : tmB u = false ↔ u < 0 ∨ 999 < u := by simp [tmB]; omega
def vlB (u : Int) : Bool := decide (0 ≤ u ∧ u ≤ 99)
theorem vlB_iff (u : Int) : vlB u = true ↔ 0 ≤ u ∧ u ≤ 99 := by simp [vlB]
/-- each of the three numbers is in its range -/
def lzB (x : Ls) : Bool := ptB x.e && vlB x.o && tmB x.u
theorem lzB_iff (x : Ls) : lzB x = true ↔ (0 ≤ x.e ∧ x.e < 64) ∧ (0 ≤ x.o ∧ x.o ≤ 99) ∧ 0 ≤ x.u ∧ x.u ≤ 999 := by
  simp [lzB, ptB_iff, tmB_iff, vlB_iff, and_assoc]
def okL (L : List Ls) (k : Nat) : Bool := lzB (gl L k) && (decide (k = 0) || decide ((gl L (k - 1)).e < (gl L k).e))
def okTo (L : List Ls) : Nat → Bool
  | 0 => true
  | k + 1 => okTo L k && okL L k
/-- the cache is valid -/
def lvB (L : List Ls) : Bool := decide (L.length ≤ 6) && okTo L L.length

theorem okTo_iff (L : List Ls) (n : Nat) : okTo L n = true ↔ ∀ k, k < n → okL L k = true := by
  induction n with
  | zero => simp [okTo]
  | succ n ih =>
    simp only [okTo, Bool.and_eq_true, ih]
    refine ⟨fun h k hk => ?_, fun h => ⟨fun k hk => h k (by omega), h n (by omega)⟩⟩
    rcases Nat.lt_or_ge k n with h' | h'
    · exact h.1 k h'
    · obtain rfl : k = n := by omega
      exact h.2
theorem okTo_no {L : List Ls} {n k : Nat} (hk : k < n) (h : okL L k = false) : okTo L n = false := by
  rcases hb : okTo L n with _ | _
  · rfl
  · rw [(okTo_iff L n).1 hb k hk] at h; cases h
theorem lvB_no {L : List Ls} {k : Nat} (hk : k < L.length) (h : okL L k = false) : lvB L = false := by
  simp only [lvB, okTo_no hk h, Bool.and_false]
theorem lvB_no_ls {L : List Ls} {k : Nat} (hk : k < L.length) (h : lzB (gl L k) = false) : lvB L = false := lvB_no hk (by simp only [okL, h, Bool.false_and])
theorem lvB_no_lt {L : List Ls} {j : Nat} (hk : j + 1 < L.length) (h : (gl L (j + 1)).e ≤ (gl L j).e) : lvB L = false := by
  refine lvB_no hk ?_
  simp only [okL, Nat.add_sub_cancel, Bool.and_eq_false_iff, Bool.or_eq_false_iff, decide_eq_false_iff_not]
  exact .inr ⟨by omega, by omega⟩
theorem lvB_no_len {L : List Ls} (h : ¬ L.length ≤ 6) : lvB L = false := by
  simp only [lvB, Bool.and_eq_false_iff, decide_eq_false_iff_not]; exact .inl h
theorem lvB_yes {L : List Ls} (h2 : L.length ≤ 6) (h : okTo L L.length = true) : lvB L = true := by
  simp only [lvB, h, Bool.and_true, decide_eq_true_eq]; exact h2
theorem lvB_all {L : List Ls} (h : okTo L L.length = true) : lvB L = decide (L.length ≤ 6) := by simp only [lvB, h, Bool.and_true]
theorem okTo_z {L : List Ls} (h : lzB (gl L 0) = true) : okTo L 1 = true := by simp [okTo, okL, h]
theorem okTo_s {L : List Ls} {j : Nat} (h : okTo L (j + 1) = true) (hp : lzB (gl L (j + 1)) = true) (hl : (gl L j).e < (gl L (j + 1)).e) : okTo L (j + 1 + 1) = true := by
  rw [okTo, h]; simp only [Bool.true_and, okL, hp, Nat.add_sub_cancel, Bool.or_eq_true, decide_eq_true_eq]; exact .inr hl
theorem lv_len {L : List Ls} (h : lvB L = true) : L.length ≤ 6 := by
  simp only [lvB, Bool.and_eq_true, decide_eq_true_eq] at h; exact h.1
theorem lv_ok {L : List Ls} (h : lvB L = true) {k : Nat} (hk : k < L.length) : okL L k = true := by
  simp only [lvB, Bool.and_eq_true] at h; exact (okTo_iff _ _).1 h.2 k hk
theorem lv_ls {L : List Ls} (h : lvB L = true) {k : Nat} (hk : k < L.length) : lzB (gl L k) = true := by
  have := lv_ok h hk; simp only [okL, Bool.and_eq_true] at this; exact this.1
theorem lv_e {L : List Ls} (h : lvB L = true) {k : Nat} (hk : k < L.length) : 0 ≤ (gl L k).e ∧ (gl L k).e < 64 := ((lzB_iff _).1 (lv_ls h hk)).1
theorem lv_o {L : List Ls} (h : lvB L = true) {k : Nat} (hk : k < L.length) : 0 ≤ (gl L k).o ∧ (gl L k).o ≤ 99 := ((lzB_iff _).1 (lv_ls h hk)).2.1
theorem lv_u {L : List Ls} (h : lvB L = true) {k : Nat} (hk : k < L.length) : 0 ≤ (gl L k).u ∧ (gl L k).u ≤ 999 := ((lzB_iff _).1 (lv_ls h hk)).2.2
theorem lv_step {L : List Ls} (h : lvB L = true) {k : Nat} (hk : k + 1 < L.length) : (gl L k).e < (gl L (k + 1)).e := by
  have := lv_ok h hk
  simp only [okL, Bool.and_eq_true, Bool.or_eq_true, decide_eq_true_eq, Nat.add_sub_cancel] at this
  rcases this.2 with h' | h'
  · omega
  · exact h'
theorem lv_lt {L : List Ls} (h : lvB L = true) {i j : Nat} (hij : i < j) (hj : j < L.length) : (gl L i).e < (gl L j).e := by
  induction j with
  | zero => omega
  | succ j ih =>
    have h1 := lv_step h hj
    rcases Nat.lt_or_ge i j with h' | h'
    · have := ih h' (by omega); omega
    · obtain rfl : i = j := by omega
      exact h1
/-- ascending by key -/
def ordL (L : List Ls) : Prop := L.Pairwise fun x y => x.e < y.e
theorem lv_ord {L : List Ls} (h : lvB L = true) : ordL L := by
  unfold ordL
  rw [List.pairwise_iff_getElem]
  intro i j hi hj hij
  have := lv_lt h hij hj
  rwa [gl_get hi, gl_get hj] at this
theorem lv_of {L : List Ls} (h2 : L.length ≤ 6) (hs : ∀ x ∈ L, lzB x = true) (hl : ordL L) : lvB L = true := by
  refine lvB_yes h2 ((okTo_iff _ _).2 fun k hk => ?_)
  have h1 : lzB (gl L k) = true := hs _ (gl_mem hk)
  simp only [okL, h1, Bool.true_and, Bool.or_eq_true, decide_eq_true_eq]
  rcases k with _ | k
  · exact .inl rfl
  · refine .inr ?_
    have := (List.pairwise_iff_getElem.1 hl) k (k + 1) (by omega) hk (by omega)
    rwa [← gl_get, ← gl_get] at this
theorem lv_mem {L : List Ls} (h : lvB L = true) {x : Ls} (hx : x ∈ L) : lzB x = true := by
  obtain ⟨i, hi, rfl⟩ := mem_gl hx
  exact lv_ls h hi
theorem lv_sub {L M : List Ls} (h : lvB L = true) (hs : M.Sublist L) : lvB M = true :=
  lv_of (Nat.le_trans hs.length_le (lv_len h)) (fun x hx => lv_mem h (hs.subset hx)) (List.Pairwise.sublist hs (lv_ord h))
theorem lv_nil : lvB [] = true := rfl
theorem ord_eq {L : List Ls} (h : ordL L) {x y : Ls} (hx : x ∈ L) (hy : y ∈ L) (he : x.e = y.e) : x = y := by
  obtain ⟨i, hi, rfl⟩ := List.getElem_of_mem hx
  obtain ⟨j, hj, rfl⟩ := List.getElem_of_mem hy
  rcases Nat.lt_trichotomy i j with h' | h' | h'
  · have := List.pairwise_iff_getElem.1 h i j hi hj h'; omega
  · subst h'; rfl
  · have := List.pairwise_iff_getElem.1 h j i hj hi h'; omega
theorem ord_idx {L : List Ls} (h : lvB L = true) {i j : Nat} (hi : i < L.length) (hj : j < L.length) (he : (gl L i).e = (gl L j).e) : i = j := by
  rcases Nat.lt_trichotomy i j with h' | h' | h'
  · have := lv_lt h h' hj; omega
  · exact h'
  · have := lv_lt h h' hi; omega

/-! ### reading -/
/-- an entry is used -/
def frB (x : Ls) (now : Int) : Bool := decide (x.u ≤ now ∧ now ≤ x.u + 10)
theorem frB_iff (x : Ls) (now : Int) : frB x now = true ↔ x.u ≤ now ∧ now ≤ x.u + 10 := by simp [frB]
def htB (key now : Int) (x : Ls) : Bool := decide (x.e = key) && frB x now
theorem htB_iff (key now : Int) (x : Ls) : htB key now x = true ↔ x.e = key ∧ frB x now = true := by simp [htB]
def getOk (L : List Ls) (key now : Int) : Bool := lvB L && ptB key && tmB now
theorem getOk_iff (L : List Ls) (key now : Int) : getOk L key now = true ↔ lvB L = true ∧ (0 ≤ key ∧ key < 64) ∧ 0 ≤ now ∧ now ≤ 999 := by
  simp [getOk, ptB_iff, tmB_iff, and_assoc]
def getR (L : List Ls) (key now : Int) : Int × Bool :=
  if getOk L key now = true then (match L.find? (htB key now) with | some x => (x.o, true) | none => (0, false)) else (0, false)
theorem get_bad {L : List Ls} {key now : Int} (h : getOk L key now = false) : getR L key now = (0, false) := by unfold getR; rw [if_neg (by rw [h]; decide)]
theorem get_no {L : List Ls} {key now : Int} (h : ∀ x ∈ L, htB key now x = false) : getR L key now = (0, false) := by
  unfold getR
  split
  · have : L.find? (htB key now) = none := List.find?_eq_none.2 fun x hx => by rw [h x hx]; decide
    rw [this]
  · rfl
theorem get_no_at {L : List Ls} {key now : Int} (h : ∀ i, i < L.length → htB key now (gl L i) = false) : getR L key now = (0, false) :=
  get_no fun x hx => by obtain ⟨i, hi, rfl⟩ := mem_gl hx; exact h i hi
theorem get_yes {L : List Ls} {key now : Int} (h : getOk L key now = true) {x : Ls} (hx : x ∈ L) (ht : htB key now x = true) : getR L key now = (x.o, true) := by
  unfold getR
  rw [if_pos h]
  rcases hf : L.find? (htB key now) with _ | y
  · have := List.find?_eq_none.1 hf x hx; rw [ht] at this; exact absurd rfl this
  · have h1 := List.find?_some hf
    have h2 := List.mem_of_find?_eq_some hf
    have he : y.e = x.e := by rw [((htB_iff _ _ _).1 h1).1, ((htB_iff _ _ _).1 ht).1]
    rw [ord_eq (lv_ord ((getOk_iff _ _ _).1 h).1) h2 hx he]
theorem get_snd {L : List Ls} {key now : Int} (h : (getR L key now).2 = true) : getOk L key now = true ∧ ∃ x ∈ L, htB key now x = true ∧ getR L key now = (x.o, true) := by
  rcases hk : getOk L key now with _ | _
  · rw [get_bad hk] at h; cases h
  · refine ⟨rfl, ?_⟩
    rcases hf : L.find? (htB key now) with _ | y
    · rw [get_no (fun x hx => by have := List.find?_eq_none.1 hf x hx; simpa using this)] at h; cases h
    · have h1 := List.find?_some hf
      have h2 := List.mem_of_find?_eq_some hf
      exact ⟨y, h2, h1, get_yes hk h2 h1⟩
theorem get_val (L : List Ls) (key now : Int) : (getR L key now).2 = false → (getR L key now).1 = 0 := by
  intro h
  unfold getR at h ⊢
  split
  · rename_i hk
    rw [if_pos hk] at h
    split
    · rename_i x hx; rw [hx] at h; cases h
    · rfl
  · rfl

/-! ### removing -/
def dropL (L : List Ls) (key : Int) : List Ls := L.filter fun x => !decide (x.e = key)
theorem mem_drop (L : List Ls) (key : Int) (x : Ls) : x ∈ dropL L key ↔ x ∈ L ∧ x.e ≠ key := by simp [dropL]
theorem drop_sub (L : List Ls) (key : Int) : (dropL L key).Sublist L := List.filter_sublist
theorem drop_le (L : List Ls) (key : Int) : (dropL L key).length ≤ L.length := List.length_filter_le _ _
theorem drop_take {L : List Ls} {key : Int} {k : Nat} (h : k < L.length) : dropL (L.take (k + 1)) key = dropL (L.take k) key ++ (if (gl L k).e = key then [] else [gl L k]) := by
  rw [take_succ h]
  simp only [dropL, List.filter_append]
  congr 1
  by_cases he : (gl L k).e = key <;> simp [he]
theorem drop_lv {L : List Ls} (h : lvB L = true) (key : Int) : lvB (dropL L key) = true := lv_sub h (drop_sub _ _)
theorem drop_none {L : List Ls} {key : Int} (h : ∀ x ∈ L, x.e ≠ key) : dropL L key = L := by
  unfold dropL
  rw [List.filter_eq_self]
  intro x hx
  simp [h x hx]
theorem drop_again (L : List Ls) (key : Int) : dropL (dropL L key) key = dropL L key := drop_none fun x hx => ((mem_drop _ _ _).1 hx).2
theorem two_filters (L : List Ls) (p : Ls → Bool) : L.length = (L.filter p).length + (L.filter fun x => !p x).length := by
  induction L with
  | nil => rfl
  | cons x L ih =>
    rcases hp : p x with _ | _
    · simp [hp]; omega
    · simp [hp]; omega
theorem drop_had {L : List Ls} {key : Int} (h : lvB L = true) {x : Ls} (hx : x ∈ L) (he : x.e = key) : (dropL L key).length + 1 = L.length := by
  have hn : (L.filter fun y => decide (y.e = key)).length = 1 := by
    have hnd : ordL (L.filter fun y => decide (y.e = key)) := List.Pairwise.sublist List.filter_sublist (lv_ord h)
    have hall : ∀ y ∈ (L.filter fun y => decide (y.e = key)), y.e = key := fun y hy => by simpa using (List.mem_filter.1 hy).2
    have hm : x ∈ (L.filter fun y => decide (y.e = key)) := List.mem_filter.2 ⟨hx, by simp [he]⟩
    generalize (L.filter fun y => decide (y.e = key)) = M at hnd hall hm
    match M, hnd, hall, hm with
    | [y], _, _, _ => rfl
    | y :: z :: M, hnd, hall, _ =>
      have h1 := (List.pairwise_cons.1 hnd).1 z (by simp)
      have h2 := hall y (by simp)
      have h3 := hall z (by simp)
      omega
  have := two_filters L fun y => decide (y.e = key)
  simp only [dropL]
  omega
theorem drop_len {L : List Ls} {key : Int} (h : lvB L = true) : ((dropL L key).length < L.length ∧ (∃ x ∈ L, x.e = key) ∧ (dropL L key).length + 1 = L.length) ∨ (dropL L key = L ∧ ∀ x ∈ L, x.e ≠ key) := by
  by_cases hx : ∃ x ∈ L, x.e = key
  · obtain ⟨x, hx, he⟩ := hx
    have := drop_had h hx he
    exact .inl ⟨by omega, ⟨x, hx, he⟩, this⟩
  · have h2 : ∀ x ∈ L, x.e ≠ key := fun x hm he => hx ⟨x, hm, he⟩
    exact .inr ⟨drop_none h2, h2⟩
def dropOk (L : List Ls) (key : Int) : Bool := lvB L && ptB key
theorem dropOk_iff (L : List Ls) (key : Int) : dropOk L key = true ↔ lvB L = true ∧ 0 ≤ key ∧ key < 64 := by simp [dropOk, ptB_iff]
def dropR (L : List Ls) (key : Int) : List Ls × Bool := if dropOk L key = true then (dropL L key, decide ((dropL L key).length < L.length)) else ([], false)
theorem dropR_bad {L : List Ls} {key : Int} (h : dropOk L key = false) : dropR L key = ([], false) := by unfold dropR; rw [if_neg (by rw [h]; decide)]
theorem dropR_ok {L : List Ls} {key : Int} (h : dropOk L key = true) : dropR L key = (dropL L key, decide ((dropL L key).length < L.length)) := by unfold dropR; rw [if_pos h]
theorem dropR_had {L : List Ls} {key : Int} (h : dropOk L key = true) (v : Bool) (hv : v = true ↔ ∃ x ∈ L, x.e = key) : dropR L key = (dropL L key, v) := by
  rw [dropR_ok h]
  congr 1
  rw [Bool.eq_iff_iff, hv, decide_eq_true_eq]
  rcases drop_len (key := key) ((dropOk_iff _ _).1 h).1 with ⟨h1, h2, _⟩ | ⟨h1, h2⟩
  · exact ⟨fun _ => h2, fun _ => h1⟩
  · rw [h1]
    exact ⟨fun hh => by omega, fun ⟨x, hx, he⟩ => absurd he (h2 x hx)⟩
theorem dropR_len (L : List Ls) (key : Int) : (dropR L key).1.length ≤ 6 := by
  unfold dropR
  split
  · rename_i h
    exact Nat.le_trans (drop_le _ _) (lv_len ((dropOk_iff _ _).1 h).1)
  · simp

/-! ### the oldest -/
def oldTo (L : List Ls) : Nat → Nat
  | 0 => 0
  | i + 1 => if (gl L i).u < (gl L (oldTo L i)).u then i else oldTo L i
def oldL (L : List Ls) : Nat := oldTo L L.length
theorem oldTo_lt (L : List Ls) (k : Nat) (h : 0 < k) : oldTo L k < k := by
  induction k with
  | zero => omega
  | succ k ih =>
    unfold oldTo
    split
    · omega
    · rcases Nat.eq_zero_or_pos k with h0 | h0
      · subst h0; simp [oldTo]
      · have := ih h0; omega
theorem oldTo_min (L : List Ls) (k : Nat) : ∀ i, i < k → (gl L (oldTo L k)).u ≤ (gl L i).u := by
  induction k with
  | zero => intro i h; omega
  | succ k ih =>
    intro i hi
    unfold oldTo
    split
    · rename_i h
      rcases Nat.lt_or_ge i k with h' | h'
      · have := ih i h'; omega
      · obtain rfl : i = k := by omega
        omega
    · rename_i h
      rcases Nat.lt_or_ge i k with h' | h'
      · exact ih i h'
      · obtain rfl : i = k := by omega
        omega
theorem oldTo_first (L : List Ls) (k : Nat) : ∀ i, i < oldTo L k → (gl L (oldTo L k)).u < (gl L i).u := by
  induction k with
  | zero => intro i h; simp [oldTo] at h
  | succ k ih =>
    intro i hi
    unfold oldTo at hi ⊢
    split
    · rename_i h
      rw [if_pos h] at hi
      have := oldTo_min L k i hi
      omega
    · rename_i h
      rw [if_neg h] at hi
      exact ih i hi
theorem old_lt {L : List Ls} (h : 0 < L.length) : oldL L < L.length := oldTo_lt L _ h
theorem old_min (L : List Ls) {i : Nat} (h : i < L.length) : (gl L (oldL L)).u ≤ (gl L i).u := oldTo_min L _ i h
/-- the oldest is the one with the smallest time, of several the first -/
theorem old_eq {L : List Ls} {k : Nat} (hk : k < L.length) (h1 : ∀ i, i < L.length → (gl L k).u ≤ (gl L i).u) (h2 : ∀ i, i < k → (gl L k).u < (gl L i).u) : oldL L = k := by
  have hl : oldL L < L.length := old_lt (by omega)
  rcases Nat.lt_trichotomy (oldL L) k with h | h | h
  · have := h2 _ h
    have := old_min L hk
    omega
  · exact h
  · have := oldTo_first L L.length k h
    have := h1 _ hl
    unfold oldL at *
    omega

/-! ### storing -/
/-- the first index whose key is not below a key; the length if there is none -/
def fdL (L : List Ls) (key : Int) : Nat := L.findIdx fun x => decide (key ≤ x.e)
theorem fd_le (L : List Ls) (key : Int) : fdL L key ≤ L.length := List.findIdx_le_length
theorem fd_below {L : List Ls} {key : Int} {i : Nat} (h : i < fdL L key) : (gl L i).e < key := by
  have hl := fd_le L key
  have := List.not_of_lt_findIdx h
  rw [gl_get (by omega)]
  simpa using this
theorem fd_at {L : List Ls} {key : Int} (h : fdL L key < L.length) : key ≤ (gl L (fdL L key)).e := by
  have := List.findIdx_getElem (w := h)
  rw [gl_get h]
  exact of_decide_eq_true this
theorem fd_eq {L : List Ls} {key : Int} {k : Nat} (hk : k ≤ L.length) (hb : ∀ i, i < k → (gl L i).e < key) (ha : k < L.length → key ≤ (gl L k).e) : fdL L key = k := by
  rcases Nat.lt_trichotomy (fdL L key) k with h | h | h
  · have h1 := fd_at (L := L) (key := key) (by omega)
    have h2 := hb _ h
    omega
  · exact h
  · have h1 := fd_below h
    have h2 := ha (by have := fd_le L key; omega)
    omega
def insL (L : List Ls) (k : Nat) (x : Ls) : List Ls := L.take k ++ x :: L.drop k
theorem ins_len {L : List Ls} {k : Nat} (x : Ls) : (insL L k x).length = L.length + 1 := by simp [insL]; omega
theorem mem_ins (L : List Ls) (k : Nat) (x y : Ls) : y ∈ insL L k x ↔ y = x ∨ y ∈ L := by
  unfold insL
  rw [List.mem_append, List.mem_cons]
  have h : y ∈ L ↔ y ∈ L.take k ∨ y ∈ L.drop k := by
    conv => lhs; rw [← List.take_append_drop k L]
    exact List.mem_append
  rw [h]
  constructor
  · rintro (h | h | h)
    · exact .inr (.inl h)
    · exact .inl h
    · exact .inr (.inr h)
  · rintro (h | h | h)
    · exact .inr (.inl h)
    · exact .inl h
    · exact .inr (.inr h)
theorem fd_take {L : List Ls} (key : Int) {y : Ls} (h : y ∈ L.take (fdL L key)) : y.e < key := by
  obtain ⟨i, hi, rfl⟩ := List.getElem_of_mem h
  have hi' : i < fdL L key := by simp at hi; omega
  have hl : i < L.length := by have := fd_le L key; omega
  have := fd_below hi'
  rw [gl_get hl] at this
  simpa using this
theorem fd_drop {L : List Ls} (ho : ordL L) (key : Int) {y : Ls} (h : y ∈ L.drop (fdL L key)) : key ≤ y.e := by
  obtain ⟨i, hi, rfl⟩ := List.getElem_of_mem h
  simp only [List.length_drop] at hi
  have hlt : fdL L key < L.length := by omega
  have h1 := fd_at hlt
  rw [gl_get hlt] at h1
  rw [List.getElem_drop]
  rcases Nat.eq_zero_or_pos i with h0 | h0
  · subst h0; simpa using h1
  · have := List.pairwise_iff_getElem.1 ho (fdL L key) (fdL L key + i) hlt (by omega) (by omega)
    omega
theorem ins_ord {L : List Ls} (h : ordL L) {key : Int} (hn : ∀ x ∈ L, x.e ≠ key) (x : Ls) (hx : x.e = key) : ordL (insL L (fdL L key) x) := by
  unfold ordL insL
  rw [List.pairwise_append]
  refine ⟨List.Pairwise.sublist (List.take_sublist _ _) h, ?_, ?_⟩
  · rw [List.pairwise_cons]
    refine ⟨fun y hy => ?_, List.Pairwise.sublist (List.drop_sublist _ _) h⟩
    have h1 := fd_drop h key hy
    have h2 := hn y (List.mem_of_mem_drop hy)
    omega
  · intro a ha b hb
    have h1 := fd_take key ha
    rcases List.mem_cons.1 hb with rfl | hb
    · omega
    · have h2 := fd_drop h key hb
      omega
/-- a cache with room for a key, without it -/
def roomL (L : List Ls) (key : Int) : List Ls := if 6 ≤ (dropL L key).length then dropL (dropL L key) (gl (dropL L key) (oldL (dropL L key))).e else dropL L key
def putL (L : List Ls) (key v now : Int) : List Ls := insL (roomL L key) (fdL (roomL L key) key) ⟨key, v, now⟩
def putOk (L : List Ls) (key v now : Int) : Bool := lvB L && ptB key && vlB v && tmB now
theorem putOk_iff (L : List Ls) (key v now : Int) : putOk L key v now = true ↔ lvB L = true ∧ (0 ≤ key ∧ key < 64) ∧ (0 ≤ v ∧ v ≤ 99) ∧ 0 ≤ now ∧ now ≤ 999 := by
  simp [putOk, ptB_iff, vlB_iff, tmB_iff, and_assoc]
def putR (L : List Ls) (key v now : Int) : List Ls × Bool := if putOk L key v now = true then (putL L key v now, true) else ([], false)
theorem put_bad {L : List Ls} {key v now : Int} (h : putOk L key v now = false) : putR L key v now = ([], false) := by unfold putR; rw [if_neg (by rw [h]; decide)]
theorem put_ok {L : List Ls} {key v now : Int} (h : putOk L key v now = true) : putR L key v now = (putL L key v now, true) := by unfold putR; rw [if_pos h]
theorem put_snd (L : List Ls) (key v now : Int) : (putR L key v now).2 = putOk L key v now := by
  cases h : putOk L key v now
  · rw [put_bad h]
  · rw [put_ok h]
theorem room_full {L : List Ls} {key : Int} (h : 6 ≤ (dropL L key).length) : roomL L key = dropL (dropL L key) (gl (dropL L key) (oldL (dropL L key))).e := by unfold roomL; rw [if_pos h]
theorem room_some {L : List Ls} {key : Int} (h : ¬ 6 ≤ (dropL L key).length) : roomL L key = dropL L key := by unfold roomL; rw [if_neg h]
theorem room_sub (L : List Ls) (key : Int) : (roomL L key).Sublist (dropL L key) := by
  unfold roomL
  split
  · exact drop_sub _ _
  · exact List.Sublist.refl _
theorem room_lv {L : List Ls} (h : lvB L = true) (key : Int) : lvB (roomL L key) = true := lv_sub (drop_lv h key) (room_sub _ _)
theorem room_no (L : List Ls) (key : Int) : ∀ x ∈ roomL L key, x.e ≠ key := fun x hx => ((mem_drop _ _ _).1 ((room_sub L key).subset hx)).2
theorem room_full_len {L : List Ls} {key : Int} (h : lvB L = true) (hf : 6 ≤ (dropL L key).length) : (roomL L key).length = 5 ∧ dropL L key = L ∧ L.length = 6 := by
  have h6 := lv_len h
  have h1 := drop_le L key
  have hl : (dropL L key).length = 6 := by omega
  have hd := drop_lv h key
  have ho : oldL (dropL L key) < (dropL L key).length := old_lt (by omega)
  have := drop_had hd (gl_mem ho) rfl
  rw [room_full hf]
  refine ⟨by omega, ?_, by omega⟩
  rcases drop_len (key := key) h with ⟨h1, h2, h3⟩ | ⟨h1, h2⟩
  · omega
  · exact h1
theorem room_len {L : List Ls} (h : lvB L = true) (key : Int) : (roomL L key).length ≤ 5 := by
  by_cases hf : 6 ≤ (dropL L key).length
  · have := (room_full_len h hf).1; omega
  · rw [room_some hf]; omega
theorem put_lv {L : List Ls} {key v now : Int} (h : putOk L key v now = true) : lvB (putL L key v now) = true := by
  obtain ⟨h1, h2, h3, h4⟩ := (putOk_iff _ _ _ _).1 h
  refine lv_of (by unfold putL; rw [ins_len]; have := room_len h1 key; omega) (fun x hx => ?_) (ins_ord (lv_ord (room_lv h1 key)) (room_no L key) _ rfl)
  rcases (mem_ins _ _ _ _).1 hx with rfl | hx
  · exact (lzB_iff _).2 ⟨h2, h3, h4⟩
  · exact lv_mem (room_lv h1 key) hx
theorem put_len {L : List Ls} {key v now : Int} (h : lvB L = true) : (putL L key v now).length ≤ 6 := by
  unfold putL; rw [ins_len]; have := room_len h key; omega
theorem putR_len (L : List Ls) (key v now : Int) : (putR L key v now).1.length ≤ 6 := by
  unfold putR
  split
  · rename_i h; exact put_len ((putOk_iff _ _ _ _).1 h).1
  · simp
theorem put_mem (L : List Ls) (key v now : Int) : (⟨key, v, now⟩ : Ls) ∈ putL L key v now := (mem_ins _ _ _ _).2 (.inl rfl)
theorem put_key {L : List Ls} {key v now : Int} {x : Ls} (hx : x ∈ putL L key v now) (he : x.e = key) : x = ⟨key, v, now⟩ := by
  rcases (mem_ins _ _ _ _).1 hx with h | h
  · exact h
  · exact absurd he (room_no _ _ _ h)
/-- P118 -/
theorem put_size {L : List Ls} {key v now : Int} (h : lvB L = true) : (putL L key v now).length = if (dropL L key).length < L.length ∨ L.length = 6 then L.length else L.length + 1 := by
  unfold putL
  rw [ins_len]
  by_cases hf : 6 ≤ (dropL L key).length
  · obtain ⟨h1, h2, h3⟩ := room_full_len h hf
    rw [if_pos (.inr h3), h1, h3]
  · rw [room_some hf]
    rcases drop_len (key := key) h with ⟨h1, _, h3⟩ | ⟨h1, _⟩
    · rw [if_pos (.inl h1)]; omega
    · rw [h1] at hf ⊢
      rw [if_neg (by omega)]
/-- P119, P120 -/
theorem put_drop {L : List Ls} {key v now : Int} (h : lvB L = true) : dropL (putL L key v now) key = roomL L key := by
  unfold putL insL dropL
  rw [List.filter_append, List.filter_cons]
  have hn : ∀ M : List Ls, (∀ x ∈ M, x ∈ roomL L key) → M.filter (fun x => !decide (x.e = key)) = M := fun M hM => by
    rw [List.filter_eq_self]
    intro x hx
    simp [room_no L key x (hM x hx)]
  rw [hn _ (fun x hx => List.mem_of_mem_take hx), hn _ (fun x hx => List.mem_of_mem_drop hx)]
  simp
theorem put_put {L : List Ls} {key v now v' now' : Int} (h : lvB L = true) : putL (putL L key v now) key v' now' = putL L key v' now' := by
  have h1 : roomL (putL L key v now) key = roomL L key := by
    have hd := put_drop (v := v) (now := now) (key := key) h
    rw [room_some (by rw [hd]; have := room_len h key; omega), hd]
  unfold putL at h1 ⊢
  rw [h1]
/-- P117 -/
theorem put_lost {L : List Ls} {key v now : Int} (h : lvB L = true) {i : Nat} (hi : i < L.length) (hk : (gl L i).e ≠ key) (hn : gl L i ∉ putL L key v now) :
    L.length = 6 ∧ i = oldL L := by
  have hx : gl L i ∈ dropL L key := (mem_drop _ _ _).2 ⟨gl_mem hi, hk⟩
  have hr : gl L i ∉ roomL L key := fun hh => hn ((mem_ins _ _ _ _).2 (.inr hh))
  by_cases hf : 6 ≤ (dropL L key).length
  · obtain ⟨h1, h2, h3⟩ := room_full_len h hf
    refine ⟨h3, ?_⟩
    rw [room_full hf, h2] at hr
    have he : (gl L i).e = (gl L (oldL L)).e := Decidable.byContradiction fun hne => hr ((mem_drop _ _ _).2 ⟨gl_mem hi, hne⟩)
    exact ord_idx h hi (old_lt (by omega)) he
  · rw [room_some hf] at hr
    exact absurd hx hr

/-! ### sweeping -/
def swL (L : List Ls) (now : Int) : List Ls := L.filter fun x => frB x now
def swOk (L : List Ls) (now : Int) : Bool := lvB L && tmB now
theorem swOk_iff (L : List Ls) (now : Int) : swOk L now = true ↔ lvB L = true ∧ 0 ≤ now ∧ now ≤ 999 := by simp [swOk, tmB_iff]
def swR (L : List Ls) (now : Int) : List Ls := if swOk L now = true then swL L now else []
theorem sw_bad {L : List Ls} {now : Int} (h : swOk L now = false) : swR L now = [] := by unfold swR; rw [if_neg (by rw [h]; decide)]
theorem sw_ok {L : List Ls} {now : Int} (h : swOk L now = true) : swR L now = swL L now := by unfold swR; rw [if_pos h]
theorem sw_take {L : List Ls} {now : Int} {k : Nat} (h : k < L.length) : swL (L.take (k + 1)) now = swL (L.take k) now ++ (if frB (gl L k) now = true then [gl L k] else []) := by
  rw [take_succ h]
  simp only [swL, List.filter_append]
  congr 1
  by_cases he : frB (gl L k) now = true <;> simp [he]
theorem mem_sw (L : List Ls) (now : Int) (x : Ls) : x ∈ swL L now ↔ x ∈ L ∧ frB x now = true := by simp [swL]
theorem sw_sub (L : List Ls) (now : Int) : (swL L now).Sublist L := List.filter_sublist
theorem sw_lv {L : List Ls} (h : lvB L = true) (now : Int) : lvB (swL L now) = true := lv_sub h (sw_sub _ _)
theorem swR_len (L : List Ls) (now : Int) : (swR L now).length ≤ 6 := by
  unfold swR
  split
  · rename_i h; exact Nat.le_trans (sw_sub _ _).length_le (lv_len ((swOk_iff _ _).1 h).1)
  · simp
theorem swR_lv {L : List Ls} (h : lvB L = true) (now : Int) : lvB (swR L now) = true := by
  unfold swR; split
  · exact sw_lv h now
  · rfl
/-- P122: an entry is kept if it is used -/
theorem sw_kept {L : List Ls} {now : Int} (h : swOk L now = true) {i : Nat} (hi : i < L.length) : (dropR (swL L now) (gl L i).e).2 = frB (gl L i) now ∧ (getR L (gl L i).e now).2 = frB (gl L i) now := by
  obtain ⟨hv, ht⟩ := (swOk_iff _ _).1 h
  have hp := lv_e hv hi
  have hd : dropOk (swL L now) (gl L i).e = true := (dropOk_iff _ _).2 ⟨sw_lv hv now, hp⟩
  have hg : getOk L (gl L i).e now = true := (getOk_iff _ _ _).2 ⟨hv, hp, ht⟩
  constructor
  · rw [dropR_had hd (frB (gl L i) now)]
    constructor
    · intro hf
      exact ⟨gl L i, (mem_sw _ _ _).2 ⟨gl_mem hi, hf⟩, rfl⟩
    · rintro ⟨x, hx, he⟩
      obtain ⟨h1, h2⟩ := (mem_sw _ _ _).1 hx
      rwa [ord_eq (lv_ord hv) h1 (gl_mem hi) he] at h2
  · rcases hf : frB (gl L i) now with _ | _
    · rw [get_no fun x hx => ?_]
      rcases hh : htB (gl L i).e now x with _ | _
      · rfl
      · obtain ⟨h1, h2⟩ := (htB_iff _ _ _).1 hh
        rw [ord_eq (lv_ord hv) hx (gl_mem hi) h1, hf] at h2
        cases h2
    · rw [get_yes hg (gl_mem hi) ((htB_iff _ _ _).2 ⟨rfl, hf⟩)]
/-- P123 -/
theorem sw_get {L : List Ls} {now : Int} (h : swOk L now = true) (key : Int) : getR (swL L now) key now = getR L key now := by
  obtain ⟨hv, ht⟩ := (swOk_iff _ _).1 h
  rcases hk : ptB key with _ | _
  · rw [get_bad (by simp [getOk, hk]), get_bad (by simp [getOk, hk])]
  · have hk' := (ptB_iff _).1 hk
    have hg1 : getOk L key now = true := (getOk_iff _ _ _).2 ⟨hv, hk', ht⟩
    have hg2 : getOk (swL L now) key now = true := (getOk_iff _ _ _).2 ⟨sw_lv hv now, hk', ht⟩
    by_cases hx : ∃ x ∈ L, htB key now x = true
    · obtain ⟨x, hx, hh⟩ := hx
      rw [get_yes hg1 hx hh, get_yes hg2 ((mem_sw _ _ _).2 ⟨hx, ((htB_iff _ _ _).1 hh).2⟩) hh]
    · have hn : ∀ x ∈ L, htB key now x = false := fun x hm => by
        rcases hh : htB key now x with _ | _
        · rfl
        · exact absurd ⟨x, hm, hh⟩ hx
      rw [get_no hn, get_no fun x hm => hn x ((mem_sw _ _ _).1 hm).1]
/-- .. how many of the first k are used -/
def frN (L : List Ls) (now : Int) (k : Nat) : Nat := (swL (L.take k) now).length
theorem frN_s {L : List Ls} {now : Int} {k : Nat} (h : k < L.length) : frN L now (k + 1) = frN L now k + if frB (gl L k) now = true then 1 else 0 := by
  unfold frN
  rw [sw_take h, List.length_append]
  split <;> rfl
theorem frN_all (L : List Ls) (now : Int) : frN L now L.length = (swL L now).length := by unfold frN; rw [List.take_length]
theorem frN_le (L : List Ls) (now : Int) (k : Nat) : frN L now k ≤ k := by
  unfold frN
  have := (sw_sub (L.take k) now).length_le
  simp at this
  omega
end Go.Proofs.Ytdlapnelehehgaa
