/- Heaps of whatever elements, as functions of an index: sinking an element, making a heap, the least element. (What package container/heap does.) -/
import Derived.Test.YtdlapnelehehgabMA
namespace Go.Proofs.Ytdlapnelehehgab
namespace Heap
set_option linter.unusedVariables false

variable {α : Type} (le : α → α → Prop)

/-- the elements i and j exchanged -/
def sw (f : Nat → α) (i j : Nat) : Nat → α := fun k => if k = i then f j else if k = j then f i else f k
theorem sw_l (f : Nat → α) (i j : Nat) : sw f i j i = f j := by simp [sw]
theorem sw_r (f : Nat → α) (i j : Nat) : sw f i j j = f i := by
  unfold sw
  split
  · rename_i h; rw [h]
  · rw [if_pos rfl]
theorem sw_o (f : Nat → α) {i j k : Nat} (h1 : k ≠ i) (h2 : k ≠ j) : sw f i j k = f k := by simp [sw, h1, h2]

/-- a heap from element k on, of n, but for what hangs on element x: where its parent is in it, that is not behind its children -/
structure Hole (f : Nat → α) (n k x : Nat) : Prop where
  edge : ∀ p c, k ≤ p → p ≠ x → (c = 2 * p + 1 ∨ c = 2 * p + 2) → c < n → le (f p) (f c)
  over : ∀ p c, k ≤ p → (x = 2 * p + 1 ∨ x = 2 * p + 2) → (c = 2 * x + 1 ∨ c = 2 * x + 2) → c < n → le (f p) (f c)
/-- .. a heap -/
def Is (f : Nat → α) (n k : Nat) : Prop := ∀ p c, k ≤ p → (c = 2 * p + 1 ∨ c = 2 * p + 2) → c < n → le (f p) (f c)

variable {le}
theorem Hole.leaf {f : Nat → α} {n k x : Nat} (h : Hole le f n k x) (hx : n ≤ 2 * x + 1) : Is le f n k := by
  intro p c hp hc hn
  by_cases e : p = x
  · subst e; omega
  · exact h.edge p c hp e hc hn
theorem Hole.ok {f : Nat → α} {n k x : Nat} (h : Hole le f n k x) (h1 : ∀ c, (c = 2 * x + 1 ∨ c = 2 * x + 2) → c < n → le (f x) (f c)) : Is le f n k := by
  intro p c hp hc hn
  by_cases e : p = x
  · subst e; exact h1 c hc hn
  · exact h.edge p c hp e hc hn
/-- one step down -/
theorem Hole.step {f : Nat → α} {n k x j : Nat} (h : Hole le f n k x) (hk : k ≤ x) (hj : j = 2 * x + 1 ∨ j = 2 * x + 2) (hn : j < n)
    (hmin : ∀ c, (c = 2 * x + 1 ∨ c = 2 * x + 2) → c < n → le (f j) (f c)) (hle : le (f j) (f x)) : Hole le (sw f x j) n k j := by
  have hjx : j ≠ x := by omega
  refine ⟨fun p c hp hpj hc hcn => ?_, fun p c hp hjp hc hcn => ?_⟩
  · by_cases e : p = x
    · subst e
      rw [sw_l]
      by_cases ec : c = j
      · subst ec; rw [sw_r]; exact hle
      · rw [sw_o _ (by omega) ec]; exact hmin c hc hcn
    · rw [sw_o f e hpj]
      by_cases ec : c = x
      · subst ec
        rw [sw_l]
        exact h.over p j hp hc hj hn
      · by_cases ec' : c = j
        · exfalso; omega
        · rw [sw_o _ ec ec']; exact h.edge p c hp e hc hcn
  · have hpx : p = x := by omega
    subst hpx
    rw [sw_l, sw_o _ (by omega) (by omega)]
    exact h.edge j c (by omega) hjx hc hcn
theorem Hole.of_is {f : Nat → α} {n k : Nat} (h : Is le f n (k + 1)) : Hole le f n k k :=
  ⟨fun p c hp hpx hc hn => h p c (by omega) hc hn, fun p c hp hx _ _ => by omega⟩
/-- the first and the last exchanged -/
theorem Hole.of_pop {f : Nat → α} {n : Nat} (h : Is le f (n + 1) 0) : Hole le (sw f 0 n) n 0 0 := by
  refine ⟨fun p c hp hpx hc hn => ?_, fun p c hp hx _ _ => by omega⟩
  rw [sw_o _ hpx (by omega), sw_o _ (by omega) (by omega)]
  exact h p c (by omega) hc (by omega)
theorem is_leaves {f : Nat → α} {n k : Nat} (h : n ≤ 2 * k + 1) : Is le f n k := fun p c hp hc hn => by omega
/-- nothing is before the first -/
theorem Is.first {f : Nat → α} {n : Nat} (h : Is le f n 0) (refl : ∀ a, le a a) (trans : ∀ a b c, le a b → le b c → le a c) : ∀ i, i < n → le (f 0) (f i) := by
  intro i
  induction i using Nat.strongRecOn with
  | _ i ih =>
    intro hi
    by_cases h0 : i = 0
    · subst h0; exact refl _
    · have hp := ih ((i - 1) / 2) (by omega) (by omega)
      exact trans _ _ _ hp (h _ i (by omega) (by omega) hi)

/-! ### nothing is lost -/
/-- the first n -/
def toL (f : Nat → α) (n : Nat) : List α := (List.range n).map f
theorem toL_len (f : Nat → α) (n : Nat) : (toL f n).length = n := by simp [toL]
theorem toL_s (f : Nat → α) (n : Nat) : toL f (n + 1) = toL f n ++ [f n] := by simp [toL, List.range_succ]
theorem toL_ext {f g : Nat → α} {n : Nat} (h : ∀ i, i < n → f i = g i) : toL f n = toL g n := by
  unfold toL
  exact List.map_congr_left fun i hi => h i (by simpa using hi)
theorem mem_toL {f : Nat → α} {n : Nat} {a : α} : a ∈ toL f n ↔ ∃ i, i < n ∧ f i = a := by simp [toL]
theorem toL_set (f : Nat → α) (n j : Nat) (a : α) (hj : j < n) : (f j :: toL (fun k => if k = j then a else f k) n).Perm (a :: toL f n) := by
  induction n with
  | zero => omega
  | succ n ih =>
    rw [toL_s, toL_s]
    by_cases e : j = n
    · subst e
      have h1 : toL (fun k => if k = j then a else f k) j = toL f j := toL_ext fun i hi => by simp [show i ≠ j by omega]
      rw [h1, if_pos rfl]
      refine (List.Perm.cons _ List.perm_append_comm).trans (List.Perm.trans ?_ (List.Perm.cons _ List.perm_append_comm))
      exact List.Perm.swap _ _ _
    · rw [if_neg (Ne.symm e)]
      have := ih (by omega)
      exact List.Perm.append_right [f n] this
theorem sw_perm (f : Nat → α) {i j n : Nat} (hi : i < n) (hj : j < n) : (toL (sw f i j) n).Perm (toL f n) := by
  by_cases e : i = j
  · subst e
    have : toL (sw f i i) n = toL f n := toL_ext fun k _ => by unfold sw; split <;> simp_all
    rw [this]
  · have h1 := toL_set f n j (f i) hj
    have h2 := toL_set (fun k => if k = j then f i else f k) n i (f j) hi
    have h3 : toL (fun k => if k = i then f j else (fun k => if k = j then f i else f k) k) n = toL (sw f i j) n := toL_ext fun k _ => rfl
    rw [h3] at h2
    simp only [if_neg e] at h2
    have h4 := h2.trans h1
    exact (List.perm_cons _).1 h4
end Heap
end Go.Proofs.Ytdlapnelehehgab
