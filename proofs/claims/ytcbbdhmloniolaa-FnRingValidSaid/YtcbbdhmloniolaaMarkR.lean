/- Sizes of rings; comparing two; the marks in rings and in slices of numbers. -/
import Derived.Test.YtcbbdhmloniolaaCopyR
namespace Go.Proofs.Ytcbbdhmloniolaa
open Go.RowKit
set_option linter.unusedVariables false

/-- what is left behind len -/
def leftI (left : Int) (len : Nat) : Int := if left - len < 0 then -1 else left - len



/-- the numbers of successors of the first k nodes -/
def sumA (r : List Nd) : Nat → Nat
  | 0 => 0
  | k + 1 => sumA r k + (gn r k).aft.length
theorem sumA_mono (r : List Nd) {i j : Nat} (h : i ≤ j) : sumA r i ≤ sumA r j := by
  induction j with
  | zero => have : i = 0 := by omega
            subst this; exact Nat.le_refl _
  | succ j ih =>
    rcases Nat.lt_or_ge i (j + 1) with h' | h'
    · have := ih (by omega); simp only [sumA]; omega
    · have : i = j + 1 := by omega
      subst this; exact Nat.le_refl _
theorem sumA_at (r : List Nd) {i : Nat} (h : i < r.length) : (gn r i).aft.length ≤ sumA r r.length := by
  have := sumA_mono r (i := i + 1) (j := r.length) (by omega)
  simp only [sumA] at this; omega
/-- all of a ring -/
def szR (r : List Nd) : Nat := r.length + sumA r r.length
theorem small_of {r : List Nd} (h : szR r ≤ 1048576) : Small r := by
  unfold szR at h
  exact ⟨by omega, fun i hi => by have := sumA_at r hi; omega⟩
/-- the answer of szNodeS -/
def SzPost (r : List Nd) (w : World) (e : Ending) (w' : World) : Prop :=
  ∃ z : Int, e = .returned (.int .i64 z) ∧ ((szR r ≤ 1048576 ∧ z = 1048576 - szR r) ∨ (1048576 < szR r ∧ z = -1)) ∧ Below w.heap.size w w'




/-- how many marks lie ahead of node i -/
def offR (r : List Nd) (i : Nat) : Nat := 2 * i + sumA r i
theorem offR_succ (r : List Nd) (i : Nat) : offR r (i + 1) = offR r i + 2 + (gn r i).aft.length := by simp only [offR, sumA]; omega
theorem offR_le {r : List Nd} {i : Nat} (h : i ≤ r.length) (hs : szR r ≤ 1048576) : offR r i ≤ 2097152 := by
  have := sumA_mono r h
  unfold szR at hs; unfold offR; omega
/-- node i marked -/
def mkNd (k : Int) (r : List Nd) (i : Nat) : Nd := ⟨k + offR r i, k + offR r i + 1, markI (k + offR r i + 2) (gn r i).aft.length⟩
/-- a ring, its first m nodes marked -/
def mixR (k : Int) (r : List Nd) (m : Nat) : List Nd := (List.range r.length).map fun i => if i < m then mkNd k r i else gn r i
theorem mixR_len (k : Int) (r : List Nd) (m : Nat) : (mixR k r m).length = r.length := by simp [mixR]
theorem mixR_at (k : Int) (r : List Nd) (m : Nat) {i : Nat} (h : i < r.length) : gn (mixR k r m) i = if i < m then mkNd k r i else gn r i := by
  rw [gn_get (by rw [mixR_len]; exact h)]; simp [mixR]
theorem mixR_zero (k : Int) (r : List Nd) : mixR k r 0 = r := by
  refine List.ext_getElem (mixR_len _ _ _) fun i h1 h2 => ?_
  simp [mixR, gn_get h2]
/-- only the blocks from lo up to hi are written -/
structure KeptOut (lo hi : Nat) (w w' : World) : Prop where
  os : w'.os = w.os
  tape : w'.tape = w.tape
  output : w'.output = w.output
  size : w'.heap.size = w.heap.size
  block : ∀ g, g < lo ∨ hi ≤ g → w'.heap[g]? = w.heap[g]?
theorem KeptOut.refl (lo hi : Nat) (w : World) : KeptOut lo hi w w := ⟨rfl, rfl, rfl, rfl, fun _ _ => rfl⟩
theorem KeptOut.trans {lo hi : Nat} {a b c : World} (h : KeptOut lo hi a b) (k : KeptOut lo hi b c) : KeptOut lo hi a c :=
  ⟨k.os.trans h.os, k.tape.trans h.tape, k.output.trans h.output, k.size.trans h.size, fun g hg => (k.block g hg).trans (h.block g hg)⟩
theorem KeptOut.below {lo hi B : Nat} {w w' : World} (h : KeptOut lo hi w w') (hB : B ≤ lo) : Below B w w' :=
  ⟨h.os, h.tape, h.output, Nat.le_of_eq h.size.symm, fun g hg => h.block g (.inl (by omega))⟩
theorem Kept.out {lo hi g : Nat} {w w' : World} (h : Kept g w w') (h1 : lo ≤ g) (h2 : g < hi) : KeptOut lo hi w w' :=
  ⟨h.os, h.tape, h.output, h.size, fun q hq => h.block q (by omega)⟩
theorem kept_cell (w : World) (g i : Nat) (u : Value) : Kept g w (w.setCell ⟨g, i, none⟩ u) := ⟨rfl, rfl, rfl, by simp [World.setCell], fun q hq => heap_set_ne _ _ _ _ _ hq⟩

/-- node i is marked -/
theorem own_mark {w w2 w3 : World} {lo hi N i : Nat} {k : Int} {r : List Nd} {F : Nat → Nat} (h : RingOwn w lo hi N (mixR k r i) F) (hi' : i < r.length)
    (h2 : w2 = (w.setCell ⟨N, i * 3, none⟩ (.int .i64 (k + offR r i))).setCell ⟨N, i * 3 + 1, none⟩ (.int .i64 (k + offR r i + 1))) (h3 : MarkTo w2 (F i) (gn r i).aft.length (k + offR r i + 2) (gn r i).aft.length w3) :
    RingOwn w3 lo hi N (mixR k r (i + 1)) F ∧ KeptOut lo hi w w3 := by
  have hl : ∀ m, (mixR k r m).length = r.length := mixR_len k r
  obtain ⟨cs, hb, hc⟩ := h.row
  have hF := h.inF
  have hI := h.inj
  rw [hl] at hc hF hI
  have hb2 : w2.heap[N]? = some (.cells ((cs.setIfInBounds (i * 3) (.int .i64 (k + offR r i))).setIfInBounds (i * 3 + 1) (.int .i64 (k + offR r i + 1))) 28 (0, 0)) := by
    rw [h2]; exact heap_set _ _ _ _ (heap_set _ _ _ _ hb)
  have hk2 : ∀ g, g ≠ N → w2.heap[g]? = w.heap[g]? := fun g hg => by rw [h2]; exact (heap_set_ne _ _ _ _ _ hg).trans (heap_set_ne _ _ _ _ _ hg)
  obtain ⟨hkp, ds, hds, hdl, hdm⟩ := h3
  have hFi := hF i hi'
  refine ⟨⟨⟨_, (hkp.block N (fun e => hFi.2.2 e.symm)).trans hb2, fun j hj => ?_⟩, fun j hj => ?_, h.inN, fun j hj => hF j (by rw [hl] at hj; exact hj), fun a b ha hb' => hI a b (by rw [hl] at ha; exact ha) (by rw [hl] at hb'; exact hb')⟩, ?_⟩
  · rw [hl] at hj
    rw [mixR_at _ _ _ hj]
    have hcj := hc j hj
    rw [mixR_at _ _ _ hj] at hcj
    by_cases e : j = i
    · subst e
      rw [if_neg (by omega)] at hcj
      rw [if_pos (by omega)]
      obtain ⟨c0, c1, c, c2, c3, c4⟩ := hcj
      have z2 : j * 3 + 2 < cs.size := (Array.getElem?_eq_some_iff.1 c2).1
      refine ⟨?_, ?_, c, ?_, by simpa [mkNd, markI_len] using c3, c4⟩
      · rw [Array.getElem?_setIfInBounds_ne (by omega), Array.getElem?_setIfInBounds_self_of_lt (by omega)]; rfl
      · rw [Array.getElem?_setIfInBounds_self_of_lt (by simp; omega)]; rfl
      · rw [Array.getElem?_setIfInBounds_ne (by omega), Array.getElem?_setIfInBounds_ne (by omega), c2]; simp [mkNd, markI_len]
    · have e2 : (if j < i + 1 then mkNd k r j else gn r j) = (if j < i then mkNd k r j else gn r j) := by
        by_cases h' : j < i
        · rw [if_pos h', if_pos (by omega)]
        · rw [if_neg h', if_neg (by omega)]
      rw [e2]
      exact nd_keep (nd_keep (d := 0) hcj e (by omega)) e (by omega)
  · rw [hl] at hj
    rw [mixR_at _ _ _ hj]
    have hcj := h.inn j (by rw [hl]; exact hj)
    rw [mixR_at _ _ _ hj] at hcj
    by_cases e : j = i
    · subst e
      rw [if_pos (by omega)]
      refine ⟨ds, hds, fun q hq => ?_⟩
      simp only [mkNd, markI_len] at hq
      rw [hdm q hq]; simp only [mkNd]; rw [markI_gt _ hq]
    · have e2 : (if j < i + 1 then mkNd k r j else gn r j) = (if j < i then mkNd k r j else gn r j) := by
        by_cases h' : j < i
        · rw [if_pos h', if_pos (by omega)]
        · rw [if_neg h', if_neg (by omega)]
      rw [e2]
      exact hcj.kept ((hkp.block _ (fun e' => e (hI j i hj hi' e'))).trans (hk2 _ (hF j hj).2.2))
  · have h4 : KeptOut lo hi w w2 := by
      rw [h2]; exact ((kept_cell _ _ _ _).out h.inN.1 h.inN.2).trans ((kept_cell _ _ _ _).out h.inN.1 h.inN.2)
    exact h4.trans (hkp.out hFi.1 hFi.2.1)


end Go.Proofs.Ytcbbdhmloniolaa
