/- Heaps: raising the last element (what container/heap's Push does). -/
import Derived.Test.YtdlapnelehehgaaHeapMath
namespace Go.Proofs.Ytdlapnelehehgaa
namespace Heap
set_option linter.unusedVariables false

variable {α : Type} {le : α → α → Prop}

/-- a heap of n, but for element x, that may be before its parent -/
structure UpHole (le : α → α → Prop) (f : Nat → α) (n x : Nat) : Prop where
  edge : ∀ p c, c ≠ x → (c = 2 * p + 1 ∨ c = 2 * p + 2) → c < n → le (f p) (f c)
  over : ∀ p c, (x = 2 * p + 1 ∨ x = 2 * p + 2) → (c = 2 * x + 1 ∨ c = 2 * x + 2) → c < n → le (f p) (f c)
theorem UpHole.root {f : Nat → α} {n : Nat} (h : UpHole le f n 0) : Is le f n 0 := fun p c hp hc hn => h.edge p c (by omega) hc hn
theorem UpHole.ok {f : Nat → α} {n x j : Nat} (h : UpHole le f n x) (hj : x = 2 * j + 1 ∨ x = 2 * j + 2) (h1 : le (f j) (f x)) : Is le f n 0 := by
  intro p c hp hc hn
  by_cases e : c = x
  · subst e
    obtain rfl : p = j := by omega
    exact h1
  · exact h.edge p c e hc hn
theorem UpHole.new {f : Nat → α} {n : Nat} (h : Is le f n 0) : UpHole le f (n + 1) n :=
  ⟨fun p c hc h1 hn => h p c (by omega) h1 (by omega), fun p c h1 h2 hn => by omega⟩
theorem UpHole.step {f : Nat → α} {n x j : Nat} (h : UpHole le f n x) (trans : ∀ a b c, le a b → le b c → le a c) (hj : x = 2 * j + 1 ∨ x = 2 * j + 2) (hn : x < n) (hle : le (f x) (f j)) : UpHole le (sw f j x) n j := by
  refine ⟨fun p c hcj hc hcn => ?_, fun p c hp hc hcn => ?_⟩
  · by_cases ec : c = x
    · subst ec
      obtain rfl : p = j := by omega
      rw [sw_l, sw_r]; exact hle
    · have e2 : sw f j x c = f c := sw_o f hcj ec
      rw [e2]
      by_cases ep : p = j
      · subst ep
        rw [sw_l]
        exact trans _ _ _ hle (h.edge p c ec hc hcn)
      · by_cases ep' : p = x
        · subst ep'
          rw [sw_r]
          exact h.over j c hj hc hcn
        · rw [sw_o f ep ep']; exact h.edge p c ec hc hcn
  · have h1 : sw f j x p = f p := sw_o f (by omega) (by omega)
    rw [h1]
    have hpj : le (f p) (f j) := h.edge p j (by omega) hp (by omega)
    by_cases ec : c = x
    · subst ec; rw [sw_r]; exact hpj
    · rw [sw_o f (by omega) ec]
      exact trans _ _ _ hpj (h.edge j c ec hc hcn)
end Heap
end Go.Proofs.Ytdlapnelehehgaa
