/- Copies of leases, their size, comparing two, and the marks in them. -/
import Derived.Test.YtoaamamconcieabLsV
namespace Go.Proofs.Ytoaamamconcieab
open Go.RowKit
set_option linter.unusedVariables false

/-- what is left behind len -/
def leftL (left : Int) (len : Nat) : Int := if left - len < 0 then -1 else left - len
theorem keptC (w : World) (g i : Nat) (u : Value) : Kept g w (w.setCell ⟨g, i, none⟩ u) := ⟨rfl, rfl, rfl, by simp [World.setCell], fun k hk => heap_set_ne _ _ _ _ _ hk⟩



/-- make of a row of leases -/
theorem mk_leases (n : Nat) (hn : n ≤ 1048576) (w : World) :
    (Instr.makeSlice 23 (.int .i64 (n : Int)) (.int .i64 (n : Int))).run Try.prog w = .ok (.slice (some ⟨w.heap.size, 0, none⟩) n n) (w.alloc (.cells (madeCells #[.int .i64 0, .int .i64 0, .int .i64 0] (n * 3)) 30)) := by
  obtain ⟨i, hi, hz0, hz1, hz2⟩ := info_parts Try.infoLease
  have hr := run_make (P := Try.prog) w 23 30 i _ Try.underlying23 hi hz0 .i64 .i64 n n (by omega) (Int.le_refl _) (by rw [hz2]; omega) (by omega)
  simp only [Int.toNat_natCast, hz1] at hr
  exact hr
/-- the first k leases, zeros behind them -/
def cpL (L : List Ls) (k : Nat) : List Ls := (List.range L.length).map fun i => if i < k then gl L i else ⟨0, 0, 0⟩
theorem cpL_len (L : List Ls) (k : Nat) : (cpL L k).length = L.length := by simp [cpL]
theorem cpL_at {L : List Ls} {k i : Nat} (h : i < L.length) : gl (cpL L k) i = if i < k then gl L i else ⟨0, 0, 0⟩ := by rw [gl_get (by rw [cpL_len]; exact h)]; simp [cpL]
theorem cpL_all (L : List Ls) : cpL L L.length = L := gl_ext (cpL_len _ _) fun i hi => by rw [cpL_len] at hi; rw [cpL_at hi, if_pos hi]
theorem cpL_next {L : List Ls} {k : Nat} (h : k < L.length) : (cpL L k).set k (gl L k) = cpL L (k + 1) := by
  refine gl_ext (by simp [cpL_len]) fun i hi => ?_
  rw [List.length_set, cpL_len] at hi
  rw [cpL_at hi]
  by_cases e : k = i
  · subst e; rw [gl_set_eq _ (by rw [cpL_len]; exact h), if_pos (by omega)]
  · rw [gl_set_ne _ e, cpL_at hi]
    by_cases h1 : i < k
    · rw [if_pos h1, if_pos (by omega)]
    · rw [if_neg h1, if_neg (by omega)]
theorem made_ls (L : List Ls) (w : World) (hm : L.length ≤ maxLen) : OwnS (w.alloc (.cells (madeCells #[.int .i64 0, .int .i64 0, .int .i64 0] (L.length * 3)) 30)) w.heap.size w.heap.size L.length (cpL L 0) := by
  refine own_mk (heap_alloc_new w _) (Nat.le_refl _) (by rw [cpL_len]; exact Nat.le_refl _) hm (size_madeCells _ _) fun j u hu => ?_
  have hj : j < L.length * 3 := by
    rcases Nat.lt_or_ge j (L.length * 3) with h' | h'
    · exact h'
    · rw [List.getElem?_eq_none (by rw [flat_len, cpL_len]; exact h')] at hu; cases hu
  have hz : (madeCells #[.int .i64 0, .int .i64 0, .int .i64 0] (L.length * 3))[j]? = some (Value.int .i64 0) := by
    have hm3 : j % 3 = 0 ∨ j % 3 = 1 ∨ j % 3 = 2 := by omega
    rw [Array.getElem?_eq_getElem (by rw [size_madeCells]; exact hj)]
    rcases hm3 with h | h | h <;> simp [madeCells, h]
  rw [hz]
  have hjl : j / 3 < L.length := by omega
  obtain ⟨f1, f2, f3⟩ := flat_at (L := cpL L 0) (i := j / 3) (by rw [cpL_len]; exact hjl)
  rw [cpL_at hjl, if_neg (by omega)] at f1 f2 f3
  have hm : j % 3 = 0 ∨ j % 3 = 1 ∨ j % 3 = 2 := by omega
  rcases hm with hm | hm | hm
  · rw [show j = j / 3 * 3 by omega, f1] at hu; exact hu
  · rw [show j = j / 3 * 3 + 1 by omega, f2] at hu; exact hu
  · rw [show j = j / 3 * 3 + 2 by omega, f3] at hu; exact hu

/-- a copy in the next block -/
def CopiedL (L : List Ls) (w : World) (e : Ending) (w' : World) : Prop :=
  e = .returned (.slice (some ⟨w.heap.size, 0, none⟩) L.length L.length) ∧ OwnS w' w.heap.size w.heap.size L.length L ∧ Below w.heap.size w w'




/-! ### marks -/
def mkOne (k0 : Int) (i : Nat) : Ls := ⟨k0 + 3 * i, k0 + 3 * i + 1, k0 + 3 * i + 1 + 1⟩
/-- the first k leases marked -/
def mkLs (k0 : Int) (L : List Ls) (k : Nat) : List Ls := (List.range L.length).map fun i => if i < k then mkOne k0 i else gl L i
theorem mkLs_len (k0 : Int) (L : List Ls) (k : Nat) : (mkLs k0 L k).length = L.length := by simp [mkLs]
theorem mkLs_at {k0 : Int} {L : List Ls} {k i : Nat} (h : i < L.length) : gl (mkLs k0 L k) i = if i < k then mkOne k0 i else gl L i := by rw [gl_get (by rw [mkLs_len]; exact h)]; simp [mkLs]
theorem mkLs_zero (k0 : Int) (L : List Ls) : mkLs k0 L 0 = L := gl_ext (mkLs_len _ _ _) fun i hi => by rw [mkLs_len] at hi; rw [mkLs_at hi, if_neg (by omega)]
theorem mkLs_next {k0 : Int} {L : List Ls} {k : Nat} (h : k < L.length) : (mkLs k0 L k).set k (mkOne k0 k) = mkLs k0 L (k + 1) := by
  refine gl_ext (by simp [mkLs_len]) fun i hi => ?_
  rw [List.length_set, mkLs_len] at hi
  rw [mkLs_at hi]
  by_cases e : k = i
  · subst e; rw [gl_set_eq _ (by rw [mkLs_len]; exact h), if_pos (by omega)]
  · rw [gl_set_ne _ e, mkLs_at hi]
    by_cases h1 : i < k
    · rw [if_pos h1, if_pos (by omega)]
    · rw [if_neg h1, if_neg (by omega)]
theorem mkOne_e (k0 : Int) (i : Nat) : (mkOne k0 i).e = k0 + 3 * i := rfl
theorem mkOne_o (k0 : Int) (i : Nat) : (mkOne k0 i).o = k0 + 3 * i + 1 := rfl
theorem mkOne_u (k0 : Int) (i : Nat) : (mkOne k0 i).u = k0 + 3 * i + 1 + 1 := rfl


end Go.Proofs.Ytoaamamconcieab
