/- Drawing positions of the circle. -/
import Derived.Test.YtfhjmfcdogpbeaaDraw
import Derived.Test.YtfhjmfcdogpbeaaCircle2
namespace Go.Proofs.Ytfhjmfcdogpbeaa
open Go.RowKit
set_option linter.unusedVariables false

/-- a slice of integers that came in: nil, or a row of cells -/
def RowIn (k : IntKind) (w : World) (a : Option Addr) (len cap : Nat) (zs : List Int) : Prop :=
  (a = none ∧ len = 0 ∧ cap = 0 ∧ zs = []) ∨
  ∃ x, a = some x ∧ len ≤ cap ∧ cap ≤ maxLen ∧ zs.length = cap ∧ (∀ i, i < zs.length → w.cell? (x.add i) = some (.int k (zs.getD i 0))) ∧ ∀ n ∈ zs, (Lit.int k n).wf = true

theorem block_lt_of_cell {w : World} {p : Addr} {v : Value} (h : w.cell? p = some v) : p.block < w.heap.size := by
  rcases Nat.lt_or_ge p.block w.heap.size with hlt | hge
  · exact hlt
  · exfalso
    have hn : w.heap[p.block]? = none := Array.getElem?_eq_none hge
    simp [World.cell?, hn] at h

theorem wf_u8 {n : Int} (h : (Lit.int .u8 n).wf = true) : 0 ≤ n ∧ n < 256 := by
  have h' := h
  have e1 : IntKind.u8.min = 0 := by decide
  have e2 : IntKind.u8.max = 255 := by decide
  simp [Lit.wf] at h'
  omega

theorem bytes_of_row {w : World} {a : Option Addr} {len cap : Nat} {zs : List Int} (h : RowIn .u8 w a len cap zs) : BytesAt w a len cap := by
  rcases h with ⟨rfl, rfl, rfl, rfl⟩ | ⟨x, rfl, hl, hm, hz, hcell, hwf⟩
  · exact ⟨Nat.le_refl _, by unfold maxLen; omega, .inl rfl⟩
  · refine ⟨hl, hm, ?_⟩
    by_cases h0 : len = 0
    · exact .inl h0
    · obtain ⟨b, off, spot⟩ := x
      have hc := hcell 0 (by omega)
      have hspot : spot = none := by simpa [Addr.add] using World.cell?_spot hc
      subst hspot
      have hlt := block_lt_of_cell hc
      refine .inr ⟨b, off, rfl, by simpa [Addr.add] using hlt, fun i hi => ?_⟩
      have hci := hcell i (by omega)
      have hmem : zs.getD i 0 ∈ zs := by
        have hi' : i < zs.length := by omega
        rw [List.getD_eq_getElem?_getD, List.getElem?_eq_getElem hi']
        exact List.getElem_mem hi'
      obtain ⟨h0', h1'⟩ := wf_u8 (hwf _ hmem)
      refine ⟨(zs.getD i 0).toNat, by omega, ?_⟩
      rw [Int.toNat_of_nonneg h0']
      by_cases hi0 : i = 0
      · subst hi0; simpa [Addr.add] using hci
      · simpa [Addr.add, hi0] using hci

/-- three drawn numbers -/
def Drew3 (w : World) (e : Ending) (w' : World) : Prop :=
  ∃ a x b : Int, -1 ≤ a ∧ a < 65 ∧ -1 ≤ x ∧ x < 65 ∧ -1 ≤ b ∧ b < 65 ∧ e = .returned (.tuple #[.int .i64 a, .int .i64 x, .int .i64 b]) ∧ Below w.heap.size w w'
def Drew2 (w : World) (e : Ending) (w' : World) : Prop :=
  ∃ a b : Int, -1 ≤ a ∧ a < 65 ∧ -1 ≤ b ∧ b < 65 ∧ e = .returned (.tuple #[.int .i64 a, .int .i64 b]) ∧ Below w.heap.size w w'




end Go.Proofs.Ytfhjmfcdogpbeaa
