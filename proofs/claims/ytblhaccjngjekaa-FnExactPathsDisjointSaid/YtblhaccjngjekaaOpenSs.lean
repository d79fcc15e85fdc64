/- A list of paths that came in as an argument. -/
import Derived.Test.YtblhaccjngjekaaPzW
import Derived.ProofKit
import Derived.Deep.Slices
import Derived.Deep.Strs
namespace Go.Proofs.Ytblhaccjngjekaa
open Go.ChangeShapes Go.WideShapes Go.ChangeAt Go.RowKit Go.Deep
set_option linter.unusedVariables false

theorem cell_ltS {w : World} {p : Addr} {v : Value} (h : w.cell? p = some v) : p.block < w.heap.size := by
  rcases Nat.lt_or_ge p.block w.heap.size with hlt | hge
  · exact hlt
  · exfalso
    have hn : w.heap[p.block]? = none := Array.getElem?_eq_none hge
    simp [World.cell?, hn] at h
theorem add_noneS (b o j : Nat) : (⟨b, o, none⟩ : Addr).add j = ⟨b, o + j, none⟩ := by unfold Addr.add; split <;> simp_all

section
variable {H : Type} {enc : TypeId × Value → H} {W : World}
/-- a slice of numbers inside what came in -/
theorem open_intsW {fuel : Nat} {v : Value} {x : DataW H × List MemPlace} (h : DataW.trod enc Try.prog W 0 (fun _ => true) true fuel 34 [v] = some x) : ∃ zs, IntsW W v zs := by
  rcases open_ints Try.underlying34 Try.underlying3 (by kernel_rfl) h with ⟨hcs, _⟩ | ⟨y, l, c, zs, hcs, _, hl, hm, hz, _, hcell, hwz⟩
  · obtain rfl : v = .slice none 0 0 := by simpa using hcs
    exact ⟨[], none, 0, rfl, Nat.le_refl _, by unfold maxLen; omega, .inl rfl⟩
  · obtain rfl : v = .slice (some y) l c := by simpa using hcs
    have hzl : zs.length = c := by simpa using hz
    refine ⟨zs.take l, some y, c, by rw [List.length_take, Nat.min_eq_left (by omega)], by rw [List.length_take]; omega, hm, ?_⟩
    by_cases h0 : l = 0
    · subst h0; exact .inl (by simp)
    · obtain ⟨b, off, spot⟩ := y
      have hc := hcell 0 (by omega)
      have hspot : spot = none := by simpa [Addr.add] using World.cell?_spot hc
      subst hspot
      refine .inr ⟨b, off, rfl, by have := cell_ltS hc; simpa [Addr.add] using this, fun i hi => ?_⟩
      have hi' : i < l := by simp at hi; omega
      have hci := hcell i (by omega)
      rw [add_noneS] at hci
      have e : gt (zs.take l) i = zs.getD i 0 := by simp [gt, hi']
      rw [e]; exact hci
/-- a list of paths that came in -/
theorem open_ss {a : Option Addr} {len cap : Nat} {d : DataW H} {p : List MemPlace} (h : DataW.Trod enc Try.prog W 0 (fun _ => true) true 31 (.slice a len cap) d p) : ∃ r : List (List Int), r.length = len ∧ SsAt W a r ∧ len ≤ maxLen := by
  obtain ⟨fuel, hf⟩ := h
  rcases open_slice Try.underlying31 hf with ⟨hcs, _⟩ | ⟨x, l, c, m, n, D, Pl, hcs, _, hl, hm, hmm, _, hx⟩
  · simp [Value.cells] at hcs
    obtain ⟨rfl, rfl, rfl⟩ := hcs
    exact ⟨[], rfl, .inl rfl, by unfold maxLen; omega⟩
  · simp [Value.cells] at hcs
    obtain ⟨rfl, rfl, rfl⟩ := hcs
    have hmc : m = cap := by simpa using hmm
    have h3 : Try.prog.cellsOf 34 = 1 := by kernel_rfl
    have hrow : ∀ i, i < len → ∃ zs : List Int, ∃ v, W.cell? (x.add i) = some v ∧ IntsW W v zs := by
      intro i hi
      obtain ⟨cs', hc, ht⟩ := hx i (by omega)
      rw [h3] at hc
      obtain ⟨_, hlen, hcell⟩ := World.cells?_some hc
      match cs', hlen with
      | [v0], _ =>
        obtain ⟨zs, hzs⟩ := open_intsW (v := v0) (by simpa using ht)
        refine ⟨zs, v0, ?_, hzs⟩
        have := hcell 0 (by omega); simpa [Addr.add] using this
    have hch : ∃ f : Nat → List Int, ∀ i, i < len → ∃ v, W.cell? (x.add i) = some v ∧ IntsW W v (f i) := choose_lt hrow
    obtain ⟨f, hfn⟩ := hch
    have hlr : ((List.range len).map f).length = len := by simp
    refine ⟨(List.range len).map f, hlr, ?_, Nat.le_trans hl hm⟩
    by_cases h0 : len = 0
    · subst h0; exact .inl (by simp)
    · obtain ⟨b, off, spot⟩ := x
      obtain ⟨_, hc, _⟩ := hfn 0 (by omega)
      have hspot : spot = none := by simpa [Addr.add] using World.cell?_spot hc
      subst hspot
      refine .inr ⟨b, off, rfl, by have := cell_ltS hc; simpa [Addr.add] using this, fun i hi => ?_⟩
      rw [hlr] at hi
      have e : gl ((List.range len).map f) i = f i := by rw [gl_get (by rw [hlr]; exact hi)]; simp
      rw [e]
      obtain ⟨v, h1, h2⟩ := hfn i hi
      rw [add_noneS] at h1
      exact ⟨v, h1, h2⟩
end
end Go.Proofs.Ytblhaccjngjekaa
