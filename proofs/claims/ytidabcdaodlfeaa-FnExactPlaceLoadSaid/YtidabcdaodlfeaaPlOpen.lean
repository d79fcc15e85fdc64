/- Tokens that came in as an argument. -/
import Derived.Test.YtidabcdaodlfeaaTkAt
import Derived.ProofKit
import Derived.Deep.Slices
import Derived.Deep.Strs
import Derived.Lib.SmallJoins
namespace Go.Proofs.Ytidabcdaodlfeaa
open Go.ChangeShapes Go.WideShapes Go.ChangeAt Go.RowKit Go.Deep
set_option linter.unusedVariables false

theorem kcell_lt {w : World} {p : Addr} {v : Value} (h : w.cell? p = some v) : p.block < w.heap.size := by
  rcases Nat.lt_or_ge p.block w.heap.size with hlt | hge
  · exact hlt
  · exfalso
    have hn : w.heap[p.block]? = none := Array.getElem?_eq_none hge
    simp [World.cell?, hn] at h
theorem kadd_none (b o j : Nat) : (⟨b, o, none⟩ : Addr).add j = ⟨b, o + j, none⟩ := by unfold Addr.add; split <;> simp_all

section
variable {H : Type} {enc : TypeId × Value → H} {W : World}
theorem open_tk {a : Option Addr} {len cap : Nat} {d : DataW H} {p : List MemPlace} (h : DataW.Trod enc Try.prog W 0 (fun _ => true) true 48 (.slice a len cap) d p) : ∃ L : List Tk, L.length = len ∧ TkAt W a L ∧ len ≤ maxLen := by
  obtain ⟨fuel, hf⟩ := h
  rcases open_slice Try.underlying48 hf with ⟨hcs, _⟩ | ⟨x, l, c, m, n, D, Pl, hcs, _, hl, hm, hmm, _, hx⟩
  · simp [Value.cells] at hcs
    obtain ⟨rfl, rfl, rfl⟩ := hcs
    exact ⟨[], rfl, .inl rfl, by unfold maxLen; omega⟩
  · simp [Value.cells] at hcs
    obtain ⟨rfl, rfl, rfl⟩ := hcs
    have hmc : m = cap := by simpa using hmm
    have h3 : Try.prog.cellsOf 76 = 2 := by kernel_rfl
    have hls : ∀ i, i < len → ∃ y : Tk, W.cell? (x.add (i * 2)) = some (.int .i64 y.p) ∧ W.cell? ((x.add (i * 2)).add 1) = some (.int .i64 y.n) := by
      intro i hi
      obtain ⟨cs', hc, ht⟩ := hx i (by omega)
      rw [h3] at hc
      obtain ⟨_, hlen, hcell⟩ := World.cells?_some hc
      match cs', hlen with
      | [v0, v1], _ =>
        obtain ⟨y0, y1, k, _, _, t0, t1⟩ := trod_struct2 Try.underlying76 ht
        obtain ⟨n0, e0, _⟩ := DataW.trod_int Try.underlying3 t0
        obtain ⟨n1, e1, _⟩ := DataW.trod_int Try.underlying3 t1
        have c1 : Try.prog.cellsOf 3 = 1 := by kernel_rfl
        rw [c1] at e0 e1
        obtain rfl : v0 = .int .i64 n0 := by simpa using e0
        obtain rfl : v1 = .int .i64 n1 := by simpa using e1
        refine ⟨⟨n0, n1⟩, ?_, ?_⟩
        · have := hcell 0 (by omega); simpa [Addr.add] using this
        · have := hcell 1 (by omega); simpa using this
    have hch : ∃ f : Nat → Tk, ∀ i, i < len → W.cell? (x.add (i * 2)) = some (.int .i64 (f i).p) ∧ W.cell? ((x.add (i * 2)).add 1) = some (.int .i64 (f i).n) := by
      have : Inhabited Tk := ⟨⟨0, 0⟩⟩
      exact choose_lt hls
    obtain ⟨f, hfn⟩ := hch
    have hlr : ((List.range len).map f).length = len := by simp
    refine ⟨(List.range len).map f, hlr, ?_, Nat.le_trans hl hm⟩
    by_cases h0 : len = 0
    · subst h0; exact .inl (by simp)
    · obtain ⟨b, off, spot⟩ := x
      have hc := (hfn 0 (by omega)).1
      have hspot : spot = none := by simpa [Addr.add] using World.cell?_spot hc
      subst hspot
      refine .inr ⟨b, off, rfl, by have := kcell_lt hc; simpa [Addr.add] using this, fun i hi => ?_⟩
      rw [hlr] at hi
      have e : gk ((List.range len).map f) i = f i := by rw [gk_get (by rw [hlr]; exact hi)]; simp
      rw [e]
      obtain ⟨h1, h2⟩ := hfn i hi
      rw [kadd_none] at h1 h2
      rw [kadd_none] at h2
      exact ⟨h1, h2⟩
end
end Go.Proofs.Ytidabcdaodlfeaa
