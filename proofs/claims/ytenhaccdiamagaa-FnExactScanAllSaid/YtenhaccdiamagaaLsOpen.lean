/- Leases that came in as an argument. -/
import Derived.Test.YtenhaccdiamagaaLsAt
import Derived.ProofKit
import Derived.Deep.Slices
import Derived.Deep.Strs
namespace Go.Proofs.Ytenhaccdiamagaa
open Go.ChangeShapes Go.WideShapes Go.ChangeAt Go.RowKit Go.Deep
set_option linter.unusedVariables false

theorem lcell_lt {w : World} {p : Addr} {v : Value} (h : w.cell? p = some v) : p.block < w.heap.size := by
  rcases Nat.lt_or_ge p.block w.heap.size with hlt | hge
  · exact hlt
  · exfalso
    have hn : w.heap[p.block]? = none := Array.getElem?_eq_none hge
    simp [World.cell?, hn] at h
theorem ladd_none (b o j : Nat) : (⟨b, o, none⟩ : Addr).add j = ⟨b, o + j, none⟩ := by unfold Addr.add; split <;> simp_all

section
variable {H : Type} {enc : TypeId × Value → H} {W : World}
theorem open_ls {a : Option Addr} {len cap : Nat} {d : DataW H} {p : List MemPlace} (h : DataW.Trod enc Try.prog W 0 (fun _ => true) true 53 (.slice a len cap) d p) : ∃ L : List Ls, L.length = len ∧ LsAt W a L ∧ len ≤ maxLen := by
  obtain ⟨fuel, hf⟩ := h
  rcases open_slice Try.underlying53 hf with ⟨hcs, _⟩ | ⟨x, l, c, m, n, D, Pl, hcs, _, hl, hm, hmm, _, hx⟩
  · simp [Value.cells] at hcs
    obtain ⟨rfl, rfl, rfl⟩ := hcs
    exact ⟨[], rfl, .inl rfl, by unfold maxLen; omega⟩
  · simp [Value.cells] at hcs
    obtain ⟨rfl, rfl, rfl⟩ := hcs
    have hmc : m = cap := by simpa using hmm
    have h3 : Try.prog.cellsOf 84 = 3 := by kernel_rfl
    have hls : ∀ i, i < len → ∃ y : Ls, W.cell? (x.add (i * 3)) = some (.int .i64 y.e) ∧ W.cell? ((x.add (i * 3)).add 1) = some (.int .i64 y.o) ∧ W.cell? ((x.add (i * 3)).add 2) = some (.int .i64 y.u) := by
      intro i hi
      obtain ⟨cs', hc, ht⟩ := hx i (by omega)
      rw [h3] at hc
      obtain ⟨_, hlen, hcell⟩ := World.cells?_some hc
      match cs', hlen with
      | [v0, v1, v2], _ =>
        obtain ⟨y0, y1, y2, k, _, _, t0, t1, t2⟩ := trod_struct3 Try.underlying84 ht
        obtain ⟨n0, e0, _⟩ := DataW.trod_int Try.underlying3 t0
        obtain ⟨n1, e1, _⟩ := DataW.trod_int Try.underlying3 t1
        obtain ⟨n2, e2, _⟩ := DataW.trod_int Try.underlying3 t2
        have c1 : Try.prog.cellsOf 3 = 1 := by kernel_rfl
        rw [c1] at e0 e1 e2
        obtain rfl : v0 = .int .i64 n0 := by simpa using e0
        obtain rfl : v1 = .int .i64 n1 := by simpa using e1
        obtain rfl : v2 = .int .i64 n2 := by simpa using e2
        refine ⟨⟨n0, n1, n2⟩, ?_, ?_, ?_⟩
        · have := hcell 0 (by omega); simpa [Addr.add] using this
        · have := hcell 1 (by omega); simpa using this
        · have := hcell 2 (by omega); simpa using this
    have hch : ∃ f : Nat → Ls, ∀ i, i < len → W.cell? (x.add (i * 3)) = some (.int .i64 (f i).e) ∧ W.cell? ((x.add (i * 3)).add 1) = some (.int .i64 (f i).o) ∧ W.cell? ((x.add (i * 3)).add 2) = some (.int .i64 (f i).u) := by
      have : Inhabited Ls := ⟨⟨0, 0, 0⟩⟩
      exact choose_lt hls
    obtain ⟨f, hfn⟩ := hch
    have hlr : ((List.range len).map f).length = len := by simp
    refine ⟨(List.range len).map f, hlr, ?_, Nat.le_trans hl hm⟩
    by_cases h0 : len = 0
    · subst h0; exact .inl (by simp)
    · obtain ⟨b, off, spot⟩ := x
      have hc := (hfn 0 (by omega)).1
      have hspot : spot = none := by simpa [Addr.add] using World.cell?_spot hc
      subst hspot
      refine .inr ⟨b, off, rfl, by have := lcell_lt hc; simpa [Addr.add] using this, fun i hi => ?_⟩
      rw [hlr] at hi
      have e : gl ((List.range len).map f) i = f i := by rw [gl_get (by rw [hlr]; exact hi)]; simp
      rw [e]
      obtain ⟨h1, h2, h3⟩ := hfn i hi
      rw [ladd_none] at h1 h2 h3
      rw [ladd_none] at h2 h3
      exact ⟨h1, h2, h3⟩
end
end Go.Proofs.Ytenhaccdiamagaa
