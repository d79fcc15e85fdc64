/- A ring that came in as an argument. -/
import Derived.Test.YtihkpofdpjkegaaMB
import Derived.ProofKit
import Derived.Deep.Slices
import Derived.Deep.Strs
namespace Go.Proofs.Ytihkpofdpjkegaa
open Go.ChangeShapes Go.WideShapes Go.ChangeAt Go.RowKit Go.Deep
set_option linter.unusedVariables false

theorem cell_lt {w : World} {p : Addr} {v : Value} (h : w.cell? p = some v) : p.block < w.heap.size := by
  rcases Nat.lt_or_ge p.block w.heap.size with hlt | hge
  · exact hlt
  · exfalso
    have hn : w.heap[p.block]? = none := Array.getElem?_eq_none hge
    simp [World.cell?, hn] at h
theorem add_none (b o j : Nat) : (⟨b, o, none⟩ : Addr).add j = ⟨b, o + j, none⟩ := by unfold Addr.add; split <;> simp_all
theorem add_spot {x : Addr} {j : Nat} (h : (x.add j).spot = none) : x.spot = none ∨ j ≠ 0 := by
  by_cases hj : j = 0
  · subst hj; left; simpa [Addr.add] using h
  · exact .inr hj

section
variable {H : Type} {enc : TypeId × Value → H} {W : World}
/-- a slice of numbers inside what came in -/
theorem open_intsV {fuel : Nat} {v : Value} {x : DataW H × List MemPlace} (h : DataW.trod enc Try.prog W 0 (fun _ => true) true fuel 25 [v] = some x) : ∃ zs, IntsV W v zs := by
  rcases open_ints Try.underlying25 Try.underlying3 (by kernel_rfl) h with ⟨hcs, _⟩ | ⟨y, l, c, zs, hcs, _, hl, hm, hz, _, hcell, hwz⟩
  · obtain rfl : v = .slice none 0 0 := by simpa using hcs
    exact ⟨[], none, 0, rfl, Nat.le_refl _, by unfold maxLen; omega, .inl rfl⟩
  · obtain rfl : v = .slice (some y) l c := by simpa using hcs
    have hzl : zs.length = c := by simpa using hz
    refine ⟨zs.take l, some y, c, by rw [List.length_take, Nat.min_eq_left (by omega)], by rw [List.length_take]; omega, hm, ?_⟩
    by_cases h0 : l = 0
    · subst h0; exact .inl (by simp)
    · obtain ⟨b, off, spot⟩ := y
      have hc := hcell 0 (by omega)
      have hspot : spot = none := by simpa [Addr.add] using World.cell?_spot hc
      subst hspot
      refine .inr ⟨b, off, rfl, by have := cell_lt hc; simpa [Addr.add] using this, fun i hi => ?_⟩
      have hi' : i < l := by simp at hi; omega
      have hci := hcell i (by omega)
      rw [add_none] at hci
      have e : gt (zs.take l) i = zs.getD i 0 := by simp [gt, hi']
      rw [e]; exact hci
/-- a ring that came in -/
theorem open_ring {a : Option Addr} {len cap : Nat} {d : DataW H} {p : List MemPlace} (h : DataW.Trod enc Try.prog W 0 (fun _ => true) true 35 (.slice a len cap) d p) : ∃ r : List Nd, r.length = len ∧ RingAt W a r ∧ len ≤ maxLen := by
  obtain ⟨fuel, hf⟩ := h
  rcases open_slice Try.underlying35 hf with ⟨hcs, _⟩ | ⟨x, l, c, m, n, D, Pl, hcs, _, hl, hm, hmm, _, hx⟩
  · simp [Value.cells] at hcs
    obtain ⟨rfl, rfl, rfl⟩ := hcs
    exact ⟨[], rfl, .inl rfl, by unfold maxLen; omega⟩
  · simp [Value.cells] at hcs
    obtain ⟨rfl, rfl, rfl⟩ := hcs
    have hmc : m = cap := by simpa using hmm
    have h3 : Try.prog.cellsOf 58 = 3 := by kernel_rfl
    have hnode : ∀ i, i < len → ∃ nd : Nd, W.cell? (x.add (i * 3)) = some (.int .i64 nd.pos) ∧ W.cell? ((x.add (i * 3)).add 1) = some (.int .i64 nd.bef) ∧ ∃ v, W.cell? ((x.add (i * 3)).add 2) = some v ∧ IntsV W v nd.aft := by
      intro i hi
      obtain ⟨cs', hc, ht⟩ := hx i (by omega)
      rw [h3] at hc
      obtain ⟨_, hlen, hcell⟩ := World.cells?_some hc
      match cs', hlen with
      | [v0, v1, v2], _ =>
        obtain ⟨y0, y1, y2, k, _, _, t0, t1, t2⟩ := trod_struct3 Try.underlying58 ht
        obtain ⟨n0, e0, _⟩ := DataW.trod_int Try.underlying3 t0
        obtain ⟨n1, e1, _⟩ := DataW.trod_int Try.underlying3 t1
        have c1 : Try.prog.cellsOf 3 = 1 := by kernel_rfl
        have c2 : Try.prog.cellsOf 25 = 1 := by kernel_rfl
        rw [c1] at e0 e1
        rw [c2] at t2
        obtain rfl : v0 = .int .i64 n0 := by simpa using e0
        obtain rfl : v1 = .int .i64 n1 := by simpa using e1
        obtain ⟨zs, hzs⟩ := open_intsV (v := v2) (by simpa using t2)
        refine ⟨⟨n0, n1, zs⟩, ?_, ?_, v2, ?_, hzs⟩
        · have := hcell 0 (by omega); simpa [Addr.add] using this
        · have := hcell 1 (by omega); simpa using this
        · have := hcell 2 (by omega); simpa using this
    have hch : ∃ f : Nat → Nd, ∀ i, i < len → W.cell? (x.add (i * 3)) = some (.int .i64 (f i).pos) ∧ W.cell? ((x.add (i * 3)).add 1) = some (.int .i64 (f i).bef) ∧ ∃ v, W.cell? ((x.add (i * 3)).add 2) = some v ∧ IntsV W v (f i).aft := by
      have : Inhabited Nd := ⟨⟨0, 0, []⟩⟩
      exact choose_lt hnode
    obtain ⟨f, hfn⟩ := hch
    have hlr : ((List.range len).map f).length = len := by simp
    refine ⟨(List.range len).map f, hlr, ?_, Nat.le_trans hl hm⟩
    by_cases h0 : len = 0
    · subst h0; exact .inl (by simp)
    · obtain ⟨b, off, spot⟩ := x
      have hc := (hfn 0 (by omega)).1
      have hspot : spot = none := by simpa [Addr.add] using World.cell?_spot hc
      subst hspot
      refine .inr ⟨b, off, rfl, by have := cell_lt hc; simpa [Addr.add] using this, fun i hi => ?_⟩
      rw [hlr] at hi
      have e : gn ((List.range len).map f) i = f i := by rw [gn_get (by rw [hlr]; exact hi)]; simp
      rw [e]
      obtain ⟨h1, h2, v, h3, h4⟩ := hfn i hi
      rw [add_none] at h1 h2 h3
      rw [add_none] at h2 h3
      exact ⟨h1, h2, v, h3, h4⟩
end
end Go.Proofs.Ytihkpofdpjkegaa
