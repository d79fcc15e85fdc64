/- What node, meetNeighbours and RingNew do. -/
import Derived.Test.YtihkpofdpjkegaaSameS
namespace Go.Proofs.Ytihkpofdpjkegaa
open Go.RowKit
set_option linter.unusedVariables false

theorem block_of {w : World} {p : Addr} {v : Value} (h : w.cell? p = some v) : p.block < w.heap.size := by
  rcases Nat.lt_or_ge p.block w.heap.size with hlt | hge
  · exact hlt
  · exfalso
    have hn : w.heap[p.block]? = none := Array.getElem?_eq_none hge
    simp [World.cell?, hn] at h
theorem mk_two (w : World) : (Instr.makeSlice 25 (.int .i64 2) (.int .i64 2)).run Try.prog w = .ok (.slice (some ⟨w.heap.size, 0, none⟩) 2 2) (w.alloc (.cells #[.int .i64 0, .int .i64 0] 3)) := by
  have h := run_make_row' (P := Try.prog) 25 3 (.int .i64 0) 8 Try.underlying25 Try.infoInt rfl .i64 .i64 2 (by omega) (by omega) w
  have e : madeCells #[Value.int IntKind.i64 0] 2 = #[.int .i64 0, .int .i64 0] := by simp [madeCells, Array.range]; rfl
  rw [e] at h
  exact h

/-- inside node: the result's block, the variable's block V, the block I of the successors -/
structure NodeSt (w W : World) (V I : Nat) (x b i0 i1 : Int) : Prop where
  bel : Below w.heap.size w W
  size : W.heap.size = w.heap.size + 3
  res : W.heap[w.heap.size]? = some (.cells #[.int .i64 0, .int .i64 0, .slice none 0 0] 30 (0, 0))
  var : W.heap[V]? = some (.cells #[.int .i64 x, .int .i64 b, .slice (some ⟨I, 0, none⟩) 2 2] 30 (0, 0))
  ints : W.heap[I]? = some (.cells #[.int .i64 i0, .int .i64 i1] 3 (0, 0))
  ne : V ≠ I
  rV : w.heap.size < V
  rI : w.heap.size < I
theorem nodeSt_a {w W : World} {x : Int} (h : W = (((w.alloc (.cells #[.int .i64 0, .int .i64 0, .slice none 0 0] 30)).alloc (.cells #[.int .i64 0, .int .i64 0] 3)).alloc (.cells #[.int .i64 x, .int .i64 (-1), .slice (some ⟨w.heap.size + 1, 0, none⟩) 2 2] 30)).drew) :
    NodeSt w W (w.heap.size + 1 + 1) (w.heap.size + 1) x (-1) 0 0 := by
  obtain ⟨h1, h2, h3, h4, h5⟩ := three_new (rfl : (((w.alloc (.cells #[.int .i64 0, .int .i64 0, .slice none 0 0] 30)).alloc (.cells #[.int .i64 0, .int .i64 0] 3)).alloc (.cells #[.int .i64 x, .int .i64 (-1), .slice (some ⟨w.heap.size + 1, 0, none⟩) 2 2] 30)) = _)
  subst h
  exact ⟨h2.drew, h1, h3, h5, h4, by omega, by omega, by omega⟩
theorem nodeSt_b {w W : World} {x : Int} (h : W = (((w.alloc (.cells #[.int .i64 0, .int .i64 0, .slice none 0 0] 30)).alloc (.cells #[.int .i64 x, .int .i64 (-1), .slice (some ⟨w.heap.size + 1 + 1, 0, none⟩) 2 2] 30)).alloc (.cells #[.int .i64 0, .int .i64 0] 3)).drew) :
    NodeSt w W (w.heap.size + 1) (w.heap.size + 1 + 1) x (-1) 0 0 := by
  obtain ⟨h1, h2, h3, h4, h5⟩ := three_new (rfl : (((w.alloc (.cells #[.int .i64 0, .int .i64 0, .slice none 0 0] 30)).alloc (.cells #[.int .i64 x, .int .i64 (-1), .slice (some ⟨w.heap.size + 1 + 1, 0, none⟩) 2 2] 30)).alloc (.cells #[.int .i64 0, .int .i64 0] 3)) = _)
  subst h
  exact ⟨h2.drew, h1, h3, h4, h5, by omega, by omega, by omega⟩
theorem NodeSt.bef {w W : World} {V I : Nat} {x b i0 i1 : Int} (h : NodeSt w W V I x b i0 i1) (b' : Int) : NodeSt w (W.setCell ⟨V, 1, none⟩ (.int .i64 b')) V I x b' i0 i1 := by
  have := h.rV
  exact ⟨h.bel.setCell (p := ⟨V, 1, none⟩) (by show w.heap.size ≤ V; omega) _, by simp [World.setCell]; exact h.size, (heap_set_ne _ _ _ _ _ (by omega)).trans h.res, heap_set _ _ 1 _ h.var, (heap_set_ne _ _ _ _ _ (Ne.symm h.ne)).trans h.ints, h.ne, h.rV, h.rI⟩
theorem NodeSt.s0 {w W : World} {V I : Nat} {x b i0 i1 : Int} (h : NodeSt w W V I x b i0 i1) (z : Int) : NodeSt w (W.setCell ⟨I, 0, none⟩ (.int .i64 z)).drew V I x b z i1 := by
  have := h.rI
  exact ⟨(h.bel.setCell (p := ⟨I, 0, none⟩) (by show w.heap.size ≤ I; omega) _).drew, by simp [World.setCell]; exact h.size, (heap_set_ne W I 0 _ (.int .i64 z) (by omega)).trans h.res, (heap_set_ne W I 0 _ (.int .i64 z) h.ne).trans h.var, heap_set W I 0 _ h.ints, h.ne, h.rV, h.rI⟩
theorem NodeSt.s1 {w W : World} {V I : Nat} {x b i0 i1 : Int} (h : NodeSt w W V I x b i0 i1) (z : Int) : NodeSt w (W.setCell ⟨I, 1, none⟩ (.int .i64 z)).drew V I x b i0 z := by
  have := h.rI
  exact ⟨(h.bel.setCell (p := ⟨I, 1, none⟩) (by show w.heap.size ≤ I; omega) _).drew, by simp [World.setCell]; exact h.size, (heap_set_ne W I 1 _ (.int .i64 z) (by omega)).trans h.res, (heap_set_ne W I 1 _ (.int .i64 z) h.ne).trans h.var, heap_set W I 1 _ h.ints, h.ne, h.rV, h.rI⟩
/-- what node leaves -/
def NodePost (n : Nd) (w : World) (e : Ending) (w' : World) : Prop :=
  ∃ I, e = .returned (.agg #[.int .i64 n.pos, .int .i64 n.bef, .slice (some ⟨I, 0, none⟩) n.aft.length n.aft.length]) ∧ IntsBlk w' I n.aft ∧ w.heap.size ≤ I ∧ I < w'.heap.size ∧ Below w.heap.size w w'
theorem NodeSt.cells {w W : World} {V I : Nat} {x b i0 i1 : Int} (h : NodeSt w W V I x b i0 i1) :
    W.cell? ⟨w.heap.size, 0, none⟩ = some (.int .i64 0) ∧ W.cell? ⟨w.heap.size, 1, none⟩ = some (.int .i64 0) ∧ W.cell? ⟨w.heap.size, 2, none⟩ = some (.slice none 0 0) ∧
    W.cell? ⟨V, 0, none⟩ = some (.int .i64 x) ∧ W.cell? ⟨V, 1, none⟩ = some (.int .i64 b) ∧ W.cell? ⟨V, 2, none⟩ = some (.slice (some ⟨I, 0, none⟩) 2 2) ∧
    W.cell? ⟨I, 0, none⟩ = some (.int .i64 i0) ∧ W.cell? ⟨I, 1, none⟩ = some (.int .i64 i1) ∧
    (∀ i, W.frozen? ⟨w.heap.size, i, none⟩ = false) ∧ (∀ i, W.frozen? ⟨V, i, none⟩ = false) ∧ (∀ i, W.frozen? ⟨I, i, none⟩ = false) :=
  ⟨by rw [cell_of_cells h.res]; rfl, by rw [cell_of_cells h.res]; rfl, by rw [cell_of_cells h.res]; rfl, by rw [cell_of_cells h.var]; rfl, by rw [cell_of_cells h.var]; rfl, by rw [cell_of_cells h.var]; rfl, by rw [cell_of_cells h.ints]; rfl, by rw [cell_of_cells h.ints]; rfl, fun i => frozen_of_cells h.res i, fun i => frozen_of_cells h.var i, fun i => frozen_of_cells h.ints i⟩
theorem node_end {w W : World} {V I : Nat} {x b z0 z1 : Int} (h : NodeSt w W V I x b z0 z1) :
    NodePost ⟨x, b, [z0, z1]⟩ w (.returned (.agg #[.int .i64 x, .int .i64 b, .slice (some ⟨I, 0, none⟩) 2 2])) (((W.setCell ⟨w.heap.size, 0, none⟩ (.int .i64 x)).setCell ⟨w.heap.size, 1, none⟩ (.int .i64 b)).setCell ⟨w.heap.size, 2, none⟩ (.slice (some ⟨I, 0, none⟩) 2 2)) := by
  have hI := h.rI
  have hlt := heap_lt h.ints
  refine ⟨I, rfl, ⟨_, (heap_set_ne _ _ _ _ _ (by omega)).trans ((heap_set_ne _ _ _ _ _ (by omega)).trans ((heap_set_ne _ _ _ _ _ (by omega)).trans h.ints)), fun j hj => ?_⟩, by omega, by simp [World.setCell]; exact hlt, ?_⟩
  · have : j = 0 ∨ j = 1 := by simp at hj; omega
    rcases this with rfl | rfl <;> rfl
  · exact ((h.bel.setCell (Nat.le_refl _) _).setCell (Nat.le_refl _) _).setCell (Nat.le_refl _) _
/-- the predecessor that a peer knows -/
def BefOf (w : World) (b : Option Addr) (z : Int) : Prop := (b = none ∧ z = -1) ∨ ∃ gb, b = some ⟨gb, 0, none⟩ ∧ gb < w.heap.size ∧ w.cell? ⟨gb, 0, none⟩ = some (.int .i64 z)

def NdAt (w : World) (V I : Nat) (x zb z0 z1 : Int) (i : Value) (wr : World) : Prop :=
  (i = .int .i64 0 ∧ NodeSt w wr V I x zb 0 0) ∨ (i = .int .i64 1 ∧ NodeSt w wr V I x zb z0 0) ∨ (i = .int .i64 2 ∧ NodeSt w wr V I x zb z0 z1)

end Go.Proofs.Ytihkpofdpjkegaa
