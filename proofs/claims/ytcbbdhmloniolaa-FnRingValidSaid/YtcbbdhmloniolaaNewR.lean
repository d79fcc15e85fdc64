/- What node, meetNeighbours and RingNew do. -/
import Derived.Test.YtcbbdhmloniolaaSameS
namespace Go.Proofs.Ytcbbdhmloniolaa
open Go.RowKit
set_option linter.unusedVariables false

theorem block_of {w : World} {p : Addr} {v : Value} (h : w.cell? p = some v) : p.block < w.heap.size := by
  rcases Nat.lt_or_ge p.block w.heap.size with hlt | hge
  · exact hlt
  · exfalso
    have hn : w.heap[p.block]? = none := Array.getElem?_eq_none hge
    simp [World.cell?, hn] at h
theorem mk_two (w : World) : (Instr.makeSlice 26 (.int .i64 2) (.int .i64 2)).run Try.prog w = .ok (.slice (some ⟨w.heap.size, 0, none⟩) 2 2) (w.alloc (.cells #[.int .i64 0, .int .i64 0] 3)) := by
  have h := run_make_row' (P := Try.prog) 26 3 (.int .i64 0) 8 Try.underlying26 Try.infoInt rfl .i64 .i64 2 (by omega) (by omega) w
  have e : madeCells #[Value.int IntKind.i64 0] 2 = #[.int .i64 0, .int .i64 0] := by simp [madeCells, Array.range]; rfl
  rw [e] at h
  exact h

/-- inside node: the result's block, the variable's block V, the block I of the successors -/
structure NodeSt (w W : World) (V I : Nat) (x b i0 i1 : Int) : Prop where
  bel : Below w.heap.size w W
  size : W.heap.size = w.heap.size + 3
  res : W.heap[w.heap.size]? = some (.cells #[.int .i64 0, .int .i64 0, .slice none 0 0] 28 (0, 0))
  var : W.heap[V]? = some (.cells #[.int .i64 x, .int .i64 b, .slice (some ⟨I, 0, none⟩) 2 2] 28 (0, 0))
  ints : W.heap[I]? = some (.cells #[.int .i64 i0, .int .i64 i1] 3 (0, 0))
  ne : V ≠ I
  rV : w.heap.size < V
  rI : w.heap.size < I
theorem nodeSt_a {w W : World} {x : Int} (h : W = (((w.alloc (.cells #[.int .i64 0, .int .i64 0, .slice none 0 0] 28)).alloc (.cells #[.int .i64 0, .int .i64 0] 3)).alloc (.cells #[.int .i64 x, .int .i64 (-1), .slice (some ⟨w.heap.size + 1, 0, none⟩) 2 2] 28)).drew) :
    NodeSt w W (w.heap.size + 1 + 1) (w.heap.size + 1) x (-1) 0 0 := by
  obtain ⟨h1, h2, h3, h4, h5⟩ := three_new (rfl : (((w.alloc (.cells #[.int .i64 0, .int .i64 0, .slice none 0 0] 28)).alloc (.cells #[.int .i64 0, .int .i64 0] 3)).alloc (.cells #[.int .i64 x, .int .i64 (-1), .slice (some ⟨w.heap.size + 1, 0, none⟩) 2 2] 28)) = _)
  subst h
  exact ⟨h2.drew, h1, h3, h5, h4, by omega, by omega, by omega⟩
theorem nodeSt_b {w W : World} {x : Int} (h : W = (((w.alloc (.cells #[.int .i64 0, .int .i64 0, .slice none 0 0] 28)).alloc (.cells #[.int .i64 x, .int .i64 (-1), .slice (some ⟨w.heap.size + 1 + 1, 0, none⟩) 2 2] 28)).alloc (.cells #[.int .i64 0, .int .i64 0] 3)).drew) :
    NodeSt w W (w.heap.size + 1) (w.heap.size + 1 + 1) x (-1) 0 0 := by
  obtain ⟨h1, h2, h3, h4, h5⟩ := three_new (rfl : (((w.alloc (.cells #[.int .i64 0, .int .i64 0, .slice none 0 0] 28)).alloc (.cells #[.int .i64 x, .int .i64 (-1), .slice (some ⟨w.heap.size + 1 + 1, 0, none⟩) 2 2] 28)).alloc (.cells #[.int .i64 0, .int .i64 0] 3)) = _)
  subst h
  exact ⟨h2.drew, h1, h3, h4, h5, by omega, by omega, by omega⟩
theorem NodeSt.bef {w W : World} {V I : Nat} {x b i0 i1 : Int} (h : NodeSt w W V I x b i0 i1) (b' : Int) : NodeSt w (W.setCell ⟨V, 1, none⟩ (.int .i64 b')) V I x b' i0 i1 := by
  have := h.rV
  exact ⟨h.bel.setCell (p := ⟨V, 1, none⟩) (by show w.heap.size ≤ V; omega) _, by simp [World.setCell]; exact h.size, (heap_set_ne _ _ _ _ _ (by omega)).trans h.res, heap_set _ _ 1 _ h.var, (heap_set_ne _ _ _ _ _ (Ne.symm h.ne)).trans h.ints, h.ne, h.rV, h.rI⟩
theorem NodeSt.s0 {w W : World} {V I : Nat} {x b i0 i1 : Int} (h : NodeSt w W V I x b i0 i1) (z : Int) : NodeSt w (W.setCell ⟨I, 0, none⟩ (.int .i64 z)).drew V I x b z i1 := by
  have := h.rI
  exact ⟨(h.bel.setCell (p := ⟨I, 0, none⟩) (by show w.heap.size ≤ I; omega) _).drew, by simp [World.setCell]; exact h.size, (heap_set_ne W I 0 _ (.int .i64 z) (by omega)).trans h.res, (heap_set_ne W I 0 _ (.int .i64 z) h.ne).trans h.var, heap_set W I 0 _ h.ints, h.ne, h.rV, h.rI⟩
theorem NodeSt.s1 {w W : World} {V I : Nat} {x b i0 i1 : Int} (h : NodeSt w W V I x b i0 i1) (z : Int) : NodeSt w (W.setCell ⟨I, 1, none⟩ (.int .i64 z)).drew V I x b i0 z := by
  have := h.rI
  exact ⟨(h.bel.setCell (p := ⟨I, 1, none⟩) (by show w.heap.size ≤ I; omega) _).drew, by simp [World.setCell]; exact h.size, (heap_set_ne W I 1 _ (.int .i64 z) (by omega)).trans h.res, (heap_set_ne W I 1 _ (.int .i64 z) h.ne).trans h.var, heap_set W I 1 _ h.ints, h.ne, h.rV, h.rI⟩
/-- what node leaves -/
def NodePost (n : Nd) (w : World) (e : Ending) (w' : World) : Prop :=
  ∃ I, e = .returned (.agg #[.int .i64 n.pos, .int .i64 n.bef, .slice (some ⟨I, 0, none⟩) n.aft.length n.aft.length]) ∧ IntsBlk w' I n.aft ∧ w.heap.size ≤ I ∧ I < w'.heap.size ∧ Below w.heap.size w w'
theorem NodeSt.cells {w W : World} {V I : Nat} {x b i0 i1 : Int} (h : NodeSt w W V I x b i0 i1) :
    W.cell? ⟨w.heap.size, 0, none⟩ = some (.int .i64 0) ∧ W.cell? ⟨w.heap.size, 1, none⟩ = some (.int .i64 0) ∧ W.cell? ⟨w.heap.size, 2, none⟩ = some (.slice none 0 0) ∧
    W.cell? ⟨V, 0, none⟩ = some (.int .i64 x) ∧ W.cell? ⟨V, 1, none⟩ = some (.int .i64 b) ∧ W.cell? ⟨V, 2, none⟩ = some (.slice (some ⟨I, 0, none⟩) 2 2) ∧
    W.cell? ⟨I, 0, none⟩ = some (.int .i64 i0) ∧ W.cell? ⟨I, 1, none⟩ = some (.int .i64 i1) ∧
    (∀ i, W.frozen? ⟨w.heap.size, i, none⟩ = false) ∧ (∀ i, W.frozen? ⟨V, i, none⟩ = false) ∧ (∀ i, W.frozen? ⟨I, i, none⟩ = false) :=
  ⟨by rw [cell_of_cells h.res]; rfl, by rw [cell_of_cells h.res]; rfl, by rw [cell_of_cells h.res]; rfl, by rw [cell_of_cells h.var]; rfl, by rw [cell_of_cells h.var]; rfl, by rw [cell_of_cells h.var]; rfl, by rw [cell_of_cells h.ints]; rfl, by rw [cell_of_cells h.ints]; rfl, fun i => frozen_of_cells h.res i, fun i => frozen_of_cells h.var i, fun i => frozen_of_cells h.ints i⟩
theorem node_end {w W : World} {V I : Nat} {x b z0 z1 : Int} (h : NodeSt w W V I x b z0 z1) :
    NodePost ⟨x, b, [z0, z1]⟩ w (.returned (.agg #[.int .i64 x, .int .i64 b, .slice (some ⟨I, 0, none⟩) 2 2])) (((W.setCell ⟨w.heap.size, 0, none⟩ (.int .i64 x)).setCell ⟨w.heap.size, 1, none⟩ (.int .i64 b)).setCell ⟨w.heap.size, 2, none⟩ (.slice (some ⟨I, 0, none⟩) 2 2)) := by
  have hI := h.rI
  have hlt := heap_lt h.ints
  refine ⟨I, rfl, ⟨_, (heap_set_ne _ _ _ _ _ (by omega)).trans ((heap_set_ne _ _ _ _ _ (by omega)).trans ((heap_set_ne _ _ _ _ _ (by omega)).trans h.ints)), fun j hj => ?_⟩, by omega, by simp [World.setCell]; exact hlt, ?_⟩
  · have : j = 0 ∨ j = 1 := by simp at hj; omega
    rcases this with rfl | rfl <;> rfl
  · exact ((h.bel.setCell (Nat.le_refl _) _).setCell (Nat.le_refl _) _).setCell (Nat.le_refl _) _
/-- the predecessor that a peer knows -/
def BefOf (w : World) (b : Option Addr) (z : Int) : Prop := (b = none ∧ z = -1) ∨ ∃ gb, b = some ⟨gb, 0, none⟩ ∧ gb < w.heap.size ∧ w.cell? ⟨gb, 0, none⟩ = some (.int .i64 z)

def NdAt (w : World) (V I : Nat) (x zb z0 z1 : Int) (i : Value) (wr : World) : Prop :=
  (i = .int .i64 0 ∧ NodeSt w wr V I x zb 0 0) ∨ (i = .int .i64 1 ∧ NodeSt w wr V I x zb z0 0) ∨ (i = .int .i64 2 ∧ NodeSt w wr V I x zb z0 z1)

set_option maxHeartbeats 2000000 in
theorem node_any (g g0 g1 : Nat) (b : Option Addr) (x zb z0 z1 : Int) (w : World) (c0 : w.cell? ⟨g, 0, none⟩ = some (.int .i64 x)) (c2 : w.cell? ⟨g, 2, none⟩ = some (.pointer b)) (c3 : w.cell? ⟨g, 3, none⟩ = some (.pointer (some ⟨g0, 0, none⟩))) (c4 : w.cell? ⟨g, 4, none⟩ = some (.pointer (some ⟨g1, 0, none⟩)))
    (hb : BefOf w b zb) (d0 : w.cell? ⟨g0, 0, none⟩ = some (.int .i64 z0)) (d1 : w.cell? ⟨g1, 0, none⟩ = some (.int .i64 z1)) :
    Calls Try.prog 75 #[.pointer (some ⟨g, 0, none⟩)] w (NodePost ⟨x, zb, [z0, z1]⟩ w) := by
  have hg : g < w.heap.size := by have := block_of c0; exact this
  have hg0 : g0 < w.heap.size := by have := block_of d0; exact this
  have hg1 : g1 < w.heap.size := by have := block_of d1; exact this
  have hmk := mk_two
  have F3 : ∀ a b c, (((w.alloc a).alloc b).alloc c).cell? ⟨g, 0, none⟩ = some (.int .i64 x) := fun a b c => ((((Below.refl _ _).alloc (Nat.le_refl _) _).alloc (by simp) _).alloc (by simp; omega) _ : Below w.heap.size w (((w.alloc a).alloc b).alloc c)).cell (p := ⟨g, 0, none⟩) hg |>.trans c0
  have HB := Lib.hid hb
  have HC0 := Lib.hid c0
  have HC2 := Lib.hid c2
  have HC3 := Lib.hid c3
  have HC4 := Lib.hid c4
  have HD0 := Lib.hid d0
  have HD1 := Lib.hid d1
  have j0 : ∀ w, (Instr.index 89 (.agg #[.pointer (some ⟨g0, 0, none⟩), .pointer (some ⟨g1, 0, none⟩)]) (.int .i64 0)).run Try.prog w = .ok (.pointer (some ⟨g0, 0, none⟩)) w := fun _ => by kernel_rfl
  have j1 : ∀ w, (Instr.index 89 (.agg #[.pointer (some ⟨g0, 0, none⟩), .pointer (some ⟨g1, 0, none⟩)]) (.int .i64 1)).run Try.prog w = .ok (.pointer (some ⟨g1, 0, none⟩)) w := fun _ => by kernel_rfl
  go_enter Try.func75, Try.ntmps75
  go_wp2
  clear c2 c3 c4 d0 d1 hb
  go_region
  all_goals
    clear hmk F3 c0
    first
    | (show Exit.then _ _ _ _ ((((w.alloc _).alloc (.cells #[.int .i64 0, .int .i64 0] 3)).alloc _).drew)
       generalize hW : (((w.alloc (.cells #[.int .i64 0, .int .i64 0, .slice none 0 0] 28)).alloc (.cells #[.int .i64 0, .int .i64 0] 3)).alloc (.cells #[.int .i64 x, .int .i64 (-1), .slice (some ⟨w.heap.size + 1, 0, none⟩) 2 2] 28)).drew = W
       have hst := nodeSt_a hW.symm
       clear hW
       generalize w.heap.size + 1 + 1 = V at *
       generalize w.heap.size + 1 = I at *)
    | (generalize hW : (((w.alloc (.cells #[.int .i64 0, .int .i64 0, .slice none 0 0] 28)).alloc (.cells #[.int .i64 x, .int .i64 (-1), .slice (some ⟨w.heap.size + 1 + 1, 0, none⟩) 2 2] 28)).alloc (.cells #[.int .i64 0, .int .i64 0] 3)).drew = W
       have hst := nodeSt_b hW.symm
       clear hW
       generalize w.heap.size + 1 + 1 = I at *
       generalize w.heap.size + 1 = V at *)
    have p2 := (hst.bel.cell (p := ⟨g, 2, none⟩) hg).trans HC2.out
    have p3 := (hst.bel.cell (p := ⟨g, 3, none⟩) hg).trans HC3.out
    have p4 := (hst.bel.cell (p := ⟨g, 4, none⟩) hg).trans HC4.out
    have hend : ∀ W3, NodeSt w W3 V I x zb z0 z1 → NodePost ⟨x, zb, [z0, z1]⟩ w (.returned (.agg #[.int .i64 x, .int .i64 zb, .slice (some ⟨I, 0, none⟩) 2 2])) (((W3.setCell ⟨w.heap.size, 0, none⟩ (.int .i64 x)).setCell ⟨w.heap.size, 1, none⟩ (.int .i64 zb)).setCell ⟨w.heap.size, 2, none⟩ (.slice (some ⟨I, 0, none⟩) 2 2)) := fun W3 h3 => node_end h3
    have HE := Lib.hid hend
    clear hend
    rcases HB.out with ⟨rfl, rfl⟩ | ⟨gb, rfl, hgb, hdb⟩
    · clear HB
      go_wp2
      go_loopw [29] (fun i wr => NdAt w V I x (-1) z0 z1 i wr) (fun i _ => 2 - (intOf i).toNat)
      case atStart => exact .inl ⟨rfl, hst⟩
      case round =>
        clear hst p2 p3 p4
        rcases hrel with ⟨rfl, hst⟩ | ⟨rfl, hst⟩ | ⟨rfl, hst⟩
        · obtain ⟨r0, r1, r2, v0, v1, v2, q0, q1, fr, fv, fi⟩ := hst.cells
          have s0 := (hst.bel.cell (p := ⟨g0, 0, none⟩) hg0).trans HD0.out
          have HST := Lib.hid hst
          clear hst
          go_wp2
          go_region
          go_wp2
          go_roundw
          case rel => exact .inr (.inl ⟨rfl, HST.out.s0 z0⟩)
          case measure => simp [intOf]
        · obtain ⟨r0, r1, r2, v0, v1, v2, q0, q1, fr, fv, fi⟩ := hst.cells
          have s1 := (hst.bel.cell (p := ⟨g1, 0, none⟩) hg1).trans HD1.out
          have HST := Lib.hid hst
          clear hst
          go_wp2
          go_region
          go_wp2
          go_roundw
          case rel => exact .inr (.inr ⟨rfl, HST.out.s1 z1⟩)
          case measure => simp [intOf]
        · obtain ⟨r0, r1, r2, v0, v1, v2, q0, q1, fr, fv, fi⟩ := hst.cells
          have HST := Lib.hid hst
          clear hst
          go_wp2
          have e3 := heap_set _ w.heap.size 2 (.slice (some ⟨I, 0, none⟩) 2 2) (heap_set _ w.heap.size 1 (.int .i64 (-1)) (heap_set wr w.heap.size 0 (.int .i64 x) HST.out.res))
          refine bodyPost_ret (results_cell_row rfl _ _ w.heap.size _ #[.int .i64 x, .int .i64 (-1), .slice (some ⟨I, 0, none⟩) 2 2] (0, 0) _ rfl e3 Try.underlying28 rfl (by kernel_rfl)) rfl ?_
          exact HE.out wr HST.out
    · clear HB
      obtain ⟨r0, r1, r2, v0, v1, v2, q0, q1, fr, fv, fi⟩ := hst.cells
      have sb := (hst.bel.cell (p := ⟨gb, 0, none⟩) hgb).trans hdb
      have hgV : ¬ g = V := by have := hst.rV; omega
      have hst' := hst.bef zb
      have HST' := Lib.hid hst'
      have p3' : ((W.setCell ⟨V, 1, none⟩ (.int .i64 zb))).cell? ⟨g, 3, none⟩ = some (.pointer (some ⟨g0, 0, none⟩)) := (hst'.bel.cell (p := ⟨g, 3, none⟩) hg).trans HC3.out
      have p4' : ((W.setCell ⟨V, 1, none⟩ (.int .i64 zb))).cell? ⟨g, 4, none⟩ = some (.pointer (some ⟨g1, 0, none⟩)) := (hst'.bel.cell (p := ⟨g, 4, none⟩) hg).trans HC4.out
      clear hst hst' p3 p4 hdb
      go_wp2
      go_loopw [29] (fun i wr => NdAt w V I x zb z0 z1 i wr) (fun i _ => 2 - (intOf i).toNat)
      case atStart => exact .inl ⟨rfl, HST'.out⟩
      case round =>
        clear p2 p3' p4' r0 r1 r2 v0 v1 v2 q0 q1 fr fv fi sb HST'
        rcases hrel with ⟨rfl, hst⟩ | ⟨rfl, hst⟩ | ⟨rfl, hst⟩
        · obtain ⟨r0, r1, r2, v0, v1, v2, q0, q1, fr, fv, fi⟩ := hst.cells
          have s0 := (hst.bel.cell (p := ⟨g0, 0, none⟩) hg0).trans HD0.out
          have HST := Lib.hid hst
          clear hst
          go_wp2
          go_region
          go_wp2
          go_roundw
          case rel => exact .inr (.inl ⟨rfl, HST.out.s0 z0⟩)
          case measure => simp [intOf]
        · obtain ⟨r0, r1, r2, v0, v1, v2, q0, q1, fr, fv, fi⟩ := hst.cells
          have s1 := (hst.bel.cell (p := ⟨g1, 0, none⟩) hg1).trans HD1.out
          have HST := Lib.hid hst
          clear hst
          go_wp2
          go_region
          go_wp2
          go_roundw
          case rel => exact .inr (.inr ⟨rfl, HST.out.s1 z1⟩)
          case measure => simp [intOf]
        · obtain ⟨r0, r1, r2, v0, v1, v2, q0, q1, fr, fv, fi⟩ := hst.cells
          have HST := Lib.hid hst
          clear hst
          go_wp2
          have e3 := heap_set _ w.heap.size 2 (.slice (some ⟨I, 0, none⟩) 2 2) (heap_set _ w.heap.size 1 (.int .i64 zb) (heap_set wr w.heap.size 0 (.int .i64 x) HST.out.res))
          refine bodyPost_ret (results_cell_row rfl _ _ w.heap.size _ #[.int .i64 x, .int .i64 zb, .slice (some ⟨I, 0, none⟩) 2 2] (0, 0) _ rfl e3 Try.underlying28 rfl (by kernel_rfl)) rfl ?_
          exact HE.out wr HST.out
end Go.Proofs.Ytcbbdhmloniolaa
