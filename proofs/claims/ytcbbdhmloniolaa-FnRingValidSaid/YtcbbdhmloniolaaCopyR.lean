/- Copies of rings, their sizes, comparing two, and the marks in them. -/
import Derived.Test.YtcbbdhmloniolaaPeers
import Derived.Test.YtcbbdhmloniolaaMA
import Derived.Handy
namespace Go.Proofs.Ytcbbdhmloniolaa
open Go.RowKit
set_option linter.unusedVariables false

theorem three_new {w W : World} {a b c : Obj} (h : W = ((w.alloc a).alloc b).alloc c) :
    W.heap.size = w.heap.size + 3 ∧ Below w.heap.size w W ∧ W.heap[w.heap.size]? = some a ∧ W.heap[w.heap.size + 1]? = some b ∧ W.heap[w.heap.size + 1 + 1]? = some c := by
  subst h
  refine ⟨by simp, (((Below.refl _ _).alloc (Nat.le_refl _) _).alloc (by simp) _).alloc (by simp; omega) _, ?_, ?_, ?_⟩
  · exact (Below.heap_alloc _ c _ (by simp; omega)).trans (heap_first w a b)
  · exact (Below.heap_alloc _ c _ (by simp)).trans (heap_second w a b)
  · have h := heap_alloc_new ((w.alloc a).alloc b) c
    simpa using h


theorem Try.infoNode : (Try.prog.info? 28).map (fun i => (i.zero, i.size, i.bytes)) = some (some (.agg #[.int .i64 0, .int .i64 0, .slice none 0 0]), 3, 40) := by kernel_rfl

/-- make of a row of nodes -/
theorem mk_nodes (n : Nat) (hn : n ≤ 1048576) (w : World) :
    (Instr.makeSlice 23 (.int .i64 (n : Int)) (.int .i64 (n : Int))).run Try.prog w = .ok (.slice (some ⟨w.heap.size, 0, none⟩) n n) (w.alloc (.cells (madeCells #[.int .i64 0, .int .i64 0, .slice none 0 0] (n * 3)) 28)) := by
  obtain ⟨i, hi, hz0, hz1, hz2⟩ := info_parts Try.infoNode
  have hr := run_make (P := Try.prog) w 23 28 i _ Try.underlying23 hi hz0 .i64 .i64 n n (by omega) (Int.le_refl _) (by rw [hz2]; omega) (by omega)
  simp only [Int.toNat_natCast, hz1] at hr
  exact hr

/-- three cells of a row of nodes -/
def NdCells (cs : Array Value) (i : Nat) (n : Nd) (f : Nat) : Prop :=
  cs[i * 3]? = some (.int .i64 n.pos) ∧ cs[i * 3 + 1]? = some (.int .i64 n.bef) ∧ ∃ c, cs[i * 3 + 2]? = some (.slice (some ⟨f, 0, none⟩) n.aft.length c) ∧ n.aft.length ≤ c ∧ c ≤ maxLen
/-- a block of numbers -/
def IntsBlk (w : World) (f : Nat) (zs : List Int) : Prop := ∃ cs, w.heap[f]? = some (.cells cs 3 (0, 0)) ∧ ∀ j, j < zs.length → cs[j]? = some (.int .i64 (gt zs j))
/-- A ring in blocks of its own: block N has the nodes, block F i the successors of node i; all from lo up to hi. -/
structure RingOwn (w : World) (lo hi N : Nat) (r : List Nd) (F : Nat → Nat) : Prop where
  row : ∃ cs, w.heap[N]? = some (.cells cs 28 (0, 0)) ∧ ∀ i, i < r.length → NdCells cs i (gn r i) (F i)
  inn : ∀ i, i < r.length → IntsBlk w (F i) (gn r i).aft
  inN : lo ≤ N ∧ N < hi
  inF : ∀ i, i < r.length → lo ≤ F i ∧ F i < hi ∧ F i ≠ N
  inj : ∀ i j, i < r.length → j < r.length → F i = F j → i = j
theorem IntsBlk.ints {w : World} {f : Nat} {zs : List Int} (h : IntsBlk w f zs) : IntsAt w (some ⟨f, 0, none⟩) zs := by
  obtain ⟨cs, hb, hc⟩ := h
  exact .inr ⟨f, 0, rfl, heap_lt hb, fun i hi => by rw [Nat.zero_add, cell_of_cells hb, hc i hi]⟩
theorem RowOf.blk {w : World} {N : Nat} {zs : List Int} (h : RowOf w N zs) : IntsBlk w N zs := by
  obtain ⟨c, hb, hs, hc⟩ := h
  exact ⟨c, hb, hc⟩
theorem RingOwn.ring {w : World} {lo hi N : Nat} {r : List Nd} {F : Nat → Nat} (h : RingOwn w lo hi N r F) : RingAt w (some ⟨N, 0, none⟩) r := by
  obtain ⟨cs, hb, hc⟩ := h.row
  refine .inr ⟨N, 0, rfl, heap_lt hb, fun i hi => ?_⟩
  obtain ⟨h0, h1, c, h2, h3, h4⟩ := hc i hi
  refine ⟨by rw [Nat.zero_add, cell_of_cells hb, h0], by rw [Nat.zero_add, cell_of_cells hb, h1], _, by rw [Nat.zero_add, cell_of_cells hb, h2], _, c, rfl, h3, h4, (h.inn i hi).ints⟩
theorem IntsBlk.kept {w w' : World} {f : Nat} {zs : List Int} (h : IntsBlk w f zs) (e : w'.heap[f]? = w.heap[f]?) : IntsBlk w' f zs := by
  obtain ⟨cs, hb, hc⟩ := h; exact ⟨cs, e.trans hb, hc⟩
theorem RingOwn.kept {w w' : World} {lo hi N : Nat} {r : List Nd} {F : Nat → Nat} (h : RingOwn w lo hi N r F) (hk : ∀ g, lo ≤ g → g < hi → w'.heap[g]? = w.heap[g]?) : RingOwn w' lo hi N r F := by
  obtain ⟨cs, hb, hc⟩ := h.row
  exact ⟨⟨cs, (hk _ h.inN.1 h.inN.2).trans hb, hc⟩, fun i hi => (h.inn i hi).kept (hk _ (h.inF i hi).1 (h.inF i hi).2.1), h.inN, h.inF, h.inj⟩
theorem RingOwn.wide {w : World} {lo hi lo' hi' N : Nat} {r : List Nd} {F : Nat → Nat} (h : RingOwn w lo hi N r F) (h1 : lo' ≤ lo) (h2 : hi ≤ hi') : RingOwn w lo' hi' N r F :=
  ⟨h.row, h.inn, ⟨by have := h.inN; omega, by have := h.inN; omega⟩, fun i hi => by have := h.inF i hi; omega, h.inj⟩

/-- the first k nodes are copied -/
def CopyTo (w : World) (r : List Nd) (k : Nat) (wr : World) : Prop :=
  wr.heap.size = w.heap.size + 1 + 4 * k ∧ Below w.heap.size w wr ∧ (∃ cs, wr.heap[w.heap.size]? = some (.cells cs 28 (0, 0)) ∧ cs.size = r.length * 3 ∧ ∀ i, i < k → NdCells cs i (gn r i) (w.heap.size + 4 + 4 * i)) ∧
    ∀ i, i < k → IntsBlk wr (w.heap.size + 4 + 4 * i) (gn r i).aft
theorem copy_start (w : World) (r : List Nd) (n : Nat) (hn : r.length = n) : CopyTo w r 0 (w.alloc (.cells (madeCells #[.int .i64 0, .int .i64 0, .slice none 0 0] (n * 3)) 28)) :=
  ⟨by simp, (Below.refl _ _).alloc (Nat.le_refl _) _, ⟨_, heap_alloc_new w _, by rw [size_madeCells, hn], fun i h => absurd h (by omega)⟩, fun i h => absurd h (by omega)⟩
theorem nd_set {cs : Array Value} {i : Nat} {n : Nd} {f : Nat} (hs : i * 3 + 2 < cs.size) (hm : n.aft.length ≤ maxLen) :
    NdCells (((cs.setIfInBounds (i * 3) (.int .i64 n.pos)).setIfInBounds (i * 3 + 1) (.int .i64 n.bef)).setIfInBounds (i * 3 + 2) (.slice (some ⟨f, 0, none⟩) n.aft.length n.aft.length)) i n f := by
  refine ⟨?_, ?_, n.aft.length, ?_, Nat.le_refl _, hm⟩
  · rw [Array.getElem?_setIfInBounds_ne (by omega), Array.getElem?_setIfInBounds_ne (by omega), Array.getElem?_setIfInBounds_self_of_lt (by omega)]
  · rw [Array.getElem?_setIfInBounds_ne (by omega), Array.getElem?_setIfInBounds_self_of_lt (by simp; omega)]
  · rw [Array.getElem?_setIfInBounds_self_of_lt (by simp; omega)]
theorem nd_keep {cs : Array Value} {i j d : Nat} {n : Nd} {f : Nat} {v : Value} (h : NdCells cs j n f) (hij : j ≠ i) (hd : d < 3) : NdCells (cs.setIfInBounds (i * 3 + d) v) j n f := by
  obtain ⟨h0, h1, c, h2, h3⟩ := h
  refine ⟨?_, ?_, c, ?_, h3⟩
  · rw [Array.getElem?_setIfInBounds_ne (by omega)]; exact h0
  · rw [Array.getElem?_setIfInBounds_ne (by omega)]; exact h1
  · rw [Array.getElem?_setIfInBounds_ne (by omega)]; exact h2
theorem copy_next {w wr w2 : World} {r : List Nd} {k : Nat} (h : CopyTo w r k wr) (hk : k < r.length) (hr : RowOf w2 (wr.heap.size + 3) (gn r k).aft) (hb : Below wr.heap.size wr w2) (hs : w2.heap.size = wr.heap.size + 4) (hm : (gn r k).aft.length ≤ maxLen) :
    CopyTo w r (k + 1) (((w2.setCell ⟨w.heap.size, k * 3, none⟩ (.int .i64 (gn r k).pos)).setCell ⟨w.heap.size, k * 3 + 1, none⟩ (.int .i64 (gn r k).bef)).setCell ⟨w.heap.size, k * 3 + 2, none⟩ (.slice (some ⟨wr.heap.size + 3, 0, none⟩) (gn r k).aft.length (gn r k).aft.length)) := by
  obtain ⟨h1, h2, ⟨cs, h3, h4, h5⟩, h6⟩ := h
  have hwr : w.heap.size < wr.heap.size := by omega
  refine ⟨by simp [World.setCell]; omega, ?_, ⟨_, heap_set _ _ _ _ (heap_set _ _ _ _ (heap_set _ _ _ _ ((hb.block _ hwr).trans h3))), by simpa using h4, fun i hi => ?_⟩, fun i hi => ?_⟩
  · have hb2 : Below w.heap.size w w2 := h2.trans (hb.mono (by omega))
    exact ((hb2.setCell (Nat.le_refl _) _).setCell (Nat.le_refl _) _).setCell (Nat.le_refl _) _
  · rcases Nat.lt_or_ge i k with h' | h'
    · exact nd_keep (nd_keep (nd_keep (d := 0) (h5 i h') (by omega) (by omega)) (by omega) (by omega)) (by omega) (by omega)
    · obtain rfl : i = k := by omega
      rw [h1, show w.heap.size + 1 + 4 * i + 3 = w.heap.size + 4 + 4 * i by omega]
      exact nd_set (by omega) hm
  · have hne : ∀ g, w.heap.size < g → (((w2.setCell ⟨w.heap.size, k * 3, none⟩ (.int .i64 (gn r k).pos)).setCell ⟨w.heap.size, k * 3 + 1, none⟩ (.int .i64 (gn r k).bef)).setCell ⟨w.heap.size, k * 3 + 2, none⟩ (.slice (some ⟨wr.heap.size + 3, 0, none⟩) (gn r k).aft.length (gn r k).aft.length)).heap[g]? = w2.heap[g]? := fun g hg =>
      (heap_set_ne _ _ _ _ _ (by omega)).trans ((heap_set_ne _ _ _ _ _ (by omega)).trans (heap_set_ne _ _ _ _ _ (by omega)))
    rcases Nat.lt_or_ge i k with h' | h'
    · exact (h6 i h').kept ((hne _ (by omega)).trans (hb.block _ (by omega)))
    · obtain rfl : i = k := by omega
      rw [show w.heap.size + 4 + 4 * i = wr.heap.size + 3 by omega]
      exact hr.blk.kept (hne _ (by omega))

/-- what toNodeS leaves -/
def CopiedR (r : List Nd) (w : World) (e : Ending) (w' : World) : Prop :=
  e = .returned (.slice (some ⟨w.heap.size, 0, none⟩) r.length r.length) ∧ (∃ F, RingOwn w' w.heap.size w'.heap.size w.heap.size r F) ∧ Below w.heap.size w w'
/-- all is small -/
def Small (r : List Nd) : Prop := r.length ≤ 1048576 ∧ ∀ i, i < r.length → (gn r i).aft.length ≤ 1048576

end Go.Proofs.Ytcbbdhmloniolaa
