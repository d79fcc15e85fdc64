/- The walks of the exact laws of rings. -/
import Derived.Test.YtndjkokipiikpaaMarkR
import Derived.Test.YtndjkokipiikpaaNet2
namespace Go.Proofs.Ytndjkokipiikpaa
open Go.RowKit
set_option linter.unusedVariables false

theorem small_max {r : List Nd} (h : szR r ≤ 1048576) : r.length ≤ maxLen := by unfold maxLen; have := (small_of h).1; omega
theorem OwnI.blk {w : World} {base g cap : Nat} {zs : List Int} (h : OwnI w base (some ⟨g, 0, none⟩) cap zs) : ∃ cs, w.heap[g]? = some (.cells cs 3 (0, 0)) ∧ zs.length ≤ cs.size := by
  rcases h.2 with ⟨hn, _⟩ | ⟨g', cap', cur, hv, hb, hg, hnc, _, hs, _⟩
  · cases hn
  · injection hv with hv _ hc; injection hv with hv; injection hv with hv; subst hv; exact ⟨cur, hg, by omega⟩
theorem IntsAt.blk {w w' : World} {g : Nat} {zs : List Int} (h : IntsAt w (some ⟨g, 0, none⟩) zs) (e : w'.heap[g]? = w.heap[g]?) : IntsAt w' (some ⟨g, 0, none⟩) zs := by
  rcases h with h0 | ⟨b, off, ha, hlt, hc⟩
  · exact .inl h0
  · injection ha with ha; injection ha with ha ho; subst ha ho
    refine .inr ⟨g, 0, rfl, ?_, fun i hi => (World.cell?_of_block (w := w) e).trans (hc i hi)⟩
    rw [Array.getElem?_eq_getElem hlt] at e
    exact heap_lt e
theorem MarkTo.ints {w w' : World} {g len : Nat} {k : Int} (h : MarkTo w g len k len w') : IntsAt w' (some ⟨g, 0, none⟩) (markI k len) := by
  obtain ⟨_, cs, hb, _, hc⟩ := h
  exact .inr ⟨g, 0, rfl, heap_lt hb, fun i hi => by rw [markI_len] at hi; rw [Nat.zero_add, cell_of_cells hb, hc i hi, markI_gt _ hi]⟩
theorem ids_small {r : List Nd} (h : szR r ≤ 1048576) : (idsV r).length ≤ 1048576 := by
  have := (small_of h).1
  unfold idsV; split
  · rw [ids_len]; exact this
  · simp
theorem pr_small {r : List Nd} (h : szR r ≤ 1048576) : (prV r).length ≤ 1048576 := by
  have := (small_of h).1
  have := prTo_len r r.length
  unfold prV prL; split
  · omega
  · simp




end Go.Proofs.Ytndjkokipiikpaa
