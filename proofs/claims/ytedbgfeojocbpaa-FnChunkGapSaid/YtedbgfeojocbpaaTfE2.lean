/- Transfers and chunks: the laws' copies. -/
import Derived.Test.YtedbgfeojocbpaaTfE
namespace Go.Proofs.Ytedbgfeojocbpaa
open Go.RowKit
set_option linter.unusedVariables false

attribute [local go_sem ↓] Go.wp_at_zero Go.wp_at_succ

/-- a row in a block of its own -/
def RowAt (w : World) (base : Nat) (g : Nat) (zs : List Int) : Prop := RowOf w g zs ∧ base ≤ g
theorem RowOf.kept' {w w' : World} {g : Nat} {zs : List Int} (h : RowOf w g zs) (e : w'.heap[g]? = w.heap[g]?) : RowOf w' g zs := by
  obtain ⟨cs, hc, rest⟩ := h
  exact ⟨cs, e.trans hc, rest⟩
theorem RowOf.lt' {w : World} {g : Nat} {zs : List Int} (h : RowOf w g zs) : g < w.heap.size := by
  obtain ⟨cs, hc, rest⟩ := h
  exact heap_lt hc

set_option maxHeartbeats 2000000 in
theorem toTf_any (a : Option Addr) (cap : Nat) (t : Tf) (w : World) (h : IntsAt w a t.items) (hm : t.items.length ≤ 1048576) :
    Calls Try.prog 25 #[.agg #[.slice a t.items.length cap, .int .i64 t.nxt, .int .i64 t.ack]] w fun e w' => ∃ g, e = .returned (.agg #[.slice (some ⟨g, 0, none⟩) t.items.length t.items.length, .int .i64 t.nxt, .int .i64 t.ack]) ∧ RowOf w' g t.items ∧ w.heap.size ≤ g ∧ Below w.heap.size w w' := by
  have HI := Lib.hid h
  have HM := Lib.hid hm
  clear h hm
  obtain ⟨W, hW⟩ : ∃ W, W = ((w.alloc (.cells #[.slice a t.items.length cap, .int .i64 t.nxt, .int .i64 t.ack] 33)).alloc (.cells #[.slice none 0 0, .int .i64 0, .int .i64 0] 24)).alloc (.cells #[.slice none 0 0, .int .i64 0, .int .i64 0] 24) := ⟨_, rfl⟩
  obtain ⟨hs, hB, h1, h2, h3⟩ := three_newT hW
  have HB := Lib.hid hB
  have HW := Lib.hid hW
  have HS := Lib.hid hs
  have H1 := Lib.hid h1
  have H2 := Lib.hid h2
  have H3 := Lib.hid h3
  obtain ⟨c0, c1, c2⟩ := cells3 h1
  clear hW hB hs h1 h2 h3
  go_enter Try.func25, Try.ntmps25
  go_wp2_with fail
  rw [← HW.out]
  go_wp2_with fail
  refine (toInts_any a _ cap t.items W (HI.out.keepB HB.out (Nat.le_refl _)) rfl HM.out).mono ?_
  rintro e w1 ⟨rfl, hr1, hb1, hs1⟩
  have hz := HS.out
  have h5 := (hb1.block w.heap.size (by omega)).trans H1.out
  have h6 := (hb1.block (w.heap.size + 1) (by omega)).trans H2.out
  have h7 := (hb1.block (w.heap.size + 2) (by omega)).trans H3.out
  obtain ⟨d0, d1, d2⟩ := cells3 h5
  obtain ⟨e0, e1, e2⟩ := cells3 h6
  obtain ⟨j0, j1, j2⟩ := cells3 h7
  have f0 := frozen_of_cells h6 0
  have f1 := frozen_of_cells h6 1
  have f2 := frozen_of_cells h6 2
  have k0 := frozen_of_cells h7 0
  have k1 := frozen_of_cells h7 1
  have k2 := frozen_of_cells h7 2
  have H6 := Lib.hid h6
  have H7 := Lib.hid h7
  have HR := Lib.hid hr1
  have HB1 := Lib.hid (HB.out.trans (hb1.mono (by omega)))
  clear h5 h6 h7 hr1 hb1 hs1 hz c0 c1 c2
  go_wp2
  have hz := HS.out
  refine bodyPost_ret (results_cell_row rfl _ _ (w.heap.size + 1) _ #[.slice (some ⟨W.heap.size, 0, none⟩) t.items.length t.items.length, .int .i64 t.nxt, .int .i64 t.ack] (0, 0) _ rfl (set3 ((set3_ne (by omega)).trans H6.out)) Try.underlying24 rfl (by kernel_rfl)) rfl ?_
  refine ⟨W.heap.size, rfl, ?_, by omega, below_set3 (below_set3 HB1.out (by omega) _ _ _) (by omega) _ _ _⟩
  exact HR.out.kept' ((set3_ne (by omega)).trans (set3_ne (by omega)))

set_option maxHeartbeats 2000000 in
theorem toCk_any (a : Option Addr) (cap : Nat) (t : Ck) (w : World) (h : IntsAt w a t.items) (hm : t.items.length ≤ 1048576) :
    Calls Try.prog 33 #[.agg #[.int .i64 t.pos, .slice a t.items.length cap]] w fun e w' => ∃ g, e = .returned (.agg #[.int .i64 t.pos, .slice (some ⟨g, 0, none⟩) t.items.length t.items.length]) ∧ RowOf w' g t.items ∧ w.heap.size ≤ g ∧ Below w.heap.size w w' := by
  have HI := Lib.hid h
  have HM := Lib.hid hm
  clear h hm
  obtain ⟨W, hW⟩ : ∃ W, W = ((w.alloc (.cells #[.int .i64 t.pos, .slice a t.items.length cap] 42)).alloc (.cells #[.int .i64 0, .slice none 0 0] 46)).alloc (.cells #[.int .i64 t.pos, .slice none 0 0] 46) := ⟨_, rfl⟩
  obtain ⟨hs, hB, h1, h2, h3⟩ := three_newT hW
  have HB := Lib.hid hB
  have HW := Lib.hid hW
  have HS := Lib.hid hs
  have H1 := Lib.hid h1
  have H2 := Lib.hid h2
  have H3 := Lib.hid h3
  obtain ⟨c0, c1⟩ := cells2 h1
  clear hW hB hs h1 h2 h3
  go_enter Try.func33, Try.ntmps33
  go_wp2_with fail
  rw [← HW.out]
  refine (toInts_any a _ cap t.items W (HI.out.keepB HB.out (Nat.le_refl _)) rfl HM.out).mono ?_
  rintro e w1 ⟨rfl, hr1, hb1, hs1⟩
  have hz := HS.out
  have h5 := (hb1.block w.heap.size (by omega)).trans H1.out
  have h6 := (hb1.block (w.heap.size + 1) (by omega)).trans H2.out
  have h7 := (hb1.block (w.heap.size + 2) (by omega)).trans H3.out
  obtain ⟨d0, d1⟩ := cells2 h5
  obtain ⟨e0, e1⟩ := cells2 h6
  obtain ⟨j0, j1⟩ := cells2 h7
  have f0 := frozen_of_cells h6 0
  have f1 := frozen_of_cells h6 1
  have k0 := frozen_of_cells h7 0
  have k1 := frozen_of_cells h7 1
  have H6 := Lib.hid h6
  have H7 := Lib.hid h7
  have HR := Lib.hid hr1
  have HB1 := Lib.hid (HB.out.trans (hb1.mono (by omega)))
  clear h5 h6 h7 hr1 hb1 hs1 hz c0 c1
  go_wp2
  have hz := HS.out
  refine bodyPost_ret (results_cell_row rfl _ _ (w.heap.size + 1) _ #[.int .i64 t.pos, .slice (some ⟨W.heap.size, 0, none⟩) t.items.length t.items.length] (0, 0) _ rfl (set2 ((heap_set_ne _ _ _ _ _ (by omega)).trans H6.out)) Try.underlying46 rfl (by kernel_rfl)) rfl ?_
  refine ⟨W.heap.size, rfl, ?_, by omega, below_set2 (HB1.out.setCell (by show w.heap.size ≤ w.heap.size + 2; omega) _) (by omega) _ _⟩
  exact HR.out.kept' ((set2_ne (by omega)).trans (heap_set_ne _ _ _ _ _ (by omega)))
end Go.Proofs.Ytedbgfeojocbpaa
