/- Transfers: the model's copies, acknowledgements and resumed transfers. -/
import Derived.Test.YtoiecicfmnpnoaaTfS2
import Derived.Deep.RegionHeld3
namespace Go.Proofs.Ytoiecicfmnpnoaa
open Go.RowKit
set_option linter.unusedVariables false

attribute [local go_sem ↓] Go.wp_at_zero Go.wp_at_succ

theorem two_newT {w W : World} {a b : Obj} (h : W = (w.alloc a).alloc b) :
    W.heap.size = w.heap.size + 2 ∧ Below w.heap.size w W ∧ W.heap[w.heap.size]? = some a ∧ W.heap[w.heap.size + 1]? = some b := by
  subst h
  exact ⟨by simp, ((Below.refl _ _).alloc (Nat.le_refl _) _).alloc (by simp) _, heap_first w a b, heap_second w a b⟩

set_option maxHeartbeats 1000000 in
theorem scopy_any (a : Option Addr) (cap : Nat) (t : Tf) (w : World) (h : IntsAt w a t.items) (hm : t.items.length ≤ 1000000) :
    Calls Try.prog 20 #[.agg #[.slice a t.items.length cap, .int .i64 t.nxt, .int .i64 t.ack]] w (NewTf t w) := by
  have HI := Lib.hid h
  have HM := Lib.hid hm
  clear h
  obtain ⟨W, hW⟩ : ∃ W, W = (w.alloc (.cells #[.slice a t.items.length cap, .int .i64 t.nxt, .int .i64 t.ack] 25)).alloc (.cells #[.slice none 0 0, .int .i64 0, .int .i64 0] 25) := ⟨_, rfl⟩
  obtain ⟨hs, hB, h1, h2⟩ := two_newT hW
  have HB := Lib.hid hB
  have HW := Lib.hid hW
  have HS := Lib.hid hs
  have H1 := Lib.hid h1
  have H2 := Lib.hid h2
  obtain ⟨c0, c1, c2⟩ := cells3 h1
  clear hW hB hs h1 h2
  have HBA : Hid (∀ o, Below W.heap.size W (W.alloc o)) := fun o => (Below.refl _ _).alloc (Nat.le_refl _) _
  have a0 : ∀ o, (W.alloc o).cell? ⟨w.heap.size, 0, none⟩ = some (.slice a t.items.length cap) := fun o => ((HBA.out o).cell (p := ⟨w.heap.size, 0, none⟩) (by show w.heap.size < _; have := HS.out; omega)).trans c0
  have HOE : Hid ((W.alloc (.cells #[] 3)).ownsRow W.heap.size 3 1 (.slice (some ⟨w.heap.size + 1 + 1, 0, none⟩) 0 0) 0 []) := by
    show World.ownsRow _ _ _ _ _ _ _
    have e : w.heap.size + 1 + 1 = W.heap.size := by have := HS.out; omega
    rw [e]; exact own_empty (heap_alloc_new W _) (Nat.le_refl _)
  go_enter Try.func20, Try.ntmps20
  go_wp2_with (at_builtin; rw [← HW.out]; refine wl_appS _ (by rfl) _ _ (by rfl) W.heap.size (w.heap.size + 1 + 1) 0 0 [] (by rfl) HOE.out a t.items.length cap t.items (by rfl) rfl ((HI.out.keepB HB.out (Nat.le_refl _)).keepB (HBA.out _) (Nat.le_refl _)) t.items.length (by omega) (by omega) (by simp) ?_; intro g5 c5 w5 hown hg5 hat5; have hz := HS.out; have hb5 := (HBA.out (.cells #[] 3)).grown hg5 (by simp) (fun k hk => by injection hk with hk; have := HS.out; omega); have h5 := (hb5.block w.heap.size (by omega)).trans H1.out; have h6 := (hb5.block (w.heap.size + 1) (by omega)).trans H2.out; obtain ⟨d0, d1, d2⟩ := cells3 h5; obtain ⟨e0, e1, e2⟩ := cells3 h6; have f0 := frozen_of_cells h5 0; have g0 := frozen_of_cells h6 0; have g1 := frozen_of_cells h6 1; have g2 := frozen_of_cells h6 2; have H5 := Lib.hid h5; have H6 := Lib.hid h6; have HO := Lib.hid hown; have HB5 := Lib.hid hb5; clear h5 h6 hown hg5 hat5 hb5 hz c0 c1 c2 a0)
  have hz := HS.out
  refine bodyPost_ret (results_cell_row rfl _ _ (w.heap.size + 1) _ #[.slice (some ⟨g5, 0, none⟩) t.items.length c5, .int .i64 t.nxt, .int .i64 t.ack] (0, 0) _ rfl (set3 ((heap_set_ne _ _ _ _ _ (by omega)).trans H6.out)) Try.underlying25 rfl (by kernel_rfl)) rfl ?_
  refine ⟨some ⟨g5, 0, none⟩, c5, rfl, ?_, below_set3 ((HB.out.trans (HB5.out.mono (by omega))).setCell (Nat.le_refl _) _) (by omega) _ _ _⟩
  exact ((own_whole HO.out rfl).kept (fun k h1 h2 => (set3_ne (by omega)).trans (heap_set_ne _ _ _ _ _ (by omega)))).less (by omega)
theorem resT_no {t : Tf} (h : tfB t = false) : resT t = zTf := by rw [resT, h]; rfl
theorem resT_yes {t : Tf} (h : tfB t = true) : resT t = ⟨t.items, t.ack, t.ack⟩ := by rw [resT, if_pos h]
theorem tf_len {t : Tf} (h : tfB t = true) : t.items.length ≤ 20 := items_len ((tfB_iff t).1 h).1

end Go.Proofs.Ytoiecicfmnpnoaa
