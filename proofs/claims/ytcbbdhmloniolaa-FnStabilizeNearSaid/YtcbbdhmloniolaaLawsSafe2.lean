/- The walks of the laws of safe rings: live successors. -/
import Derived.Test.YtcbbdhmloniolaaLawsSafe
namespace Go.Proofs.Ytcbbdhmloniolaa
open Go.RowKit
set_option linter.unusedVariables false

/-- what nodeAt tells -/
def idAt (r : List Nd) (i : Int) : Int := if liveB r i then i else -1
def NodeAtPost (r : List Nd) (i : Int) (w : World) (e : Ending) (w' : World) : Prop :=
  ∃ (b : Int) (a : Option Addr) (l c : Nat), e = .returned (.agg #[.int .i64 (idAt r i), .int .i64 b, .slice a l c]) ∧ Below w.heap.size w w'

set_option maxHeartbeats 2000000 in
theorem nodeAt_any (a : Option Addr) (len cap : Nat) (i : Int) (r : List Nd) (w : World) (h : RingAt w a r) (hz : r.length = len) (hm : len ≤ maxLen) :
    Calls Try.prog 16 #[.slice a len cap, .int .i64 i] w (NodeAtPost r i w) := by
  unfold maxLen at hm
  have HZ := Lib.hid hz
  have HI0 := Lib.hid h
  clear h hz
  go_enter Try.func16, Try.ntmps16
  go_wp2
  generalize hW : w.alloc (Obj.cells #[Value.int IntKind.i64 0, Value.int IntKind.i64 0, Value.slice none 0 0] 28) = W
  have hBW : Below w.heap.size w W := by rw [← hW]; exact (Below.refl _ _).alloc (Nat.le_refl _) _
  have hRW : W.heap[w.heap.size]? = some (.cells #[.int .i64 0, .int .i64 0, .slice none 0 0] 28 (0, 0)) := by rw [← hW]; exact heap_alloc_new w _
  have hWz : w.heap.size < W.heap.size := heap_lt hRW
  have HI := Lib.hid (HI0.out.keepB hBW (Nat.le_refl _))
  have HRW := Lib.hid hRW
  clear hW hRW
  go_loopw [5] (fun q wr => ∃ k : Nat, k ≤ len ∧ q = .int .i64 k ∧ (∀ j, j < k → (gn r j).pos ≠ i) ∧ Same W wr) (fun q _ => len - (intOf q).toNat)
  case atStart => exact ⟨0, by omega, rfl, fun j hj => absurd hj (by omega), Same.refl _⟩
  case round =>
    obtain ⟨k, hk, rfl, hno, hs⟩ := hrel
    have HNO := Lib.hid hno
    have hR : wr.heap[w.heap.size]? = some (.cells #[.int .i64 0, .int .i64 0, .slice none 0 0] 28 (0, 0)) := by rw [hs.heap]; exact HRW.out
    have HR := Lib.hid hR
    have z0 : wr.cell? ⟨w.heap.size, 0, none⟩ = some (.int .i64 0) := by rw [cell_of_cells hR]; rfl
    have z1 : wr.cell? ⟨w.heap.size, 1, none⟩ = some (.int .i64 0) := by rw [cell_of_cells hR]; rfl
    have z2 : wr.cell? ⟨w.heap.size, 2, none⟩ = some (.slice none 0 0) := by rw [cell_of_cells hR]; rfl
    have zf : ∀ i, wr.frozen? ⟨w.heap.size, i, none⟩ = false := fun i => frozen_of_cells hR i
    have hBr : Below w.heap.size w wr := hBW.trans (hs.below _)
    clear hno hR
    by_cases hlt : k < len
    · have hkr : k < r.length := by rw [HZ.out]; exact hlt
      obtain ⟨b, off, rfl, hb0, hnodes⟩ := (HI.out.keepB (hs.below _) (Nat.le_refl _)).at_ hkr
      obtain ⟨sa, sc, hc0, hc1, hc2, _, _, _⟩ := node_open (hnodes k hkr)
      clear hnodes
      cases ht : ((gn r k).pos == i)
      · have HT : Hid (¬ (gn r k).pos = i) := by show ¬ _; simpa using ht
        go_wp2
        go_roundw
        case rel =>
          refine ⟨k + 1, by omega, by go_num, fun j hj => ?_, hs⟩
          rcases Nat.lt_or_ge j k with h' | h'
          · exact HNO.out j h'
          · rw [show j = k by omega]; exact HT.out
        case measure => simp [intOf]; omega
      · have hT : (gn r k).pos = i := by simpa using ht
        have HID : Hid (idAt r i = (gn r k).pos) := by show _ = _; unfold idAt; rw [← hT, live_at hkr]; rfl
        clear hT
        go_wp2
        have e3 := heap_set _ w.heap.size 2 (.slice sa (gn r k).aft.length sc) (heap_set _ w.heap.size 1 (.int .i64 (gn r k).bef) (heap_set wr w.heap.size 0 (.int .i64 (gn r k).pos) HR.out))
        refine bodyPost_ret (results_cell_row rfl _ _ w.heap.size _ #[.int .i64 (gn r k).pos, .int .i64 (gn r k).bef, .slice sa (gn r k).aft.length sc] (0, 0) _ rfl e3 Try.underlying28 rfl (by kernel_rfl)) rfl ?_
        exact ⟨_, _, _, _, by rw [HID.out], below_sets (i := 0) hBr (Nat.le_refl _) _ _ _⟩
    · have HID : Hid (idAt r i = -1) := by
        show _ = _
        unfold idAt
        rw [(live_no r i).2 (fun j hj => HNO.out j (by rw [HZ.out] at hj; omega))]; rfl
      have hwz : w.heap.size < wr.heap.size := heap_lt HR.out
      go_wp2
      have e3 := heap_set _ w.heap.size 2 (.slice (some ⟨wr.heap.size, 0, none⟩) 2 2) (heap_set _ w.heap.size 1 (.int .i64 0) (heap_set wr w.heap.size 0 (.int .i64 (-1)) HR.out))
      have e4 := fun o => (Below.heap_alloc _ o w.heap.size (by simp [World.setCell]; exact hwz)).trans e3
      refine bodyPost_ret (results_cell_row rfl _ _ w.heap.size _ #[.int .i64 (-1), .int .i64 0, .slice (some ⟨wr.heap.size, 0, none⟩) 2 2] (0, 0) _ rfl (e4 _) Try.underlying28 rfl (by kernel_rfl)) rfl ?_
      exact ⟨_, _, _, _, by rw [HID.out], (below_sets (i := 0) hBr (Nat.le_refl _) _ _ _).alloc (by simp [World.setCell]; omega) _⟩
theorem nodeAt_as (v : Int) (a : Option Addr) (len cap : Nat) (i : Int) (r : List Nd) (w : World) (h : RingAt w a r) (hz : r.length = len) (hm : len ≤ maxLen) (hv : idAt r i = v) :
    Calls Try.prog 16 #[.slice a len cap, .int .i64 i] w fun e w' => ∃ (b : Int) (a : Option Addr) (l c : Nat), e = .returned (.agg #[.int .i64 v, .int .i64 b, .slice a l c]) ∧ Below w.heap.size w w' := by
  subst hv; exact nodeAt_any a len cap i r w h hz hm
-- MORE

theorem field_id (v b : Int) (a : Option Addr) (l c : Nat) (w : World) : (Instr.field 28 (.agg #[.int .i64 v, .int .i64 b, .slice a l c]) 0).run Try.prog w = .ok (.int .i64 v) w := by kernel_rfl

end Go.Proofs.Ytcbbdhmloniolaa
