/- Transfers: what the laws draw (items; a transfer). -/
import Derived.Test.YtmjloobakahdgaaTfDraw3
namespace Go.Proofs.Ytmjloobakahdgaa
open Go.RowKit
set_option linter.unusedVariables false

attribute [local go_sem ↓] Go.wp_at_zero Go.wp_at_succ

/-- a transfer that a law drew -/
def DrewTfV (w : World) (e : Ending) (w' : World) : Prop :=
  ∃ (a : Option Addr) (cap : Nat) (t : Tf), e = .returned (.agg #[.slice a t.items.length cap, .int .i64 t.nxt, .int .i64 t.ack]) ∧ IntsFrom w' w.heap.size a t.items ∧ t.items.length ≤ 21 ∧ t.items.length ≤ cap ∧ (-2 ≤ t.nxt ∧ t.nxt ≤ 23) ∧ (-2 ≤ t.ack ∧ t.ack ≤ 23) ∧ Below w.heap.size w w'
theorem bytes_keep {w W : World} {s : Option Addr} {len cap : Nat} (h : BytesAt w s len cap) (hb : Below w.heap.size w W) : BytesAt W s len cap := by
  have hs := hb.size
  obtain ⟨h1, h2, h3⟩ := h
  refine ⟨h1, h2, ?_⟩
  rcases h3 with h3 | ⟨b, off, ha, hlt, hc⟩
  · exact .inl h3
  · refine .inr ⟨b, off, ha, by omega, fun i hi => ?_⟩
    obtain ⟨c, hc1, hc2⟩ := hc i hi
    exact ⟨c, hc1, (hb.cell (p := ⟨b, off + i, none⟩) hlt).trans hc2⟩

set_option maxHeartbeats 1000000 in
theorem drawTransferNew (s : Option Addr) (len cap : Nat) (w : World) (h : BytesAt w s len cap) :
    Calls Try.prog 38 #[.slice s len cap] w fun e w' => ∃ (a : Option Addr) (cap : Nat) (zs : List Int), e = .returned (.slice a zs.length cap) ∧ IntsFrom w' w.heap.size a zs ∧ zs.length ≤ 21 ∧ zs.length ≤ cap ∧ Below w.heap.size w w' := by
  go_enter Try.func38, Try.ntmps38
  go_wp2_with fail
  refine (open_any s len cap w h).mono ?_
  rintro e w0 ⟨rfl, hr0, hb0, hz0⟩
  have HZ := Lib.hid hz0
  clear hz0
  go_wp2_with fail
  refine (titems_any w.heap.size 5 w0 (hr0.less (by omega))).mono ?_
  rintro e w1 ⟨a, cap1, zs, rfl, hi, hl, hlc, hr1, hg1⟩
  go_wp2
  go_ret
  have hz := HZ.out
  exact ⟨a, cap1, zs, rfl, hi.down (by omega), hl, hlc, below_of_grown hb0 (Nat.le_refl _) (by omega) hg1⟩

set_option maxHeartbeats 1000000 in
theorem drawTransferValid (s : Option Addr) (len cap : Nat) (w : World) (h : BytesAt w s len cap) :
    Calls Try.prog 44 #[.slice s len cap] w (DrewTfV w) := by
  obtain ⟨W, hW⟩ : ∃ W, W = w.alloc (.cells #[.slice none 0 0, .int .i64 0, .int .i64 0] 24) := ⟨_, rfl⟩
  have hB : Below w.heap.size w W := by rw [hW]; exact (Below.refl _ _).alloc (Nat.le_refl _) _
  have hs : W.heap.size = w.heap.size + 1 := by rw [hW]; simp
  have HR : Hid (W.heap[w.heap.size]? = some zObj) := by show _ = _; rw [hW]; exact heap_alloc_new w _
  have HBY : Hid (BytesAt W s len cap) := bytes_keep h hB
  have HW := Lib.hid hW
  have HS := Lib.hid hs
  have HB := Lib.hid hB
  clear h hW hB hs
  go_enter Try.func44, Try.ntmps44
  go_wp2_with fail
  rw [← HW.out]
  refine (open_any s len cap W HBY.out).mono ?_
  rintro e w0 ⟨rfl, hr0, hb0, hz0⟩
  have HZ := Lib.hid hz0
  have HB0 := Lib.hid hb0
  clear hz0 hb0
  go_wp2_with fail
  refine (ttransfer_any W.heap.size 5 w0 (hr0.less (by omega))).mono ?_
  rintro e w1 ⟨a, cap1, t, rfl, hi, hl, hlc, hn, hk, hr1, hg1⟩
  have hz := HZ.out
  have hs := HS.out
  have HRS : Hid (w1.heap[w.heap.size]? = some zObj) := (hg1.block _ (by omega) (by intro e; injection e with e; omega)).trans ((HB0.out.block _ (by omega)).trans HR.out)
  have HIF := Lib.hid hi
  have HB1 : Hid (Below w.heap.size w w1) := HB.out.trans ((below_of_grown HB0.out (Nat.le_refl _) (by omega) hg1).mono (by omega))
  have HZ0 : Hid (w.heap.size + 1 ≤ w0.heap.size) := by show _ ≤ _; omega
  obtain ⟨z0, z1, z2, z3⟩ := zt_facts HRS.out
  clear hr0 hr1 hg1 hi hz hs
  go_wp2
  refine bodyPost_ret (results_cell_row rfl _ _ w.heap.size _ #[.slice a t.items.length cap1, .int .i64 t.nxt, .int .i64 t.ack] (0, 0) _ rfl (set3 (zobj_eq HRS.out)) Try.underlying24 rfl (by kernel_rfl)) rfl ?_
  have hz0 := HZ0.out
  exact ⟨a, cap1, t, rfl, (HIF.out.keep (Nat.le_of_eq (size_set3 _ _ _ _ _).symm) (fun i h1 _ => set3_ne (by omega))).down (by omega), hl, hlc, hn, hk, below_set3 HB1.out (Nat.le_refl _) _ _ _⟩

set_option maxHeartbeats 1000000 in
theorem drawTransferResume (s : Option Addr) (len cap : Nat) (w : World) (h : BytesAt w s len cap) :
    Calls Try.prog 42 #[.slice s len cap] w (DrewTfV w) := by
  obtain ⟨W, hW⟩ : ∃ W, W = w.alloc (.cells #[.slice none 0 0, .int .i64 0, .int .i64 0] 24) := ⟨_, rfl⟩
  have hB : Below w.heap.size w W := by rw [hW]; exact (Below.refl _ _).alloc (Nat.le_refl _) _
  have hs : W.heap.size = w.heap.size + 1 := by rw [hW]; simp
  have HR : Hid (W.heap[w.heap.size]? = some zObj) := by show _ = _; rw [hW]; exact heap_alloc_new w _
  have HBY : Hid (BytesAt W s len cap) := bytes_keep h hB
  have HW := Lib.hid hW
  have HS := Lib.hid hs
  have HB := Lib.hid hB
  clear h hW hB hs
  go_enter Try.func42, Try.ntmps42
  go_wp2_with fail
  rw [← HW.out]
  refine (open_any s len cap W HBY.out).mono ?_
  rintro e w0 ⟨rfl, hr0, hb0, hz0⟩
  have HZ := Lib.hid hz0
  have HB0 := Lib.hid hb0
  clear hz0 hb0
  go_wp2_with fail
  refine (ttransfer_any W.heap.size 5 w0 (hr0.less (by omega))).mono ?_
  rintro e w1 ⟨a, cap1, t, rfl, hi, hl, hlc, hn, hk, hr1, hg1⟩
  have hz := HZ.out
  have hs := HS.out
  have HRS : Hid (w1.heap[w.heap.size]? = some zObj) := (hg1.block _ (by omega) (by intro e; injection e with e; omega)).trans ((HB0.out.block _ (by omega)).trans HR.out)
  have HIF := Lib.hid hi
  have HB1 : Hid (Below w.heap.size w w1) := HB.out.trans ((below_of_grown HB0.out (Nat.le_refl _) (by omega) hg1).mono (by omega))
  have HZ0 : Hid (w.heap.size + 1 ≤ w0.heap.size) := by show _ ≤ _; omega
  obtain ⟨z0, z1, z2, z3⟩ := zt_facts HRS.out
  clear hr0 hr1 hg1 hi hz hs
  go_wp2
  refine bodyPost_ret (results_cell_row rfl _ _ w.heap.size _ #[.slice a t.items.length cap1, .int .i64 t.nxt, .int .i64 t.ack] (0, 0) _ rfl (set3 (zobj_eq HRS.out)) Try.underlying24 rfl (by kernel_rfl)) rfl ?_
  have hz0 := HZ0.out
  exact ⟨a, cap1, t, rfl, (HIF.out.keep (Nat.le_of_eq (size_set3 _ _ _ _ _).symm) (fun i h1 _ => set3_ne (by omega))).down (by omega), hl, hlc, hn, hk, below_set3 HB1.out (Nat.le_refl _) _ _ _⟩

end Go.Proofs.Ytmjloobakahdgaa
