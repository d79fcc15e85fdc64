/- Transfers: what the laws draw (items; a transfer). -/
import Derived.Test.YtmjloobakahdgabTfDraw3
namespace Go.Proofs.Ytmjloobakahdgab
open Go.RowKit
set_option linter.unusedVariables false

attribute [local go_sem ↓] Go.wp_at_zero Go.wp_at_succ

/-- a transfer that a law drew -/
def DrewTfV (w : World) (e : Ending) (w' : World) : Prop :=
  ∃ (a : Option Addr) (cap : Nat) (t : Tf), e = .returned (.agg #[.slice a t.items.length cap, .int .i64 t.nxt, .int .i64 t.ack]) ∧ IntsFrom w' w.heap.size a t.items ∧ t.items.length ≤ 21 ∧ t.items.length ≤ cap ∧ (-2 ≤ t.nxt ∧ t.nxt ≤ 23) ∧ (-2 ≤ t.ack ∧ t.ack ≤ 23) ∧ Below w.heap.size w w'
theorem bytes_keep {w W : World} {s : Option Addr} {len cap : Nat} (h : BytesAt w s len cap) (hb : Below w.heap.size w W) : BytesAt W s len cap := by
  have hs := hb.size
  obtain ⟨h1, h2, h3⟩ := h
  refine ⟨h1, h2, ?_⟩
  rcases h3 with h3 | ⟨b, off, ha, hlt, hc⟩
  · exact .inl h3
  · refine .inr ⟨b, off, ha, by omega, fun i hi => ?_⟩
    obtain ⟨c, hc1, hc2⟩ := hc i hi
    exact ⟨c, hc1, (hb.cell (p := ⟨b, off + i, none⟩) hlt).trans hc2⟩

set_option maxHeartbeats 1000000 in
theorem drawTransferNew (s : Option Addr) (len cap : Nat) (w : World) (h : BytesAt w s len cap) :
    Calls Try.prog 25 #[.slice s len cap] w fun e w' => ∃ (a : Option Addr) (cap : Nat) (zs : List Int), e = .returned (.slice a zs.length cap) ∧ IntsFrom w' w.heap.size a zs ∧ zs.length ≤ 21 ∧ zs.length ≤ cap ∧ Below w.heap.size w w' := by
  go_enter Try.func25, Try.ntmps25
  go_wp2_with fail
  refine (open_any s len cap w h).mono ?_
  rintro e w0 ⟨rfl, hr0, hb0, hz0⟩
  have HZ := Lib.hid hz0
  clear hz0
  go_wp2_with fail
  refine (titems_any w.heap.size 5 w0 (hr0.less (by omega))).mono ?_
  rintro e w1 ⟨a, cap1, zs, rfl, hi, hl, hlc, hr1, hg1⟩
  go_wp2
  go_ret
  have hz := HZ.out
  exact ⟨a, cap1, zs, rfl, hi.down (by omega), hl, hlc, below_of_grown hb0 (Nat.le_refl _) (by omega) hg1⟩



end Go.Proofs.Ytmjloobakahdgab
