/- Transfers: what the laws draw (items; a transfer). -/
import Derived.Test.YtoiecicfmnpnoaaTfDraw3
namespace Go.Proofs.Ytoiecicfmnpnoaa
open Go.RowKit
set_option linter.unusedVariables false

attribute [local go_sem ↓] Go.wp_at_zero Go.wp_at_succ

/-- a transfer that a law drew -/
def DrewTfV (w : World) (e : Ending) (w' : World) : Prop :=
  ∃ (a : Option Addr) (cap : Nat) (t : Tf), e = .returned (.agg #[.slice a t.items.length cap, .int .i64 t.nxt, .int .i64 t.ack]) ∧ IntsFrom w' w.heap.size a t.items ∧ t.items.length ≤ 21 ∧ t.items.length ≤ cap ∧ (-2 ≤ t.nxt ∧ t.nxt ≤ 23) ∧ (-2 ≤ t.ack ∧ t.ack ≤ 23) ∧ Below w.heap.size w w'
theorem bytes_keep {w W : World} {s : Option Addr} {len cap : Nat} (h : BytesAt w s len cap) (hb : Below w.heap.size w W) : BytesAt W s len cap := by
  have hs := hb.size
  obtain ⟨h1, h2, h3⟩ := h
  refine ⟨h1, h2, ?_⟩
  rcases h3 with h3 | ⟨b, off, ha, hlt, hc⟩
  · exact .inl h3
  · refine .inr ⟨b, off, ha, by omega, fun i hi => ?_⟩
    obtain ⟨c, hc1, hc2⟩ := hc i hi
    exact ⟨c, hc1, (hb.cell (p := ⟨b, off + i, none⟩) hlt).trans hc2⟩




end Go.Proofs.Ytoiecicfmnpnoaa
