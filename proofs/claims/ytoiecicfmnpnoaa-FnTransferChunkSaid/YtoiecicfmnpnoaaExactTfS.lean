/- The walk of the exact law of sending. -/
import Derived.Test.YtoiecicfmnpnoaaExactTf
import Derived.Test.YtoiecicfmnpnoaaTfSend2
namespace Go.Proofs.Ytoiecicfmnpnoaa
open Go.RowKit
set_option linter.unusedVariables false

attribute [local go_sem ↓] Go.wp_at_zero Go.wp_at_succ

theorem sendT_len (t : Tf) (v : Int) : (sendT t v).items.length ≤ 20 := by
  cases h : askB t v
  · rw [(send_no1 h).1]; exact Nat.zero_le _
  · rw [send_with h]
    exact items_len ((tfB_iff t).1 (Bool.and_eq_true _ _ ▸ h : tfB t = true ∧ inB v 0 20 = true).1).1
theorem sendC_len (t : Tf) (v : Int) : (sendC t v).items.length ≤ 4 := by
  cases hs : sendB t v
  · rw [sendC, hs]; exact Nat.zero_le _
  · exact ((ckB_iff _).1 (sendC_ok hs)).2.1.2
def StCk (w : World) (b : Nat) (a : Option Addr) (cap : Nat) (c : Ck) : Prop := w.cell? ⟨b, 0, none⟩ = some (.int .i64 c.pos) ∧ w.cell? ⟨b, 1, none⟩ = some (.slice a c.items.length cap)
theorem ck_keep {w w' : World} {b : Nat} {a : Option Addr} {cap : Nat} {c : Ck} (h : StCk w b a cap c) (hb : w'.heap[b]? = w.heap[b]?) : StCk w' b a cap c :=
  ⟨(World.cell?_of_block (a := ⟨b, 0, none⟩) hb).trans h.1, (World.cell?_of_block (a := ⟨b, 1, none⟩) hb).trans h.2⟩
theorem two_st {w : World} {a b : Option Addr} {cap cb : Nat} {t : Tf} {c : Ck} {ty ty2 : TypeId} : StTf ((w.alloc (.cells #[.slice a t.items.length cap, .int .i64 t.nxt, .int .i64 t.ack] ty)).alloc (.cells #[.int .i64 c.pos, .slice b c.items.length cb] ty2)) w.heap.size a cap t ∧
    StCk ((w.alloc (.cells #[.slice a t.items.length cap, .int .i64 t.nxt, .int .i64 t.ack] ty)).alloc (.cells #[.int .i64 c.pos, .slice b c.items.length cb] ty2)) (w.heap.size + 1) b cb c :=
  ⟨cells3 (heap_first w _ _), cells2 (heap_second w _ _)⟩
theorem st2_new {w : World} {x y : Value} {ty : TypeId} : (w.alloc (.cells #[x, y] ty)).cell? ⟨w.heap.size, 0, none⟩ = some x ∧ (w.alloc (.cells #[x, y] ty)).cell? ⟨w.heap.size, 1, none⟩ = some y := cells2 (heap_alloc_new w _)

end Go.Proofs.Ytoiecicfmnpnoaa
