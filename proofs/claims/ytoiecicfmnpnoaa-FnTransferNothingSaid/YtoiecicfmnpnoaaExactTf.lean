/- The walks of the exact laws of resumed and acknowledged transfers. -/
import Derived.Test.YtoiecicfmnpnoaaTfE3
import Derived.Test.YtoiecicfmnpnoaaTfP2
namespace Go.Proofs.Ytoiecicfmnpnoaa
open Go.RowKit
set_option linter.unusedVariables false

attribute [local go_sem ↓] Go.wp_at_zero Go.wp_at_succ

/-- the three cells of a struct -/
def St3 (w : World) (b : Nat) (x y z : Value) : Prop := w.cell? ⟨b, 0, none⟩ = some x ∧ w.cell? ⟨b, 1, none⟩ = some y ∧ w.cell? ⟨b, 2, none⟩ = some z
def StTf (w : World) (b : Nat) (a : Option Addr) (cap : Nat) (t : Tf) : Prop := St3 w b (.slice a t.items.length cap) (.int .i64 t.nxt) (.int .i64 t.ack)
theorem st_new {w : World} {a : Option Addr} {cap : Nat} {t : Tf} {ty : TypeId} : StTf (w.alloc (.cells #[.slice a t.items.length cap, .int .i64 t.nxt, .int .i64 t.ack] ty)) w.heap.size a cap t := cells3 (heap_alloc_new w _)
theorem st_keep {w w' : World} {b : Nat} {a : Option Addr} {cap : Nat} {t : Tf} (h : StTf w b a cap t) (hb : w'.heap[b]? = w.heap[b]?) : StTf w' b a cap t :=
  ⟨(World.cell?_of_block (a := ⟨b, 0, none⟩) hb).trans h.1, (World.cell?_of_block (a := ⟨b, 1, none⟩) hb).trans h.2.1, (World.cell?_of_block (a := ⟨b, 2, none⟩) hb).trans h.2.2⟩
theorem ack_len (t : Tf) (n : Int) : (ackT t n).items.length ≤ 20 := by
  unfold ackT
  by_cases h : (tfB t && inB n 0 t.nxt) = true
  · rw [if_pos h]; exact tf_len (t := t) (Bool.and_eq_true _ _ ▸ h).1
  · rw [if_neg h]; exact Nat.zero_le _
theorem res_len (t : Tf) : (resT t).items.length ≤ 20 := by
  unfold resT
  by_cases h : tfB t = true
  · rw [if_pos h]; exact tf_len (t := t) h
  · rw [if_neg h]; exact Nat.zero_le _
theorem new_len (zs : List Int) : (newT zs).items.length ≤ 20 := by
  unfold newT
  by_cases h : itemsB zs = true
  · rw [if_pos h]; exact items_len h
  · rw [if_neg h]; exact Nat.zero_le _



end Go.Proofs.Ytoiecicfmnpnoaa
