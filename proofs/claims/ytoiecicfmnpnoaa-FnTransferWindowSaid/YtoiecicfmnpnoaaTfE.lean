/- Transfers and chunks: the laws' helpers. -/
import Derived.Test.YtoiecicfmnpnoaaTfS6
import Derived.Test.YtoiecicfmnpnoaaDrawL
namespace Go.Proofs.Ytoiecicfmnpnoaa
open Go.RowKit
set_option linter.unusedVariables false

attribute [local go_sem ↓] Go.wp_at_zero Go.wp_at_succ




set_option maxHeartbeats 1000000 in
theorem sameTf_any (a b : Option Addr) (ca cb : Nat) (t : Tf) (w : World) (h : IntsAt w a t.items) (h2 : IntsAt w b t.items) (hm : t.items.length ≤ 1048576) :
    Calls Try.prog 10 #[.agg #[.slice a t.items.length ca, .int .i64 t.nxt, .int .i64 t.ack], .agg #[.slice b t.items.length cb, .int .i64 t.nxt, .int .i64 t.ack]] w fun e w' => e = .returned (.bool true) ∧ Below w.heap.size w w' := by
  have HI := Lib.hid h
  have HI2 := Lib.hid h2
  have HM := Lib.hid hm
  clear h h2 hm
  obtain ⟨W, hW⟩ : ∃ W, W = (w.alloc (.cells #[.slice a t.items.length ca, .int .i64 t.nxt, .int .i64 t.ack] 25)).alloc (.cells #[.slice b t.items.length cb, .int .i64 t.nxt, .int .i64 t.ack] 25) := ⟨_, rfl⟩
  obtain ⟨hs, hB, h1, h2⟩ := two_newT hW
  obtain ⟨c0, c1, c2⟩ := cells3 h1
  obtain ⟨d0, d1, d2⟩ := cells3 h2
  have HB := Lib.hid hB
  have HW := Lib.hid hW
  clear h1 h2 hW hB hs
  go_enter Try.func10, Try.ntmps10
  go_wp2_with fail
  rw [← HW.out]
  go_wp2_with fail
  refine (sameI_any a b _ ca cb t.items W (HI.out.keepB HB.out (Nat.le_refl _)) (HI2.out.keepB HB.out (Nat.le_refl _)) rfl HM.out).mono ?_
  rintro e w1 ⟨rfl, hs1⟩
  have HB1 : Hid (Below w.heap.size w w1) := HB.out.trans (hs1.below _)
  go_wp2
  go_ret
  exact ⟨rfl, HB1.out⟩





set_option maxHeartbeats 1000000 in
theorem sameCk_any (a b : Option Addr) (ca cb : Nat) (t : Ck) (w : World) (h : IntsAt w a t.items) (h2 : IntsAt w b t.items) (hm : t.items.length ≤ 1048576) :
    Calls Try.prog 9 #[.agg #[.int .i64 t.pos, .slice a t.items.length ca], .agg #[.int .i64 t.pos, .slice b t.items.length cb]] w fun e w' => e = .returned (.bool true) ∧ Below w.heap.size w w' := by
  have HI := Lib.hid h
  have HI2 := Lib.hid h2
  have HM := Lib.hid hm
  clear h h2 hm
  obtain ⟨W, hW⟩ : ∃ W, W = (w.alloc (.cells #[.int .i64 t.pos, .slice a t.items.length ca] 29)).alloc (.cells #[.int .i64 t.pos, .slice b t.items.length cb] 29) := ⟨_, rfl⟩
  obtain ⟨hs, hB, h1, h2⟩ := two_newT hW
  obtain ⟨c0, c1⟩ := cells2 h1
  obtain ⟨d0, d1⟩ := cells2 h2
  have HB := Lib.hid hB
  have HW := Lib.hid hW
  clear h1 h2 hW hB hs
  go_enter Try.func9, Try.ntmps9
  go_wp2_with fail
  rw [← HW.out]
  go_wp2_with fail
  refine (sameI_any a b _ ca cb t.items W (HI.out.keepB HB.out (Nat.le_refl _)) (HI2.out.keepB HB.out (Nat.le_refl _)) rfl HM.out).mono ?_
  rintro e w1 ⟨rfl, hs1⟩
  have HB1 : Hid (Below w.heap.size w w1) := HB.out.trans (hs1.below _)
  go_wp2
  go_ret
  exact ⟨rfl, HB1.out⟩



end Go.Proofs.Ytoiecicfmnpnoaa
