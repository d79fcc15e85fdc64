/- Transfers and chunks: the laws' helpers. -/
import Derived.Test.YtedbgfeojocbpaaTfS6
import Derived.Test.YtedbgfeojocbpaaDrawL
namespace Go.Proofs.Ytedbgfeojocbpaa
open Go.RowKit
set_option linter.unusedVariables false

attribute [local go_sem ↓] Go.wp_at_zero Go.wp_at_succ

/-- what is left behind len -/
def leftT (left : Int) (len : Nat) : Int := if left - len < 0 then -1 else left - len
set_option maxHeartbeats 400000 in
theorem szI_any (a : Option Addr) (len cap : Nat) (left : Int) (w : World) (h0 : 0 ≤ left) (h1 : left ≤ 1048576) (hm : len ≤ maxLen) :
    Calls Try.prog 48 #[.slice a len cap, .int .i64 left] w fun e w' => e = .returned (.int .i64 (leftT left len)) ∧ w = w' := by
  unfold maxLen at hm
  by_cases hc : left - len < 0
  · have He : Hid (leftT left len = -1) := by show leftT left len = -1; simp [leftT, hc]
    go_enter Try.func48, Try.ntmps48
    go_wp2
    go_ret
    exact ⟨by rw [He.out]; rfl, rfl⟩
  · have He : Hid (leftT left len = left - len) := by show leftT left len = _; simp [leftT, hc]
    go_enter Try.func48, Try.ntmps48
    go_wp2
    go_ret
    exact ⟨by rw [He.out]; rfl, rfl⟩

set_option maxHeartbeats 1000000 in
theorem szTf_any (a : Option Addr) (cap : Nat) (t : Tf) (left : Int) (w : World) (h0 : 0 ≤ left) (h1 : left ≤ 1048576) (hm : t.items.length ≤ maxLen) :
    Calls Try.prog 23 #[.agg #[.slice a t.items.length cap, .int .i64 t.nxt, .int .i64 t.ack], .int .i64 left] w fun e w' => e = .returned (.int .i64 (leftT left t.items.length)) ∧ Below w.heap.size w w' := by
  have HM := Lib.hid hm
  clear hm
  obtain ⟨W, hW⟩ : ∃ W, W = w.alloc (.cells #[.slice a t.items.length cap, .int .i64 t.nxt, .int .i64 t.ack] 33) := ⟨_, rfl⟩
  have hB : Below w.heap.size w W := by rw [hW]; exact (Below.refl _ _).alloc (Nat.le_refl _) _
  have hh : W.heap[w.heap.size]? = some (.cells #[.slice a t.items.length cap, .int .i64 t.nxt, .int .i64 t.ack] 33 (0, 0)) := by rw [hW]; exact heap_alloc_new w _
  obtain ⟨c0, c1, c2⟩ := cells3 hh
  have HB := Lib.hid hB
  have HW := Lib.hid hW
  clear hh hW hB
  by_cases hc : left - t.items.length < 0
  · have He : Hid (leftT left t.items.length = -1) := by show leftT left t.items.length = -1; simp [leftT, hc]
    clear hc
    go_enter Try.func23, Try.ntmps23
    go_wp2_with fail
    rw [← HW.out]
    go_wp2_with fail
    refine (szI_any a _ cap left W h0 h1 HM.out).mono ?_
    rintro e w1 ⟨rfl, rfl⟩
    rw [He.out]
    go_wp2
    go_ret
    exact ⟨by rw [He.out]; rfl, HB.out⟩
  · have He : Hid (leftT left t.items.length = left - t.items.length) := by show leftT left t.items.length = _; simp [leftT, hc]
    have hn : (0 : Int) ≤ left - t.items.length := by omega
    have hn2 : ¬ left - t.items.length < 0 := hc
    clear hc
    go_enter Try.func23, Try.ntmps23
    go_wp2_with fail
    rw [← HW.out]
    go_wp2_with fail
    refine (szI_any a _ cap left W h0 h1 HM.out).mono ?_
    rintro e w1 ⟨rfl, rfl⟩
    rw [He.out]
    go_wp2
    go_ret
    exact ⟨by rw [He.out]; rfl, HB.out⟩

set_option maxHeartbeats 1000000 in
theorem eqTf_same (a b : Option Addr) (ca cb : Nat) (t : Tf) (w : World) (h : IntsAt w a t.items) (h2 : IntsAt w b t.items) (hm : t.items.length ≤ 1048576) :
    Calls Try.prog 18 #[.agg #[.slice a t.items.length ca, .int .i64 t.nxt, .int .i64 t.ack], .agg #[.slice b t.items.length cb, .int .i64 t.nxt, .int .i64 t.ack]] w fun e w' => e = .returned (.bool true) ∧ Below w.heap.size w w' := by
  have HI := Lib.hid h
  have HI2 := Lib.hid h2
  have HM := Lib.hid hm
  clear h h2 hm
  obtain ⟨W, hW⟩ : ∃ W, W = (w.alloc (.cells #[.slice a t.items.length ca, .int .i64 t.nxt, .int .i64 t.ack] 24)).alloc (.cells #[.slice b t.items.length cb, .int .i64 t.nxt, .int .i64 t.ack] 24) := ⟨_, rfl⟩
  obtain ⟨hs, hB, h1, h2⟩ := two_newT hW
  obtain ⟨c0, c1, c2⟩ := cells3 h1
  obtain ⟨d0, d1, d2⟩ := cells3 h2
  have HB := Lib.hid hB
  have HW := Lib.hid hW
  clear h1 h2 hW hB hs
  go_enter Try.func18, Try.ntmps18
  go_wp2_with fail
  rw [← HW.out]
  go_wp2_with fail
  refine (eqInts_same a b _ ca cb t.items W (HI.out.keepB HB.out (Nat.le_refl _)) (HI2.out.keepB HB.out (Nat.le_refl _)) rfl HM.out).mono ?_
  rintro e w1 ⟨rfl, hs1⟩
  obtain ⟨nd, rfl⟩ := hs1
  have HB1 : Hid (Below w.heap.size w (W.drewN nd)) := HB.out.trans ((Same.below ⟨nd, rfl⟩ _))
  go_wp2
  go_ret
  exact ⟨rfl, HB1.out⟩

set_option maxHeartbeats 1000000 in
theorem sameTf_any (a b : Option Addr) (ca cb : Nat) (t : Tf) (w : World) (h : IntsAt w a t.items) (h2 : IntsAt w b t.items) (hm : t.items.length ≤ 1048576) :
    Calls Try.prog 39 #[.agg #[.slice a t.items.length ca, .int .i64 t.nxt, .int .i64 t.ack], .agg #[.slice b t.items.length cb, .int .i64 t.nxt, .int .i64 t.ack]] w fun e w' => e = .returned (.bool true) ∧ Below w.heap.size w w' := by
  have HI := Lib.hid h
  have HI2 := Lib.hid h2
  have HM := Lib.hid hm
  clear h h2 hm
  obtain ⟨W, hW⟩ : ∃ W, W = (w.alloc (.cells #[.slice a t.items.length ca, .int .i64 t.nxt, .int .i64 t.ack] 24)).alloc (.cells #[.slice b t.items.length cb, .int .i64 t.nxt, .int .i64 t.ack] 24) := ⟨_, rfl⟩
  obtain ⟨hs, hB, h1, h2⟩ := two_newT hW
  obtain ⟨c0, c1, c2⟩ := cells3 h1
  obtain ⟨d0, d1, d2⟩ := cells3 h2
  have HB := Lib.hid hB
  have HW := Lib.hid hW
  clear h1 h2 hW hB hs
  go_enter Try.func39, Try.ntmps39
  go_wp2_with fail
  rw [← HW.out]
  go_wp2_with fail
  refine (sameI_any a b _ ca cb t.items W (HI.out.keepB HB.out (Nat.le_refl _)) (HI2.out.keepB HB.out (Nat.le_refl _)) rfl HM.out).mono ?_
  rintro e w1 ⟨rfl, hs1⟩
  have HB1 : Hid (Below w.heap.size w w1) := HB.out.trans (hs1.below _)
  go_wp2
  go_ret
  exact ⟨rfl, HB1.out⟩

set_option maxHeartbeats 1000000 in
theorem markTf_any (g cap : Nat) (t : Tf) (k0 : Int) (w : World) (h : ∃ cs, w.heap[g]? = some (.cells cs 3 (0, 0)) ∧ t.items.length ≤ cs.size) (h0 : 0 ≤ k0) (h1 : k0 ≤ 1000000000) (hm : t.items.length ≤ 1048576) :
    Calls Try.prog 21 #[.agg #[.slice (some ⟨g, 0, none⟩) t.items.length cap, .int .i64 t.nxt, .int .i64 t.ack], .int .i64 k0] w fun e w' => e = .returned (.int .i64 (k0 + t.items.length)) ∧ IntsAt w' (some ⟨g, 0, none⟩) (markI k0 t.items.length) ∧ w.heap.size ≤ w'.heap.size ∧ (∀ i, i < w.heap.size → i ≠ g → w'.heap[i]? = w.heap[i]?) ∧ w'.os = w.os ∧ w'.tape = w.tape ∧ w'.output = w.output := by
  have hgl : g < w.heap.size := by obtain ⟨cs, hc, _⟩ := h; exact heap_lt hc
  have HG := Lib.hid hgl
  obtain ⟨W, hW⟩ : ∃ W, W = w.alloc (.cells #[.slice (some ⟨g, 0, none⟩) t.items.length cap, .int .i64 t.nxt, .int .i64 t.ack] 24) := ⟨_, rfl⟩
  have hB : Below w.heap.size w W := by rw [hW]; exact (Below.refl _ _).alloc (Nat.le_refl _) _
  have hh : W.heap[w.heap.size]? = some (.cells #[.slice (some ⟨g, 0, none⟩) t.items.length cap, .int .i64 t.nxt, .int .i64 t.ack] 24 (0, 0)) := by rw [hW]; exact heap_alloc_new w _
  obtain ⟨c0, c1, c2⟩ := cells3 hh
  have HX : Hid (∃ cs, W.heap[g]? = some (.cells cs 3 (0, 0)) ∧ t.items.length ≤ cs.size) := by
    obtain ⟨cs, hc, hs⟩ := h; exact ⟨cs, (hB.block g hgl).trans hc, hs⟩
  have HB := Lib.hid hB
  have HW := Lib.hid hW
  have HM := Lib.hid hm
  clear hh hW hB h hgl hm
  go_enter Try.func21, Try.ntmps21
  go_wp2_with fail
  rw [← HW.out]
  go_wp2_with fail
  refine (markInts_any g t.items.length cap k0 W HX.out h0 h1 HM.out).mono ?_
  rintro e w1 ⟨rfl, hm1⟩
  have HM1 := Lib.hid hm1
  clear hm1
  go_wp2
  go_ret
  have hs := HM1.out.1.size
  have hb := HB.out.size
  exact ⟨rfl, HM1.out.ints, by omega, fun i hi hne => (HM1.out.1.block i hne).trans (HB.out.block i hi), HM1.out.1.os.trans HB.out.os, HM1.out.1.tape.trans HB.out.tape, HM1.out.1.output.trans HB.out.output⟩

set_option maxHeartbeats 1000000 in
theorem heldTf_any (a : Option Addr) (cap : Nat) (t : Tf) (k0 : Int) (w : World) (h : IntsAt w a (markI k0 t.items.length)) (h0 : 0 ≤ k0) (h1 : k0 ≤ 1000000000) (hm : t.items.length ≤ 1048576) :
    Calls Try.prog 22 #[.agg #[.slice a t.items.length cap, .int .i64 t.nxt, .int .i64 t.ack], .int .i64 k0] w fun e w' => e = .returned (.int .i64 (k0 + t.items.length)) ∧ Below w.heap.size w w' := by
  have HI := Lib.hid h
  obtain ⟨W, hW⟩ : ∃ W, W = w.alloc (.cells #[.slice a t.items.length cap, .int .i64 t.nxt, .int .i64 t.ack] 24) := ⟨_, rfl⟩
  have hB : Below w.heap.size w W := by rw [hW]; exact (Below.refl _ _).alloc (Nat.le_refl _) _
  have hh : W.heap[w.heap.size]? = some (.cells #[.slice a t.items.length cap, .int .i64 t.nxt, .int .i64 t.ack] 24 (0, 0)) := by rw [hW]; exact heap_alloc_new w _
  obtain ⟨c0, c1, c2⟩ := cells3 hh
  have HB := Lib.hid hB
  have HW := Lib.hid hW
  have HM := Lib.hid hm
  have p0 : (0 : Int) ≤ k0 + t.items.length := by omega
  clear hh hW hB h hm
  go_enter Try.func22, Try.ntmps22
  go_wp2_with fail
  rw [← HW.out]
  go_wp2_with fail
  refine (heldInts_any a _ cap k0 W (HI.out.keepB HB.out (Nat.le_refl _)) h0 h1 HM.out).mono ?_
  rintro e w1 ⟨rfl, hs1⟩
  have HB1 : Hid (Below w.heap.size w w1) := HB.out.trans (hs1.below _)
  go_wp2
  go_ret
  exact ⟨rfl, HB1.out⟩

set_option maxHeartbeats 1000000 in
theorem szCk_any (a : Option Addr) (cap : Nat) (t : Ck) (left : Int) (w : World) (h0 : 0 ≤ left) (h1 : left ≤ 1048576) (hm : t.items.length ≤ maxLen) :
    Calls Try.prog 31 #[.agg #[.int .i64 t.pos, .slice a t.items.length cap], .int .i64 left] w fun e w' => e = .returned (.int .i64 (leftT left t.items.length)) ∧ Below w.heap.size w w' := by
  have HM := Lib.hid hm
  clear hm
  obtain ⟨W, hW⟩ : ∃ W, W = w.alloc (.cells #[.int .i64 t.pos, .slice a t.items.length cap] 42) := ⟨_, rfl⟩
  have hB : Below w.heap.size w W := by rw [hW]; exact (Below.refl _ _).alloc (Nat.le_refl _) _
  have hh : W.heap[w.heap.size]? = some (.cells #[.int .i64 t.pos, .slice a t.items.length cap] 42 (0, 0)) := by rw [hW]; exact heap_alloc_new w _
  obtain ⟨c0, c1⟩ := cells2 hh
  have HB := Lib.hid hB
  have HW := Lib.hid hW
  clear hh hW hB
  by_cases hc : left - t.items.length < 0
  · have He : Hid (leftT left t.items.length = -1) := by show leftT left t.items.length = -1; simp [leftT, hc]
    clear hc
    go_enter Try.func31, Try.ntmps31
    go_wp2_with fail
    rw [← HW.out]
    go_wp2_with fail
    refine (szI_any a _ cap left W h0 h1 HM.out).mono ?_
    rintro e w1 ⟨rfl, rfl⟩
    rw [He.out]
    go_wp2
    go_ret
    exact ⟨by rw [He.out]; rfl, HB.out⟩
  · have He : Hid (leftT left t.items.length = left - t.items.length) := by show leftT left t.items.length = _; simp [leftT, hc]
    have hn : (0 : Int) ≤ left - t.items.length := by omega
    have hn2 : ¬ left - t.items.length < 0 := hc
    clear hc
    go_enter Try.func31, Try.ntmps31
    go_wp2_with fail
    rw [← HW.out]
    go_wp2_with fail
    refine (szI_any a _ cap left W h0 h1 HM.out).mono ?_
    rintro e w1 ⟨rfl, rfl⟩
    rw [He.out]
    go_wp2
    go_ret
    exact ⟨by rw [He.out]; rfl, HB.out⟩

set_option maxHeartbeats 1000000 in
theorem eqCk_same (a b : Option Addr) (ca cb : Nat) (t : Ck) (w : World) (h : IntsAt w a t.items) (h2 : IntsAt w b t.items) (hm : t.items.length ≤ 1048576) :
    Calls Try.prog 35 #[.agg #[.int .i64 t.pos, .slice a t.items.length ca], .agg #[.int .i64 t.pos, .slice b t.items.length cb]] w fun e w' => e = .returned (.bool true) ∧ Below w.heap.size w w' := by
  have HI := Lib.hid h
  have HI2 := Lib.hid h2
  have HM := Lib.hid hm
  clear h h2 hm
  obtain ⟨W, hW⟩ : ∃ W, W = (w.alloc (.cells #[.int .i64 t.pos, .slice a t.items.length ca] 46)).alloc (.cells #[.int .i64 t.pos, .slice b t.items.length cb] 46) := ⟨_, rfl⟩
  obtain ⟨hs, hB, h1, h2⟩ := two_newT hW
  obtain ⟨c0, c1⟩ := cells2 h1
  obtain ⟨d0, d1⟩ := cells2 h2
  have HB := Lib.hid hB
  have HW := Lib.hid hW
  clear h1 h2 hW hB hs
  go_enter Try.func35, Try.ntmps35
  go_wp2_with fail
  rw [← HW.out]
  go_wp2_with fail
  refine (eqInts_same a b _ ca cb t.items W (HI.out.keepB HB.out (Nat.le_refl _)) (HI2.out.keepB HB.out (Nat.le_refl _)) rfl HM.out).mono ?_
  rintro e w1 ⟨rfl, hs1⟩
  obtain ⟨nd, rfl⟩ := hs1
  have HB1 : Hid (Below w.heap.size w (W.drewN nd)) := HB.out.trans ((Same.below ⟨nd, rfl⟩ _))
  go_wp2
  go_ret
  exact ⟨rfl, HB1.out⟩


set_option maxHeartbeats 1000000 in
theorem markCk_any (g cap : Nat) (t : Ck) (k0 : Int) (w : World) (h : ∃ cs, w.heap[g]? = some (.cells cs 3 (0, 0)) ∧ t.items.length ≤ cs.size) (h0 : 0 ≤ k0) (h1 : k0 ≤ 1000000000) (hm : t.items.length ≤ 1048576) :
    Calls Try.prog 36 #[.agg #[.int .i64 t.pos, .slice (some ⟨g, 0, none⟩) t.items.length cap], .int .i64 k0] w fun e w' => e = .returned (.int .i64 (k0 + t.items.length)) ∧ IntsAt w' (some ⟨g, 0, none⟩) (markI k0 t.items.length) ∧ w.heap.size ≤ w'.heap.size ∧ (∀ i, i < w.heap.size → i ≠ g → w'.heap[i]? = w.heap[i]?) ∧ w'.os = w.os ∧ w'.tape = w.tape ∧ w'.output = w.output := by
  have hgl : g < w.heap.size := by obtain ⟨cs, hc, _⟩ := h; exact heap_lt hc
  have HG := Lib.hid hgl
  obtain ⟨W, hW⟩ : ∃ W, W = w.alloc (.cells #[.int .i64 t.pos, .slice (some ⟨g, 0, none⟩) t.items.length cap] 46) := ⟨_, rfl⟩
  have hB : Below w.heap.size w W := by rw [hW]; exact (Below.refl _ _).alloc (Nat.le_refl _) _
  have hh : W.heap[w.heap.size]? = some (.cells #[.int .i64 t.pos, .slice (some ⟨g, 0, none⟩) t.items.length cap] 46 (0, 0)) := by rw [hW]; exact heap_alloc_new w _
  obtain ⟨c0, c1⟩ := cells2 hh
  have HX : Hid (∃ cs, W.heap[g]? = some (.cells cs 3 (0, 0)) ∧ t.items.length ≤ cs.size) := by
    obtain ⟨cs, hc, hs⟩ := h; exact ⟨cs, (hB.block g hgl).trans hc, hs⟩
  have HB := Lib.hid hB
  have HW := Lib.hid hW
  have HM := Lib.hid hm
  clear hh hW hB h hgl hm
  go_enter Try.func36, Try.ntmps36
  go_wp2_with fail
  rw [← HW.out]
  go_wp2_with fail
  refine (markInts_any g t.items.length cap k0 W HX.out h0 h1 HM.out).mono ?_
  rintro e w1 ⟨rfl, hm1⟩
  have HM1 := Lib.hid hm1
  clear hm1
  go_wp2
  go_ret
  have hs := HM1.out.1.size
  have hb := HB.out.size
  exact ⟨rfl, HM1.out.ints, by omega, fun i hi hne => (HM1.out.1.block i hne).trans (HB.out.block i hi), HM1.out.1.os.trans HB.out.os, HM1.out.1.tape.trans HB.out.tape, HM1.out.1.output.trans HB.out.output⟩


end Go.Proofs.Ytedbgfeojocbpaa
