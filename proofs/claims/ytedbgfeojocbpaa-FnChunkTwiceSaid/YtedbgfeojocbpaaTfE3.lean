/- Transfers and chunks: marks in rows of a call's own, nil too. -/
import Derived.Test.YtedbgfeojocbpaaTfE2
namespace Go.Proofs.Ytedbgfeojocbpaa
open Go.RowKit
set_option linter.unusedVariables false

attribute [local go_sem ↓] Go.wp_at_zero Go.wp_at_succ

/-- a row that may be marked: of its own block, or nil -/
def OwnedAt (w : World) (a : Option Addr) (n : Nat) : Prop :=
  (a = none ∧ n = 0) ∨ ∃ g cs, a = some ⟨g, 0, none⟩ ∧ w.heap[g]? = some (.cells cs 3 (0, 0)) ∧ n ≤ cs.size
/-- only the row's block may have changed -/
structure Marked (a : Option Addr) (w w' : World) : Prop where
  os : w'.os = w.os
  tape : w'.tape = w.tape
  output : w'.output = w.output
  size : w.heap.size ≤ w'.heap.size
  block : ∀ i, i < w.heap.size → (∀ x, a = some x → i ≠ x.block) → w'.heap[i]? = w.heap[i]?
theorem Marked.below {a : Option Addr} {w w' : World} {B : Nat} (h : Marked a w w') (hB : B ≤ w.heap.size) (ha : ∀ x, a = some x → B ≤ x.block) : Below B w w' :=
  ⟨h.os, h.tape, h.output, h.size, fun i hi => h.block i (by omega) fun x hx => by have := ha x hx; omega⟩
theorem ints_block {w w' : World} {b : Option Addr} {zs : List Int} (h : IntsAt w b zs) (hs : w.heap.size ≤ w'.heap.size) (he : ∀ x, b = some x → w'.heap[x.block]? = w.heap[x.block]?) : IntsAt w' b zs := by
  rcases h with h0 | ⟨g, off, hb, hlt, hc⟩
  · exact .inl h0
  · have he' : w'.heap[g]? = w.heap[g]? := he _ hb
    exact .inr ⟨g, off, hb, by omega, fun i hi => (World.cell?_of_block (w := w) (a := ⟨g, off + i, none⟩) he').trans (hc i hi)⟩
theorem owned_rowOf {w : World} {g : Nat} {zs : List Int} (h : RowOf w g zs) : OwnedAt w (some ⟨g, 0, none⟩) zs.length := by
  obtain ⟨cs, hc, hs, _⟩ := h
  exact .inr ⟨g, cs, rfl, hc, by omega⟩
theorem owned_own {w : World} {base cap : Nat} {a : Option Addr} {zs : List Int} (h : OwnI w base a cap zs) : OwnedAt w a zs.length := by
  rcases h.2 with ⟨hn, h0⟩ | ⟨g', cap', cur, hv, hb, hg, hnc, _, hs, _⟩
  · injection hn with hn; exact .inl ⟨hn, h0⟩
  · injection hv with hv _ hc; exact .inr ⟨g', cur, hv, hg, by omega⟩
theorem owned_keep {w w' : World} {a : Option Addr} {n : Nat} (h : OwnedAt w a n) (he : ∀ x, a = some x → w'.heap[x.block]? = w.heap[x.block]?) : OwnedAt w' a n := by
  rcases h with h0 | ⟨g, cs, ha, hc, hn⟩
  · exact .inl h0
  · exact .inr ⟨g, cs, ha, (he _ ha).trans hc, hn⟩
theorem own_ints {w : World} {base cap : Nat} {a : Option Addr} {zs : List Int} (h : OwnI w base a cap zs) : IntsAt w a zs := by
  rcases Nat.eq_zero_or_pos zs.length with h0 | h0
  · exact .inl (List.length_eq_zero_iff.1 h0)
  · obtain ⟨g, ha, hb, hlt, hc, _⟩ := h.at_ h0
    exact .inr ⟨g, 0, ha, hlt, fun i hi => by rw [Nat.zero_add]; exact hc i hi⟩

set_option maxHeartbeats 1000000 in
theorem marks_any (a : Option Addr) (len cap : Nat) (k0 : Int) (w : World) (h : OwnedAt w a len) (h0 : 0 ≤ k0) (h1 : k0 ≤ 1000000000) (hm : len ≤ 1048576) :
    Calls Try.prog 20 #[.slice a len cap, .int .i64 k0] w fun e w' => e = .returned (.int .i64 (k0 + len)) ∧ IntsAt w' a (markI k0 len) ∧ Marked a w w' := by
  rcases h with ⟨rfl, rfl⟩ | ⟨g, cs, rfl, hc, hs⟩
  · go_enter Try.func20, Try.ntmps20
    go_wp2
    go_loop [1, 5] (fun l i => i = .int .i64 0 ∧ l = .int .i64 k0) (fun _ i => 1)
    case atStart => exact ⟨rfl, rfl⟩
    case round =>
      obtain ⟨rfl, rfl⟩ := hrel
      go_wp2
      go_ret
      exact ⟨by simp, .inl rfl, rfl, rfl, rfl, Nat.le_refl _, fun _ _ _ => rfl⟩
  · refine (markInts_any g len cap k0 w ⟨cs, hc, hs⟩ h0 h1 hm).mono ?_
    rintro e w' ⟨rfl, hk⟩
    exact ⟨rfl, hk.ints, hk.1.os, hk.1.tape, hk.1.output, Nat.le_of_eq hk.1.size.symm, fun i hi hne => hk.1.block i (hne _ rfl)⟩

set_option maxHeartbeats 1000000 in
theorem marksTf_any (a : Option Addr) (cap : Nat) (t : Tf) (k0 : Int) (w : World) (h : OwnedAt w a t.items.length) (h0 : 0 ≤ k0) (h1 : k0 ≤ 1000000000) (hm : t.items.length ≤ 1048576) :
    Calls Try.prog 21 #[.agg #[.slice a t.items.length cap, .int .i64 t.nxt, .int .i64 t.ack], .int .i64 k0] w fun e w' => e = .returned (.int .i64 (k0 + t.items.length)) ∧ IntsAt w' a (markI k0 t.items.length) ∧ Marked a w w' := by
  obtain ⟨W, hW⟩ : ∃ W, W = w.alloc (.cells #[.slice a t.items.length cap, .int .i64 t.nxt, .int .i64 t.ack] 24) := ⟨_, rfl⟩
  have hB : Below w.heap.size w W := by rw [hW]; exact (Below.refl _ _).alloc (Nat.le_refl _) _
  have hh : W.heap[w.heap.size]? = some (.cells #[.slice a t.items.length cap, .int .i64 t.nxt, .int .i64 t.ack] 24 (0, 0)) := by rw [hW]; exact heap_alloc_new w _
  obtain ⟨c0, c1, c2⟩ := cells3 hh
  have HX : Hid (OwnedAt W a t.items.length) := owned_keep h (fun x hx => hB.block _ (by rcases h with ⟨hn, _⟩ | ⟨g, cs, ha, hc, _⟩; (rw [hn] at hx; cases hx); (rw [ha] at hx; cases hx; exact heap_lt hc)))
  have HL : Hid (∀ x, a = some x → x.block < w.heap.size) := fun x hx => by
    rcases h with ⟨hn, _⟩ | ⟨g, cs, ha, hc, _⟩
    · rw [hn] at hx; cases hx
    · rw [ha] at hx; cases hx; exact heap_lt hc
  have HB := Lib.hid hB
  have HW := Lib.hid hW
  have HM := Lib.hid hm
  clear hh hW hB h hm
  go_enter Try.func21, Try.ntmps21
  go_wp2_with fail
  rw [← HW.out]
  go_wp2_with fail
  refine (marks_any a t.items.length cap k0 W HX.out h0 h1 HM.out).mono ?_
  rintro e w1 ⟨rfl, hi1, hk1⟩
  have HI1 := Lib.hid hi1
  have HK1 := Lib.hid hk1
  clear hi1 hk1
  go_wp2
  go_ret
  have hs := HK1.out.size
  have hb := HB.out.size
  exact ⟨rfl, HI1.out, HK1.out.os.trans HB.out.os, HK1.out.tape.trans HB.out.tape, HK1.out.output.trans HB.out.output, by omega, fun i hi hne => (HK1.out.block i (by omega) hne).trans (HB.out.block i hi)⟩

set_option maxHeartbeats 1000000 in
theorem marksCk_any (a : Option Addr) (cap : Nat) (t : Ck) (k0 : Int) (w : World) (h : OwnedAt w a t.items.length) (h0 : 0 ≤ k0) (h1 : k0 ≤ 1000000000) (hm : t.items.length ≤ 1048576) :
    Calls Try.prog 36 #[.agg #[.int .i64 t.pos, .slice a t.items.length cap], .int .i64 k0] w fun e w' => e = .returned (.int .i64 (k0 + t.items.length)) ∧ IntsAt w' a (markI k0 t.items.length) ∧ Marked a w w' := by
  obtain ⟨W, hW⟩ : ∃ W, W = w.alloc (.cells #[.int .i64 t.pos, .slice a t.items.length cap] 46) := ⟨_, rfl⟩
  have hB : Below w.heap.size w W := by rw [hW]; exact (Below.refl _ _).alloc (Nat.le_refl _) _
  have hh : W.heap[w.heap.size]? = some (.cells #[.int .i64 t.pos, .slice a t.items.length cap] 46 (0, 0)) := by rw [hW]; exact heap_alloc_new w _
  obtain ⟨c0, c1⟩ := cells2 hh
  have HX : Hid (OwnedAt W a t.items.length) := owned_keep h (fun x hx => hB.block _ (by rcases h with ⟨hn, _⟩ | ⟨g, cs, ha, hc, _⟩; (rw [hn] at hx; cases hx); (rw [ha] at hx; cases hx; exact heap_lt hc)))
  have HL : Hid (∀ x, a = some x → x.block < w.heap.size) := fun x hx => by
    rcases h with ⟨hn, _⟩ | ⟨g, cs, ha, hc, _⟩
    · rw [hn] at hx; cases hx
    · rw [ha] at hx; cases hx; exact heap_lt hc
  have HB := Lib.hid hB
  have HW := Lib.hid hW
  have HM := Lib.hid hm
  clear hh hW hB h hm
  go_enter Try.func36, Try.ntmps36
  go_wp2_with fail
  rw [← HW.out]
  go_wp2_with fail
  refine (marks_any a t.items.length cap k0 W HX.out h0 h1 HM.out).mono ?_
  rintro e w1 ⟨rfl, hi1, hk1⟩
  have HI1 := Lib.hid hi1
  have HK1 := Lib.hid hk1
  clear hi1 hk1
  go_wp2
  go_ret
  have hs := HK1.out.size
  have hb := HB.out.size
  exact ⟨rfl, HI1.out, HK1.out.os.trans HB.out.os, HK1.out.tape.trans HB.out.tape, HK1.out.output.trans HB.out.output, by omega, fun i hi hne => (HK1.out.block i (by omega) hne).trans (HB.out.block i hi)⟩
end Go.Proofs.Ytedbgfeojocbpaa
