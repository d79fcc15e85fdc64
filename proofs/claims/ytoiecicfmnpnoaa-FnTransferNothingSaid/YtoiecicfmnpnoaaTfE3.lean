/- Transfers and chunks: marks in rows of a call's own, nil too. -/
import Derived.Test.YtoiecicfmnpnoaaTfE2
namespace Go.Proofs.Ytoiecicfmnpnoaa
open Go.RowKit
set_option linter.unusedVariables false

attribute [local go_sem ↓] Go.wp_at_zero Go.wp_at_succ

/-- a row that may be marked: of its own block, or nil -/
def OwnedAt (w : World) (a : Option Addr) (n : Nat) : Prop :=
  (a = none ∧ n = 0) ∨ ∃ g cs, a = some ⟨g, 0, none⟩ ∧ w.heap[g]? = some (.cells cs 3 (0, 0)) ∧ n ≤ cs.size
/-- only the row's block may have changed -/
structure Marked (a : Option Addr) (w w' : World) : Prop where
  os : w'.os = w.os
  tape : w'.tape = w.tape
  output : w'.output = w.output
  size : w.heap.size ≤ w'.heap.size
  block : ∀ i, i < w.heap.size → (∀ x, a = some x → i ≠ x.block) → w'.heap[i]? = w.heap[i]?
theorem Marked.below {a : Option Addr} {w w' : World} {B : Nat} (h : Marked a w w') (hB : B ≤ w.heap.size) (ha : ∀ x, a = some x → B ≤ x.block) : Below B w w' :=
  ⟨h.os, h.tape, h.output, h.size, fun i hi => h.block i (by omega) fun x hx => by have := ha x hx; omega⟩
theorem ints_block {w w' : World} {b : Option Addr} {zs : List Int} (h : IntsAt w b zs) (hs : w.heap.size ≤ w'.heap.size) (he : ∀ x, b = some x → w'.heap[x.block]? = w.heap[x.block]?) : IntsAt w' b zs := by
  rcases h with h0 | ⟨g, off, hb, hlt, hc⟩
  · exact .inl h0
  · have he' : w'.heap[g]? = w.heap[g]? := he _ hb
    exact .inr ⟨g, off, hb, by omega, fun i hi => (World.cell?_of_block (w := w) (a := ⟨g, off + i, none⟩) he').trans (hc i hi)⟩
theorem owned_rowOf {w : World} {g : Nat} {zs : List Int} (h : RowOf w g zs) : OwnedAt w (some ⟨g, 0, none⟩) zs.length := by
  obtain ⟨cs, hc, hs, _⟩ := h
  exact .inr ⟨g, cs, rfl, hc, by omega⟩
theorem owned_own {w : World} {base cap : Nat} {a : Option Addr} {zs : List Int} (h : OwnI w base a cap zs) : OwnedAt w a zs.length := by
  rcases h.2 with ⟨hn, h0⟩ | ⟨g', cap', cur, hv, hb, hg, hnc, _, hs, _⟩
  · injection hn with hn; exact .inl ⟨hn, h0⟩
  · injection hv with hv _ hc; exact .inr ⟨g', cur, hv, hg, by omega⟩
theorem owned_keep {w w' : World} {a : Option Addr} {n : Nat} (h : OwnedAt w a n) (he : ∀ x, a = some x → w'.heap[x.block]? = w.heap[x.block]?) : OwnedAt w' a n := by
  rcases h with h0 | ⟨g, cs, ha, hc, hn⟩
  · exact .inl h0
  · exact .inr ⟨g, cs, ha, (he _ ha).trans hc, hn⟩
theorem own_ints {w : World} {base cap : Nat} {a : Option Addr} {zs : List Int} (h : OwnI w base a cap zs) : IntsAt w a zs := by
  rcases Nat.eq_zero_or_pos zs.length with h0 | h0
  · exact .inl (List.length_eq_zero_iff.1 h0)
  · obtain ⟨g, ha, hb, hlt, hc, _⟩ := h.at_ h0
    exact .inr ⟨g, 0, ha, hlt, fun i hi => by rw [Nat.zero_add]; exact hc i hi⟩



end Go.Proofs.Ytoiecicfmnpnoaa
