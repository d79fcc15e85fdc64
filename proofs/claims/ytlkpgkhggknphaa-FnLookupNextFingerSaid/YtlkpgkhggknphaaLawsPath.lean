/- The walks of the laws of lookups: paths. -/
import Derived.Test.YtlkpgkhggknphaaLookR
import Derived.Test.YtlkpgkhggknphaaDrawL
import Derived.Test.YtlkpgkhggknphaaCircleMath2
import Derived.Deep.RegionLaw
import Derived.IntWalk
namespace Go.Proofs.Ytlkpgkhggknphaa
open Go.RowKit
set_option linter.unusedVariables false

theorem pathV_some {zs L : List Int} {id key : Int} (h : pathV zs id key = L) (hl : L.length ≠ 0) : memB zs id = true ∧ ptB key = true ∧ pathL zs id key = L := by
  cases hm : memB zs id
  · rw [pathV_no (.inl hm)] at h; subst h; simp at hl
  · cases hk : ptB key
    · rw [pathV_no (.inr hk)] at h; subst h; simp at hl
    · rw [pathV_yes hm hk] at h; exact ⟨rfl, rfl, h⟩
theorem cells_of {w : World} {g : Nat} {L : List Int} (h : IntsAt w (some ⟨g, 0, none⟩) L) : ∀ i, i < L.length → w.cell? ⟨g, i, none⟩ = some (.int .i64 (gt L i)) := by
  intro i hi
  rcases h with h0 | ⟨b, off, ha, _, hc⟩
  · rw [h0] at hi; simp at hi
  · injection ha with ha; injection ha with h1 h2; subst h1 h2
    have := hc i hi
    rwa [Nat.zero_add] at this
theorem ints_drop {w : World} {g k : Nat} {L : List Int} (h : IntsAt w (some ⟨g, 0, none⟩) L) (hk : k < L.length) : IntsAt w (some ⟨g, k, none⟩) (L.drop k) := by
  rcases h with h0 | ⟨b, off, ha, hb, hc⟩
  · rw [h0] at hk; simp at hk
  · injection ha with ha; injection ha with h1 h2; subst h1 h2
    refine .inr ⟨g, k, rfl, hb, fun i hi => ?_⟩
    have hi' : k + i < L.length := by simp at hi; omega
    have := hc (k + i) hi'
    rw [Nat.zero_add] at this
    rw [this, gt_get hi', gt_get hi]; simp
theorem ints_take {w : World} {g k : Nat} {L : List Int} (h : IntsAt w (some ⟨g, 0, none⟩) L) (hk : k ≤ L.length) : IntsAt w (some ⟨g, 0, none⟩) (L.take k) := by
  rcases h with h0 | ⟨b, off, ha, hb, hc⟩
  · exact .inl (by rw [h0]; simp)
  · injection ha with ha; injection ha with h1 h2; subst h1 h2
    refine .inr ⟨g, 0, rfl, hb, fun i hi => ?_⟩
    have hi' : i < L.length := by simp at hi; omega
    rw [hc i hi', gt_get hi', gt_get hi]; simp
theorem one_ints (w : World) (z : Int) : IntsAt (w.alloc (.cells #[.int .i64 z] 3)) (some ⟨w.heap.size, 0, none⟩) [z] := by
  refine .inr ⟨w.heap.size, 0, rfl, by simp, fun i hi => ?_⟩
  obtain rfl : i = 0 := by simp at hi; exact hi
  rw [cell_of_cells (heap_alloc_new w _)]; simp [gt]
theorem lhas_as (v : Bool) (a : Option Addr) (len cap : Nat) (zs : List Int) (n : Int) (w : World) (h : IntsAt w a zs) (hz : zs.length = len) (hm : len ≤ maxLen) (hv : hasB zs n = v) :
    Calls Try.prog 12 #[.slice a len cap, .int .i64 n] w fun e w' => e = .returned (.bool v) ∧ w' = w := by
  subst hv; exact calls_flip (lhas_any a len cap zs n w h hz hm)




end Go.Proofs.Ytlkpgkhggknphaa
