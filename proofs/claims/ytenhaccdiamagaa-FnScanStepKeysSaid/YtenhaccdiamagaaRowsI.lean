/- Rows of numbers that a call makes; marks in slices of numbers. -/
import Derived.Test.YtenhaccdiamagaaMA
import Derived.WalkKit
import Derived.BigQuiet
import Derived.Below
import Derived.Lib.Hide
import Derived.Deep.RegionLaw
namespace Go.Proofs.Ytenhaccdiamagaa
open Go.RowKit
set_option linter.unusedVariables false

attribute [local go_sem ↓] Go.wp_at_zero Go.wp_at_succ

theorem heap_lt {w : World} {g : Nat} {o : Obj} (h : w.heap[g]? = some o) : g < w.heap.size := (Array.getElem?_eq_some_iff.1 h).1
theorem heap_set (w : World) (g i : Nat) (u : Value) {cs : Array Value} {t : TypeId} (h : w.heap[g]? = some (.cells cs t (0, 0))) : (w.setCell ⟨g, i, none⟩ u).heap[g]? = some (.cells (cs.setIfInBounds i u) t (0, 0)) := by
  simp [World.setCell, Array.getElem?_modify, h]
theorem heap_set_ne (w : World) (g i k : Nat) (u : Value) (h : k ≠ g) : (w.setCell ⟨g, i, none⟩ u).heap[k]? = w.heap[k]? := Below.heap_setCell w ⟨g, i, none⟩ u k h
theorem bcell {W w1 : World} (hb : Below W.heap.size W w1) : (∀ b o, b < W.heap.size → w1.cell? ⟨b, o, none⟩ = W.cell? ⟨b, o, none⟩) ∧ (∀ b o, b < W.heap.size → w1.frozen? ⟨b, o, none⟩ = W.frozen? ⟨b, o, none⟩) :=
  ⟨fun b o h => hb.cell (p := ⟨b, o, none⟩) h, fun b o h => hb.frozen (p := ⟨b, o, none⟩) h⟩
theorem IntsAt.keepB {w w' : World} {B : Nat} {a : Option Addr} {zs : List Int} (h : IntsAt w a zs) (hb : Below B w w') (hB : w.heap.size ≤ B) : IntsAt w' a zs := by
  rcases h with h0 | ⟨b, off, ha, hlt, hc⟩
  · exact .inl h0
  · exact .inr ⟨b, off, ha, Nat.lt_of_lt_of_le hlt hb.size, fun i hi => (hb.cell (p := ⟨b, off + i, none⟩) (Nat.lt_of_lt_of_le hlt hB)).trans (hc i hi)⟩
theorem grown_none {w w2 : World} (hb : Below w.heap.size w w2) : w.grownBy w2 none := ⟨hb.os, hb.tape, hb.output, hb.size, fun k hk _ => hb.block k hk⟩
theorem owns_keep {w w2 : World} {base size : Nat} {e : TypeId} {v : Value} {n : Nat} {xs : List Value} (h : w.ownsRow base e size v n xs) (hb : Below w.heap.size w w2) : w2.ownsRow base e size v n xs :=
  h.kept (grown_none hb) (Classical.em _)
theorem OwnI.keepB {w w' : World} {base B : Nat} {a : Option Addr} {cap : Nat} {zs : List Int} (h : OwnI w base a cap zs) (hb : Below B w w') (hB : w.heap.size ≤ B) : OwnI w' base a cap zs :=
  h.kept fun g _ hg => hb.block g (by omega)
/-- numbers in a new row of the call's own -/
def NewInts (zs : List Int) (w : World) (e : Ending) (w' : World) : Prop :=
  ∃ g cap, e = .returned (.slice (some ⟨g, 0, none⟩) zs.length cap) ∧ OwnI w' w.heap.size (some ⟨g, 0, none⟩) cap zs ∧ Below w.heap.size w w'
/-- at the head of a loop that appends numbers -/
def IntsSoFar (zs : List Int) (w : World) (v : Value) (wr : World) : Prop :=
  ∃ g cap, v = .slice (some ⟨g, 0, none⟩) zs.length cap ∧ OwnI wr w.heap.size (some ⟨g, 0, none⟩) cap zs ∧ Below w.heap.size w wr
theorem sofar_new (w : World) (cs : Array Value) (hcs : cs = #[]) : IntsSoFar [] w (.slice (some ⟨w.heap.size, 0, none⟩) 0 0) (w.alloc (.cells cs 3)) := by
  subst hcs
  exact ⟨w.heap.size, 0, rfl, ⟨by simp [vals], .inr ⟨w.heap.size, 0, #[], rfl, Nat.le_refl _, heap_alloc_new w _, Nat.zero_le _, by unfold maxLen; omega, rfl, by simp [vals]⟩⟩, (Below.refl _ _).alloc (Nat.le_refl _) _⟩
theorem new_of_sofar {zs : List Int} {w wr : World} {v : Value} (h : IntsSoFar zs w v wr) : NewInts zs w (.returned v) wr := by
  obtain ⟨g, cap, rfl, ho, hb⟩ := h; exact ⟨g, cap, rfl, ho, hb⟩
theorem OwnI.lt {w : World} {base g cap : Nat} {zs : List Int} (h : OwnI w base (some ⟨g, 0, none⟩) cap zs) : base ≤ g ∧ g < w.heap.size := by
  rcases h.2 with ⟨hn, _⟩ | ⟨g', cap', cur, hv, hb, hg, _⟩
  · cases hn
  · injection hv with hv _ _; injection hv with hv; injection hv with hv; subst hv; exact ⟨hb, (Array.getElem?_eq_some_iff.1 hg).1⟩
theorem sofar_next {zs : List Int} {z : Int} {w wr w2 w3 : World} {g g' cap' : Nat} (hb : Below w.heap.size w wr) (hb2 : Below wr.heap.size wr w2) (hg : w2.grownBy w3 (some g)) (hgb : w.heap.size ≤ g)
    (ho : w3.ownsRow w.heap.size 3 1 (.slice (some ⟨g', 0, none⟩) (zs.length + 1) cap') (zs.length + 1) (vals (zs ++ [z]))) : IntsSoFar (zs ++ [z]) w (.slice (some ⟨g', 0, none⟩) (zs.length + 1) cap') w3 := by
  refine ⟨g', cap', by rw [List.length_append]; rfl, by unfold OwnI; rw [List.length_append]; exact ho, ?_⟩
  have h1 : Below w.heap.size w w2 := hb.trans (hb2.mono hb.size)
  exact h1.grown hg h1.size (fun k hk => by injection hk with hk; omega)
theorem new_mono {zs : List Int} {w w1 w2 : World} {e : Ending} (h : NewInts zs w1 e w2) (hb : Below w.heap.size w w1) : NewInts zs w e w2 := by
  obtain ⟨g, cap, he, ho, hb2⟩ := h
  exact ⟨g, cap, he, ho.less hb.size, hb.trans (hb2.mono hb.size)⟩
theorem OwnI.blk {w : World} {base g cap : Nat} {zs : List Int} (h : OwnI w base (some ⟨g, 0, none⟩) cap zs) : ∃ cs, w.heap[g]? = some (.cells cs 3 (0, 0)) ∧ zs.length ≤ cs.size := by
  rcases h.2 with ⟨hn, _⟩ | ⟨g', cap', cur, hv, hb, hg, hnc, _, hs, _⟩
  · cases hn
  · injection hv with hv _ hc; injection hv with hv; injection hv with hv; subst hv; exact ⟨cur, hg, by omega⟩
theorem IntsAt.blk {w w' : World} {g : Nat} {zs : List Int} (h : IntsAt w (some ⟨g, 0, none⟩) zs) (e : w'.heap[g]? = w.heap[g]?) : IntsAt w' (some ⟨g, 0, none⟩) zs := by
  rcases h with h0 | ⟨b, off, ha, hlt, hc⟩
  · exact .inl h0
  · injection ha with ha; injection ha with ha ho; subst ha ho
    refine .inr ⟨g, 0, rfl, ?_, fun i hi => (World.cell?_of_block (w := w) e).trans (hc i hi)⟩
    rw [Array.getElem?_eq_getElem hlt] at e
    exact heap_lt e

/-- marks from k on -/
def markI (k : Int) (m : Nat) : List Int := (List.range m).map fun j => k + (j : Nat)
theorem markI_len (k : Int) (m : Nat) : (markI k m).length = m := by simp [markI]
theorem markI_gt (k : Int) {m j : Nat} (h : j < m) : gt (markI k m) j = k + j := by rw [gt_get (by rw [markI_len]; exact h)]; simp [markI]
/-- a block of m cells or more, its first k marked -/
def MarkTo (w : World) (g m : Nat) (k0 : Int) (k : Nat) (wr : World) : Prop :=
  Kept g w wr ∧ ∃ cs, wr.heap[g]? = some (.cells cs 3 (0, 0)) ∧ m ≤ cs.size ∧ ∀ j, j < k → cs[j]? = some (.int .i64 (k0 + j))
theorem mark_next {w wr : World} {g m : Nat} {k0 : Int} {k : Nat} (h : MarkTo w g m k0 k wr) (hk : k < m) : MarkTo w g m k0 (k + 1) (wr.setCell ⟨g, k, none⟩ (.int .i64 (k0 + k))) := by
  obtain ⟨h1, cs, h2, h3, h4⟩ := h
  refine ⟨h1.trans ⟨rfl, rfl, rfl, by simp [World.setCell], fun q hq => heap_set_ne _ _ _ _ _ hq⟩, _, heap_set _ _ _ _ h2, by simpa using h3, fun j hj => ?_⟩
  rcases Nat.lt_or_ge j k with h' | h'
  · rw [Array.getElem?_setIfInBounds_ne (by omega)]; exact h4 j h'
  · obtain rfl : j = k := by omega
    rw [Array.getElem?_setIfInBounds_self_of_lt (by omega)]

set_option maxHeartbeats 400000 in
theorem markInts_any (g len cap : Nat) (k0 : Int) (w : World) (h : ∃ cs, w.heap[g]? = some (.cells cs 3 (0, 0)) ∧ len ≤ cs.size) (h0 : 0 ≤ k0) (h1 : k0 ≤ 1000000000) (hm : len ≤ 1048576) :
    Calls Try.prog 44 #[.slice (some ⟨g, 0, none⟩) len cap, .int .i64 k0] w fun e w' => e = .returned (.int .i64 (k0 + len)) ∧ MarkTo w g len k0 len w' := by
  have H := Lib.hid h
  clear h
  go_enter Try.func44, Try.ntmps44
  go_wp2
  go_loopw [1, 5] (fun l i wr => ∃ k : Nat, k ≤ len ∧ i = .int .i64 k ∧ l = .int .i64 (k0 + k) ∧ MarkTo w g len k0 k wr) (fun _ i _ => len - (intOf i).toNat)
  case atStart =>
    obtain ⟨cs, hb, hs⟩ := H.out
    exact ⟨0, by omega, rfl, by simp, Kept.refl _ _, cs, hb, hs, fun j hj => absurd hj (by omega)⟩
  case round =>
    obtain ⟨k, hk, rfl, rfl, hmk⟩ := hrel
    by_cases hlt : k < len
    · obtain ⟨cs, hb, hs, _⟩ := hmk.2
      obtain ⟨v, x0⟩ : ∃ v, wr.cell? ⟨g, k, none⟩ = some v := ⟨_, by rw [cell_of_cells hb]; exact Array.getElem?_eq_getElem (by omega)⟩
      have f0 := frozen_of_cells hb k
      have HM := Lib.hid hmk
      clear hmk hb hs
      go_wp2
      go_roundw
      case rel => exact ⟨k + 1, by omega, by go_num, by go_num, mark_next HM.out hlt⟩
      case measure => simp [intOf]; omega
    · have hkk : k = len := by omega
      have HK := Lib.hid hkk
      clear hkk
      go_wp2
      go_ret
      exact ⟨by rw [← HK.out]; rfl, by rw [← HK.out] at hmk ⊢; exact hmk⟩

set_option maxHeartbeats 400000 in
theorem heldInts_any (a : Option Addr) (len cap : Nat) (k0 : Int) (w : World) (h : IntsAt w a (markI k0 len)) (h0 : 0 ≤ k0) (h1 : k0 ≤ 1000000000) (hm : len ≤ 1048576) :
    Calls Try.prog 47 #[.slice a len cap, .int .i64 k0] w fun e w' => e = .returned (.int .i64 (k0 + len)) ∧ Same w w' := by
  have H := Lib.hid h
  clear h
  go_enter Try.func47, Try.ntmps47
  go_wp2
  go_loopw [1, 5] (fun l i wr => ∃ k : Nat, k ≤ len ∧ i = .int .i64 k ∧ l = .int .i64 (k0 + k) ∧ Same w wr) (fun _ i _ => len - (intOf i).toNat)
  case atStart => exact ⟨0, by omega, rfl, by simp, Same.refl _⟩
  case round =>
    obtain ⟨k, hk, rfl, rfl, hs⟩ := hrel
    by_cases hlt : k < len
    · have h' : ∃ b off, a = some ⟨b, off, none⟩ ∧ wr.cell? ⟨b, off + k, none⟩ = some (.int .i64 (k0 + k)) := by
        rcases H.out with h0 | ⟨b, off, ha, hb, hc⟩
        · have := markI_len k0 len; rw [h0] at this; simp at this; omega
        · exact ⟨b, off, ha, (hs.cell _).trans (by rw [hc k (by rw [markI_len]; exact hlt), markI_gt _ hlt])⟩
      obtain ⟨b, off, rfl, hc⟩ := h'
      have hv : ((k0 + (k : Int)) != (k0 + (k : Int))) = false := by simp
      go_wp2
      go_roundw
      case rel => exact ⟨k + 1, by omega, by go_num, by go_num, hs⟩
      case measure => simp [intOf]; omega
    · have hkk : k = len := by omega
      have HK := Lib.hid hkk
      clear hkk
      go_wp2
      go_ret
      exact ⟨by rw [← HK.out]; rfl, hs⟩


theorem MarkTo.ints {w w' : World} {g len : Nat} {k : Int} (h : MarkTo w g len k len w') : IntsAt w' (some ⟨g, 0, none⟩) (markI k len) := by
  obtain ⟨_, cs, hb, _, hc⟩ := h
  exact .inr ⟨g, 0, rfl, heap_lt hb, fun i hi => by rw [markI_len] at hi; rw [Nat.zero_add, cell_of_cells hb, hc i hi, markI_gt _ hi]⟩

end Go.Proofs.Ytenhaccdiamagaa
