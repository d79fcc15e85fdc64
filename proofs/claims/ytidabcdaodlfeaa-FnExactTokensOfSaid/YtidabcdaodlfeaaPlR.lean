/- Rows that the program hands back: numbers, tokens; marks in them. -/
import Derived.Test.YtidabcdaodlfeaaPlC
import Derived.Test.YtidabcdaodlfeaaPlS2
namespace Go.Proofs.Ytidabcdaodlfeaa
open Go.RowKit
set_option linter.unusedVariables false
attribute [local go_sem ↓] Go.wp_at_zero Go.wp_at_succ

/-- numbers in a row of the call's own, or none at all -/
def OwnZ (w : World) (base : Nat) (a : Option Addr) (cap : Nat) (zs : List Int) : Prop := zs = [] ∨ ∃ g, a = some ⟨g, 0, none⟩ ∧ OwnI w base (some ⟨g, 0, none⟩) cap zs
theorem OwnZ.ints {w : World} {base cap : Nat} {a : Option Addr} {zs : List Int} (h : OwnZ w base a cap zs) : IntsAt w a zs := by
  rcases h with h | ⟨g, rfl, h⟩
  · exact .inl h
  · exact h.ints
theorem OwnZ.keepB {w w' : World} {base cap B : Nat} {a : Option Addr} {zs : List Int} (h : OwnZ w base a cap zs) (hb : Below B w w') (hB : w.heap.size ≤ B) : OwnZ w' base a cap zs := by
  rcases h with h | ⟨g, rfl, h⟩
  · exact .inl h
  · exact .inr ⟨g, rfl, h.keepB hb hB⟩
theorem OwnZ.less {w : World} {base base' cap : Nat} {a : Option Addr} {zs : List Int} (h : OwnZ w base a cap zs) (hb : base' ≤ base) : OwnZ w base' a cap zs := by
  rcases h with h | ⟨g, rfl, h⟩
  · exact .inl h
  · exact .inr ⟨g, rfl, h.less hb⟩
theorem OwnZ.keptQ {w w' : World} {base cap : Nat} {a : Option Addr} {zs : List Int} (h : OwnZ w base a cap zs) (hk : ∀ g, base ≤ g → w'.heap[g]? = w.heap[g]?) : OwnZ w' base a cap zs := by
  rcases h with h | ⟨g, rfl, h⟩
  · exact .inl h
  · exact .inr ⟨g, rfl, h.kept fun g hg _ => hk g hg⟩
/-- what a call hands back -/
def RowZ (zs : List Int) (w : World) (e : Ending) (w' : World) : Prop :=
  ∃ a c, e = .returned (.slice a zs.length c) ∧ OwnZ w' w.heap.size a c zs ∧ Below w.heap.size w w'
theorem rowZ_of {zs : List Int} {w w' : World} {e : Ending} (h : NewInts zs w e w') : RowZ zs w e w' := by
  obtain ⟨g, c, he, ho, hb⟩ := h
  exact ⟨_, c, he, .inr ⟨g, rfl, ho⟩, hb⟩
/-- tokens in a row of the call's own, or none at all -/
def OwnT (w : World) (base : Nat) (a : Option Addr) (cap : Nat) (L : List Tk) : Prop := L = [] ∨ ∃ g, a = some ⟨g, 0, none⟩ ∧ OwnK w base g cap L
theorem OwnT.tk {w : World} {base cap : Nat} {a : Option Addr} {L : List Tk} (h : OwnT w base a cap L) : TkAt w a L := by
  rcases h with h | ⟨g, rfl, h⟩
  · exact .inl h
  · exact h.tk
theorem OwnT.keepB {w w' : World} {base cap B : Nat} {a : Option Addr} {L : List Tk} (h : OwnT w base a cap L) (hb : Below B w w') (hB : w.heap.size ≤ B) : OwnT w' base a cap L := by
  rcases h with h | ⟨g, rfl, h⟩
  · exact .inl h
  · exact .inr ⟨g, rfl, h.keepB hb hB⟩
theorem OwnT.less {w : World} {base base' cap : Nat} {a : Option Addr} {L : List Tk} (h : OwnT w base a cap L) (hb : base' ≤ base) : OwnT w base' a cap L := by
  rcases h with h | ⟨g, rfl, h⟩
  · exact .inl h
  · exact .inr ⟨g, rfl, h.less hb⟩
theorem OwnT.keptQ {w w' : World} {base cap : Nat} {a : Option Addr} {L : List Tk} (h : OwnT w base a cap L) (hk : ∀ g, base ≤ g → w'.heap[g]? = w.heap[g]?) : OwnT w' base a cap L := by
  rcases h with h | ⟨g, rfl, h⟩
  · exact .inl h
  · exact .inr ⟨g, rfl, h.kept (hk g h.blk.1)⟩
def RowT (L : List Tk) (w : World) (e : Ending) (w' : World) : Prop :=
  ∃ a c, e = .returned (.slice a L.length c) ∧ OwnT w' w.heap.size a c L ∧ Below w.heap.size w w'
theorem rowT_of {L : List Tk} {w w' : World} {e : Ending} (h : NewK L w e w') : RowT L w e w' := by
  obtain ⟨g, c, he, ho, hb⟩ := h
  exact ⟨_, c, he, .inr ⟨g, rfl, ho⟩, hb⟩
/-- a block of so many numbers -/
def HeapI (w : World) (g len : Nat) : Prop := ∃ cs, w.heap[g]? = some (.cells cs 3 (0, 0)) ∧ len ≤ cs.size
theorem HeapI.lt {w : World} {g len : Nat} (h : HeapI w g len) : g < w.heap.size := by obtain ⟨cs, h, _⟩ := h; exact heap_lt h
theorem HeapI.keepB {w w' : World} {g len B : Nat} (h : HeapI w g len) (hb : Below B w w') (hB : w.heap.size ≤ B) : HeapI w' g len := by
  have hl := h.lt
  obtain ⟨cs, h, hs⟩ := h
  exact ⟨cs, (hb.block g (by omega)).trans h, hs⟩
theorem HeapI.kept {w w' : World} {g len : Nat} (h : HeapI w g len) (hk : w'.heap[g]? = w.heap[g]?) : HeapI w' g len := by
  obtain ⟨cs, h, hs⟩ := h
  exact ⟨cs, hk.trans h, hs⟩
theorem RowOf.heapI {w : World} {N : Nat} {zs : List Int} (h : RowOf w N zs) : HeapI w N zs.length := by
  obtain ⟨cs, h, hs, _⟩ := h
  exact ⟨cs, h, by omega⟩

set_option maxHeartbeats 1000000 in
theorem markZ_any (base : Nat) (a : Option Addr) (len cap : Nat) (zs : List Int) (k0 : Int) (w : World) (h : OwnZ w base a cap zs) (hz : zs.length = len) (h0 : 0 ≤ k0) (h1 : k0 ≤ 1000000000) (hm : len ≤ 1048576) :
    Calls Try.prog 37 #[.slice a len cap, .int .i64 k0] w fun e w' => e = .returned (.int .i64 (k0 + len)) ∧ IntsAt w' a (markI k0 len) ∧ Below base w w' := by
  rcases h with h | ⟨g, rfl, h⟩
  · subst h
    obtain rfl : len = 0 := by simpa using hz.symm
    clear hz hm
    go_enter Try.func37, Try.ntmps37
    go_wp2
    go_loopw [1, 5] (fun l i wr => i = .int .i64 0 ∧ l = .int .i64 k0 ∧ Same w wr) (fun _ _ _ => 0)
    case atStart => exact ⟨rfl, rfl, Same.refl _⟩
    case round =>
      obtain ⟨rfl, rfl, hs⟩ := hrel
      go_wp2
      go_ret
      exact ⟨by simp, .inl rfl, hs.below _⟩
  · subst hz
    exact (markInts_any g _ cap k0 w h.blk h0 h1 hm).mono fun e w' ⟨he, hm⟩ => ⟨he, hm.ints, hm.1.below h.lt.1⟩
set_option maxHeartbeats 1000000 in
theorem markT_any (base : Nat) (a : Option Addr) (len cap : Nat) (L : List Tk) (k0 : Int) (w : World) (h : OwnT w base a cap L) (hz : L.length = len) (h0 : 0 ≤ k0) (h1 : k0 ≤ 1000000000) (hm : len ≤ 1048576) :
    Calls Try.prog 41 #[.slice a len cap, .int .i64 k0] w fun e w' => e = .returned (.int .i64 (k0 + 2 * len)) ∧ TkAt w' a (mkTk k0 L L.length) ∧ Below base w w' := by
  rcases h with h | ⟨g, rfl, h⟩
  · subst h
    obtain rfl : len = 0 := by simpa using hz.symm
    clear hz hm
    go_enter Try.func41, Try.ntmps41
    go_wp2
    go_loopw [1, 5] (fun l i wr => i = .int .i64 0 ∧ l = .int .i64 k0 ∧ Same w wr) (fun _ _ _ => 0)
    case atStart => exact ⟨rfl, rfl, Same.refl _⟩
    case round =>
      obtain ⟨rfl, rfl, hs⟩ := hrel
      go_wp2
      go_ret
      exact ⟨by simp, .inl rfl, hs.below _⟩
  · exact (markTk_any base g len cap L k0 w h hz h0 h1 hm).mono fun e w' ⟨he, ho, hk⟩ => ⟨he, ho.tk, hk.below h.blk.1⟩
end Go.Proofs.Ytidabcdaodlfeaa
