/- The reader's budget; opening a code; drawing a position. -/
import Derived.Test.YtfhjmfcdogpbeaaRdr
namespace Go.Proofs.Ytfhjmfcdogpbeaa
open Go.RowKit
set_option linter.unusedVariables false

/-- Only block q has turned, and no block is new. -/
structure Kept (q : Nat) (w w' : World) : Prop where
  os : w'.os = w.os
  tape : w'.tape = w.tape
  output : w'.output = w.output
  size : w'.heap.size = w.heap.size
  block : ∀ k, k ≠ q → w'.heap[k]? = w.heap[k]?

theorem Kept.refl (q : Nat) (w : World) : Kept q w w := ⟨rfl, rfl, rfl, rfl, fun _ _ => rfl⟩
theorem Kept.trans {q : Nat} {a b c : World} (h : Kept q a b) (k : Kept q b c) : Kept q a c :=
  ⟨k.os.trans h.os, k.tape.trans h.tape, k.output.trans h.output, k.size.trans h.size, fun i hi => (k.block i hi).trans (h.block i hi)⟩
theorem Kept.below {q B : Nat} {w w' : World} (h : Kept q w w') (hB : B ≤ q) : Below B w w' :=
  ⟨h.os, h.tape, h.output, Nat.le_of_eq h.size.symm, fun k hk => h.block k (by omega)⟩
theorem Kept.cell {q : Nat} {w w' : World} (h : Kept q w w') {p : Addr} (hp : p.block ≠ q) : w'.cell? p = w.cell? p := World.cell?_of_block (w := w) (h.block p.block hp)

/-- A reader in block q that may pick k times more. -/
def Ready (w : World) (q k : Nat) : Prop := ∃ p, Rdr w q p ∧ p + k ≤ 1000000

theorem Ready.less {w : World} {q k j : Nat} (h : Ready w q k) (hj : j ≤ k) : Ready w q j := by
  obtain ⟨p, hr, hp⟩ := h; exact ⟨p, hr, by omega⟩
theorem Rdr.keep {w w' : World} {q p : Nat} (h : Rdr w q p) (hk : ∀ k, k ≤ q → w'.heap[k]? = w.heap[k]?) : Rdr w' q p := by
  obtain ⟨a, len, cap, hq, hl, hp, hb⟩ := h
  refine ⟨a, len, cap, (hk q (Nat.le_refl _)).trans hq, hl, hp, ?_⟩
  rcases hb with h0 | ⟨b, off, ha, hbq, hc⟩
  · exact .inl h0
  · refine .inr ⟨b, off, ha, hbq, fun i hi => ?_⟩
    obtain ⟨c, hc1, hc2⟩ := hc i hi
    exact ⟨c, hc1, (World.cell?_of_block (w := w) (hk b (by omega))).trans hc2⟩
theorem Ready.keep {w w' : World} {q k : Nat} (h : Ready w q k) (hk : ∀ i, i ≤ q → w'.heap[i]? = w.heap[i]?) : Ready w' q k := by
  obtain ⟨p, hr, hp⟩ := h; exact ⟨p, hr.keep hk, hp⟩
theorem Ready.below {w w' : World} {q k B : Nat} (h : Ready w q k) (hb : Below B w w') (hB : q < B) : Ready w' q k := h.keep fun i hi => hb.block i (by omega)
theorem Ready.lt {w : World} {q k : Nat} (h : Ready w q k) : q < w.heap.size := by
  obtain ⟨p, ⟨a, len, cap, hq, _⟩, _⟩ := h
  rcases Nat.lt_or_ge q w.heap.size with hlt | hge
  · exact hlt
  · rw [Array.getElem?_eq_none hge] at hq; cases hq

/-- What a pick with budget leaves. -/
def Drew (q k : Nat) (lo hi : Int) (w : World) (e : Ending) (w' : World) : Prop :=
  ∃ v : Int, lo ≤ v ∧ v < hi ∧ e = .returned (.int .i64 v) ∧ Ready w' q k ∧ Kept q w w'

theorem kept_set (w : World) (q i m : Nat) (u : Value) : Kept q w ((w.setCell ⟨q, i, none⟩ u).drewN m) :=
  ⟨rfl, rfl, rfl, by simp [World.setCell, World.drewN], fun k hk => Below.heap_setCell w ⟨q, i, none⟩ u k hk⟩

theorem rdr_set {w : World} {q p : Nat} (h : Rdr w q p) (hp : p + 1 ≤ 1000000) (m : Nat) : Rdr ((w.setCell ⟨q, 1, none⟩ (.int .i64 (p + 1 : Nat))).drewN m) q (p + 1) := by
  obtain ⟨a, len, cap, hq, hl, _, hb⟩ := h
  refine ⟨a, len, cap, ?_, hl, hp, ?_⟩
  · show (w.setCell ⟨q, 1, none⟩ (.int .i64 (p + 1 : Nat))).heap[q]? = _
    simp [World.setCell, Array.getElem?_modify, hq]
  · rcases hb with h0 | ⟨b, off, ha, hbq, hc⟩
    · exact .inl h0
    · refine .inr ⟨b, off, ha, hbq, fun i hi => ?_⟩
      obtain ⟨c, hc1, hc2⟩ := hc i hi
      exact ⟨c, hc1, ((kept_set w q 1 m (.int .i64 (p + 1 : Nat))).cell (p := ⟨b, off + i, none⟩) (by show b ≠ q; omega)).trans hc2⟩

theorem pick_r (q k : Nat) (n : Int) (w : World) (h : Ready w q (k + 1)) (hn : 1 ≤ n) (hn' : n ≤ 1000000) :
    Calls Try.prog 54 #[.pointer (some ⟨q, 0, none⟩), .int .i64 n] w (Drew q k 0 n w) := by
  obtain ⟨p, hr, hp⟩ := h
  refine (pick_any q p n w hr hn hn').mono fun e w' ⟨v, h0, h1, he, m, hw⟩ => ?_
  subst hw
  exact ⟨v, h0, h1, he, ⟨p + 1, rdr_set hr (by omega) m, by omega⟩, kept_set w q 1 m _⟩

/-- The bytes of a code. -/
def BytesAt (w : World) (a : Option Addr) (len cap : Nat) : Prop :=
  len ≤ cap ∧ cap ≤ maxLen ∧ (len = 0 ∨ ∃ b off, a = some ⟨b, off, none⟩ ∧ b < w.heap.size ∧ ∀ i, i < len → ∃ c : Nat, c < 256 ∧ w.cell? ⟨b, off + i, none⟩ = some (.int .u8 c))

/-- What opening a code leaves: a reader in the next block. -/
def Opened (w : World) (e : Ending) (w' : World) : Prop :=
  e = .returned (.pointer (some ⟨w.heap.size, 0, none⟩)) ∧ Ready w' w.heap.size 1000000 ∧ Below w.heap.size w w' ∧ w'.heap.size = w.heap.size + 1

theorem opened_mk {w : World} {a : Option Addr} {len cap : Nat} (hl : len ≤ 2000) (hb : len = 0 ∨ ∃ b off, a = some ⟨b, off, none⟩ ∧ b < w.heap.size ∧ ∀ i, i < len → ∃ c : Nat, c < 256 ∧ w.cell? ⟨b, off + i, none⟩ = some (.int .u8 c)) :
    Opened w (.returned (.pointer (some ⟨w.heap.size, 0, none⟩))) (w.alloc (.cells #[.slice a len cap, .int .i64 0] 73)) := by
  refine ⟨rfl, ⟨0, ⟨a, len, cap, heap_alloc_new w _, hl, by omega, ?_⟩, by omega⟩, (Below.refl _ _).alloc (Nat.le_refl _) _, by simp⟩
  rcases hb with h0 | ⟨b, off, ha, hbq, hc⟩
  · exact .inl h0
  · refine .inr ⟨b, off, ha, hbq, fun i hi => ?_⟩
    obtain ⟨c, hc1, hc2⟩ := hc i hi
    exact ⟨c, hc1, (World.cell?_alloc_lt w _ _ hbq).trans hc2⟩

theorem open_any (a : Option Addr) (len cap : Nat) (w : World) (h : BytesAt w a len cap) :
    Calls Try.prog 45 #[.slice a len cap] w (Opened w) := by
  obtain ⟨hlc, hcm, hb⟩ := h
  unfold maxLen at hcm
  by_cases hl : len ≤ 2000
  · go_enter Try.func45, Try.ntmps45
    go_wp2
    go_ret
    exact opened_mk hl hb
  · rcases hb with h0 | ⟨b, off, rfl, hbq, hc⟩
    · omega
    · have HC := Lib.hid hc
      clear hc
      go_enter Try.func45, Try.ntmps45
      go_wp2
      go_ret
      exact opened_mk (Nat.le_refl _) (.inr ⟨b, off, rfl, hbq, fun i hi => HC.out i (by omega)⟩)

theorem point_r (q k : Nat) (w : World) (h : Ready w q (k + 2)) :
    Calls Try.prog 70 #[.pointer (some ⟨q, 0, none⟩)] w (Drew q k (-1) 65 w) := by
  go_enter Try.func70, Try.ntmps70
  go_wp2_with fail
  refine (pick_r q (k + 1) 24 w h (by omega) (by omega)).mono ?_
  rintro e w1 ⟨v, hv0, hv1, rfl, hr1, hk1⟩
  by_cases hv : v = 0
  · subst hv
    go_wp2_with fail
    refine (pick_r q k 2 w1 hr1 (by omega) (by omega)).mono ?_
    rintro e w2 ⟨u, hu0, hu1, rfl, hr2, hk2⟩
    go_wp2
    go_ret
    exact ⟨u * 65 - 1, by omega, by omega, rfl, hr2, hk1.trans hk2⟩
  · have hv' : (v == 0) = false := by simp [hv]
    go_wp2_with fail
    refine (pick_r q k 64 w1 hr1 (by omega) (by omega)).mono ?_
    rintro e w2 ⟨u, hu0, hu1, rfl, hr2, hk2⟩
    go_wp2
    go_ret
    exact ⟨u, by omega, by omega, rfl, hr2, hk1.trans hk2⟩
end Go.Proofs.Ytfhjmfcdogpbeaa
