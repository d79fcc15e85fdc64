/- Lists of paths: what chapter 32 says of them, and how they lie in memory. -/
import Derived.Test.YtblhaccjngjekaaPzS
namespace Go.Proofs.Ytblhaccjngjekaa
open Go.RowKit
set_option linter.unusedVariables false

/-- path i -/
def gl (ps : List (List Int)) (i : Nat) : List Int := ps.getD i []
theorem gl_get {ps : List (List Int)} {i : Nat} (h : i < ps.length) : gl ps i = ps[i] := by simp [gl, List.getElem?_eq_getElem h]
/-- a path of at most ten positions -/
def pathB (zs : List Int) : Bool := decide (∀ k, k < zs.length → ptB (gt zs k) = true) && decide (zs.length ≤ 10)
theorem pathB_iff (zs : List Int) : pathB zs = true ↔ (∀ k, k < zs.length → ptB (gt zs k) = true) ∧ zs.length ≤ 10 := by simp [pathB]
theorem pathB_bad {zs : List Int} {k : Nat} (hk : k < zs.length) (h : ptB (gt zs k) = false) : pathB zs = false := by
  rcases hb : pathB zs with _ | _
  · rfl
  · have := ((pathB_iff _).1 hb).1 k hk; rw [h] at this; cases this
theorem pathB_long {zs : List Int} (h : 10 < zs.length) : pathB zs = false := by
  rcases hb : pathB zs with _ | _
  · rfl
  · have := ((pathB_iff _).1 hb).2; omega
/-- valid paths -/
def pvB (ps : List (List Int)) : Bool := decide (∀ i, i < ps.length → pathB (gl ps i) = true) && decide (ps.length ≤ 7)
theorem pvB_iff (ps : List (List Int)) : pvB ps = true ↔ (∀ i, i < ps.length → pathB (gl ps i) = true) ∧ ps.length ≤ 7 := by simp [pvB]
theorem pvB_bad {ps : List (List Int)} {i : Nat} (hi : i < ps.length) (h : pathB (gl ps i) = false) : pvB ps = false := by
  rcases hb : pvB ps with _ | _
  · rfl
  · have := ((pvB_iff _).1 hb).1 i hi; rw [h] at this; cases this
/-- no path has a node of an earlier one -/
def djP (ps : List (List Int)) : Prop := ∀ i, i < ps.length → ∀ k, k < (gl ps i).length → ∀ j, j < i → hasB (gl ps j) (gt (gl ps i) k) = false
instance (ps : List (List Int)) : Decidable (djP ps) := by unfold djP; infer_instance
def djR (ps : List (List Int)) : Bool := pvB ps && decide (djP ps)
theorem djR_bad {ps : List (List Int)} (h : pvB ps = false) : djR ps = false := by simp [djR, h]
theorem djR_yes {ps : List (List Int)} (h : pvB ps = true) (h2 : djP ps) : djR ps = true := by simp [djR, h, h2]
theorem djR_no {ps : List (List Int)} {i k j : Nat} (hi : i < ps.length) (hk : k < (gl ps i).length) (hj : j < i) (h : hasB (gl ps j) (gt (gl ps i) k) = true) : djR ps = false := by
  have hn : ¬ djP ps := fun hd => by have := hd i hi k hk j hj; rw [h] at this; cases this
  simp [djR, hn]
theorem djR_iff {ps : List (List Int)} : djR ps = true ↔ pvB ps = true ∧ djP ps := by simp [djR]
/-- no node of a path is bad -/
def hoB (bad zs : List Int) : Bool := decide (∀ k, k < zs.length → hasB bad (gt zs k) = false)
theorem hoB_iff (bad zs : List Int) : hoB bad zs = true ↔ ∀ k, k < zs.length → hasB bad (gt zs k) = false := by simp [hoB]
theorem hoB_no {bad zs : List Int} {k : Nat} (hk : k < zs.length) (h : hasB bad (gt zs k) = true) : hoB bad zs = false := by
  rcases hb : hoB bad zs with _ | _
  · rfl
  · have := (hoB_iff _ _).1 hb k hk; rw [h] at this; cases this
/-- whether the first n nodes of a path are good -/
def hoTo (bad zs : List Int) (n : Nat) : Bool := decide (∀ k, k < n → hasB bad (gt zs k) = false)
theorem hoTo_zero (bad zs : List Int) : hoTo bad zs 0 = true := by simp [hoTo]
theorem hoTo_all (bad zs : List Int) : hoTo bad zs zs.length = hoB bad zs := rfl
theorem hoTo_bad {bad zs : List Int} {n : Nat} (h : hasB bad (gt zs n) = true) : hoTo bad zs (n + 1) = false := by
  rcases hb : hoTo bad zs (n + 1) with _ | _
  · rfl
  · simp only [hoTo, decide_eq_true_eq] at hb; have := hb n (by omega); rw [h] at this; cases this
theorem hoTo_good {bad zs : List Int} {n : Nat} (h : hasB bad (gt zs n) = false) : hoTo bad zs (n + 1) = hoTo bad zs n := by
  rw [Bool.eq_iff_iff]
  simp only [hoTo, decide_eq_true_eq]
  constructor
  · intro hb k hk; exact hb k (by omega)
  · intro hb k hk
    rcases Nat.lt_or_ge k n with h' | h'
    · exact hb k h'
    · obtain rfl : k = n := by omega
      exact h
def bti (b : Bool) : Int := if b = true then 1 else 0
/-- how many of the first n paths are honest -/
def hcN (bad : List Int) (ps : List (List Int)) : Nat → Nat
  | 0 => 0
  | k + 1 => hcN bad ps k + if hoB bad (gl ps k) = true then 1 else 0
theorem hcN_le (bad : List Int) (ps : List (List Int)) (n : Nat) : hcN bad ps n ≤ n := by
  induction n with
  | zero => simp [hcN]
  | succ n ih => unfold hcN; split <;> omega
def honR (ps : List (List Int)) (bad : List Int) : Int := if pvB ps = true then (hcN bad ps ps.length : Nat) else -1
theorem honR_bad {ps : List (List Int)} {bad : List Int} (h : pvB ps = false) : honR ps bad = -1 := by unfold honR; rw [if_neg (by rw [h]; decide)]
theorem honR_ok {ps : List (List Int)} {bad : List Int} (h : pvB ps = true) : honR ps bad = (hcN bad ps ps.length : Nat) := by unfold honR; rw [if_pos h]

/-! ### in memory -/
/-- a value reads as numbers -/
def IntsW (w : World) (v : Value) (zs : List Int) : Prop := ∃ a cap, v = .slice a zs.length cap ∧ zs.length ≤ cap ∧ cap ≤ maxLen ∧ IntsAt w a zs
/-- a slice at address a reads as the paths ps -/
def SsAt (w : World) (a : Option Addr) (ps : List (List Int)) : Prop :=
  ps = [] ∨ ∃ b off, a = some ⟨b, off, none⟩ ∧ b < w.heap.size ∧ ∀ i, i < ps.length → ∃ v, w.cell? ⟨b, off + i, none⟩ = some v ∧ IntsW w v (gl ps i)
theorem IntsW.keepB {w w' : World} {B : Nat} {v : Value} {zs : List Int} (h : IntsW w v zs) (hb : Below B w w') (hB : w.heap.size ≤ B) : IntsW w' v zs := by
  obtain ⟨a, cap, hv, h1, h2, h3⟩ := h; exact ⟨a, cap, hv, h1, h2, h3.keepB hb hB⟩
theorem SsAt.keepB {w w' : World} {B : Nat} {a : Option Addr} {ps : List (List Int)} (h : SsAt w a ps) (hb : Below B w w') (hB : w.heap.size ≤ B) : SsAt w' a ps := by
  rcases h with h0 | ⟨b, off, ha, hlt, hc⟩
  · exact .inl h0
  · refine .inr ⟨b, off, ha, Nat.lt_of_lt_of_le hlt hb.size, fun i hi => ?_⟩
    obtain ⟨v, h1, h2⟩ := hc i hi
    exact ⟨v, (hb.cell (p := ⟨b, off + i, none⟩) (Nat.lt_of_lt_of_le hlt hB)).trans h1, h2.keepB hb hB⟩
theorem SsAt.row {w : World} {a : Option Addr} {ps : List (List Int)} (h : SsAt w a ps) (h0 : 0 < ps.length) :
    ∃ b off, a = some ⟨b, off, none⟩ ∧ b < w.heap.size ∧ ∀ i, i < ps.length → ∃ ai ci, w.cell? ⟨b, off + i, none⟩ = some (.slice ai (gl ps i).length ci) ∧ IntsAt w ai (gl ps i) ∧ (gl ps i).length ≤ ci ∧ ci ≤ maxLen := by
  rcases h with h | ⟨b, off, ha, hlt, hc⟩
  · rw [h] at h0; simp at h0
  · refine ⟨b, off, ha, hlt, fun i hi => ?_⟩
    obtain ⟨v, h1, ai, ci, rfl, h2, h3, h4⟩ := hc i hi
    exact ⟨ai, ci, h1, h4, h2, h3⟩
theorem IntsAt.cellAt {w : World} {a : Option Addr} {zs : List Int} (h : IntsAt w a zs) {k : Nat} (hk : k < zs.length) : ∃ b off, a = some ⟨b, off, none⟩ ∧ w.cell? ⟨b, off + k, none⟩ = some (.int .i64 (gt zs k)) := by
  obtain ⟨b, off, ha, _, hc⟩ := h.cellZ (by omega)
  exact ⟨b, off, ha, hc k hk⟩
end Go.Proofs.Ytblhaccjngjekaa
