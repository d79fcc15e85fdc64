/- Whether a list of numbers has a number. -/
import Derived.Test.YtfhjmfcdogpbeaaNodesSpec
namespace Go.Proofs.Ytfhjmfcdogpbeaa
open Go.RowKit
set_option linter.unusedVariables false

/-- the list has the number -/
def hasB (zs : List Int) (n : Int) : Bool := zs.contains n
theorem hasB_iff (zs : List Int) (n : Int) : hasB zs n = true ↔ n ∈ zs := by simp [hasB]
/-- none of the first k numbers is n -/
def NotTo (zs : List Int) (n : Int) (k : Nat) : Prop := ∀ i, i < k → gt zs i ≠ n
theorem notTo_zero (zs : List Int) (n : Int) : NotTo zs n 0 := fun i h => absurd h (by omega)
theorem notTo_succ {zs : List Int} {n : Int} {k : Nat} (h : NotTo zs n k) (hk : ¬ gt zs k = n) : NotTo zs n (k + 1) := by
  intro i hi
  rcases Nat.lt_or_ge i k with h' | h'
  · exact h i h'
  · have : i = k := by omega
    subst this; exact hk
theorem has_at {zs : List Int} {n : Int} {k : Nat} (hk : k < zs.length) (h : gt zs k = n) : hasB zs n = true := by
  rw [hasB_iff, ← h, gt_get hk]; exact List.getElem_mem hk
theorem has_none {zs : List Int} {n : Int} (h : NotTo zs n zs.length) : hasB zs n = false := by
  cases hh : hasB zs n
  · rfl
  · exfalso
    rw [hasB_iff] at hh
    obtain ⟨i, hi, he⟩ := List.getElem_of_mem hh
    exact h i hi (by rw [gt_get hi]; exact he)

set_option maxHeartbeats 1000000 in
theorem shas_any (a : Option Addr) (len cap : Nat) (zs : List Int) (n : Int) (w : World) (h : IntsAt w a zs) (hz : zs.length = len) (hm : len ≤ maxLen) :
    Calls Try.prog 88 #[.slice a len cap, .int .i64 n] w fun e w' => e = .returned (.bool (hasB zs n)) ∧ w = w' := by
  unfold maxLen at hm
  have HI := Lib.hid h
  have HZ := Lib.hid hz
  clear h hz
  go_enter Try.func88, Try.ntmps88
  go_wp2
  go_loop [5] (fun i => ∃ k : Nat, k ≤ len ∧ i = .int .i64 k ∧ NotTo zs n k) (fun i => len - (intOf i).toNat)
  case atStart => exact ⟨0, by omega, rfl, notTo_zero _ _⟩
  case round =>
    obtain ⟨k, hk, rfl, hn⟩ := hrel
    by_cases hlt : k < len
    · have h' : ∃ b off, a = some ⟨b, off, none⟩ ∧ w.cell? ⟨b, off + k, none⟩ = some (.int .i64 (gt zs k)) := by
        rcases HI.out with h0 | ⟨b, off, ha, hb, hc⟩
        · have := HZ.out; rw [h0] at this; simp at this; omega
        · exact ⟨b, off, ha, hc k (by rw [HZ.out]; exact hlt)⟩
      obtain ⟨b, off, ha, hc⟩ := h'
      subst ha
      cases he : (gt zs k == n)
      · have he' : ¬ gt zs k = n := by simpa using he
        have HE := Lib.hid he'
        clear he'
        go_wp2
        go_round
        case rel => exact ⟨k + 1, by omega, by go_num, notTo_succ hn HE.out⟩
        case measure => simp [intOf]; omega
      · have he' : gt zs k = n := by simpa using he
        have HE := Lib.hid he'
        clear he'
        go_wp2
        go_ret
        exact ⟨ret_bool (has_at (by rw [HZ.out]; exact hlt) HE.out).symm, rfl⟩
    · go_wp2
      go_ret
      exact ⟨ret_bool (has_none (by rw [HZ.out, show len = k by omega]; exact hn)).symm, rfl⟩
set_option maxHeartbeats 1000000 in
theorem lhas_any (a : Option Addr) (len cap : Nat) (zs : List Int) (n : Int) (w : World) (h : IntsAt w a zs) (hz : zs.length = len) (hm : len ≤ maxLen) :
    Calls Try.prog 22 #[.slice a len cap, .int .i64 n] w fun e w' => e = .returned (.bool (hasB zs n)) ∧ w = w' := by
  unfold maxLen at hm
  have HI := Lib.hid h
  have HZ := Lib.hid hz
  clear h hz
  go_enter Try.func22, Try.ntmps22
  go_wp2
  go_loop [5] (fun i => ∃ k : Nat, k ≤ len ∧ i = .int .i64 k ∧ NotTo zs n k) (fun i => len - (intOf i).toNat)
  case atStart => exact ⟨0, by omega, rfl, notTo_zero _ _⟩
  case round =>
    obtain ⟨k, hk, rfl, hn⟩ := hrel
    by_cases hlt : k < len
    · have h' : ∃ b off, a = some ⟨b, off, none⟩ ∧ w.cell? ⟨b, off + k, none⟩ = some (.int .i64 (gt zs k)) := by
        rcases HI.out with h0 | ⟨b, off, ha, hb, hc⟩
        · have := HZ.out; rw [h0] at this; simp at this; omega
        · exact ⟨b, off, ha, hc k (by rw [HZ.out]; exact hlt)⟩
      obtain ⟨b, off, ha, hc⟩ := h'
      subst ha
      cases he : (gt zs k == n)
      · have he' : ¬ gt zs k = n := by simpa using he
        have HE := Lib.hid he'
        clear he'
        go_wp2
        go_round
        case rel => exact ⟨k + 1, by omega, by go_num, notTo_succ hn HE.out⟩
        case measure => simp [intOf]; omega
      · have he' : gt zs k = n := by simpa using he
        have HE := Lib.hid he'
        clear he'
        go_wp2
        go_ret
        exact ⟨ret_bool (has_at (by rw [HZ.out]; exact hlt) HE.out).symm, rfl⟩
    · go_wp2
      go_ret
      exact ⟨ret_bool (has_none (by rw [HZ.out, show len = k by omega]; exact hn)).symm, rfl⟩
end Go.Proofs.Ytfhjmfcdogpbeaa
