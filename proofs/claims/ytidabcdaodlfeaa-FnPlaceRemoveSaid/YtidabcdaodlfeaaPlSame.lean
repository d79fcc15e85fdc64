/- Comparing tokens, and looking for a number, in the laws of chapter 31. -/
import Derived.Test.YtidabcdaodlfeaaPlS
namespace Go.Proofs.Ytidabcdaodlfeaa
open Go.RowKit
set_option linter.unusedVariables false

set_option maxHeartbeats 1000000 in
theorem sameTk_same (a1 a2 : Option Addr) (len cap1 cap2 : Nat) (L : List Tk) (w : World) (h1 : TkAt w a1 L) (h2 : TkAt w a2 L) (hz : L.length = len) (hm : len ≤ 1048576) :
    Calls Try.prog 24 #[.slice a1 len cap1, .slice a2 len cap2] w fun e w' => e = .returned (.bool true) ∧ Same w w' := by
  have H1 := Lib.hid h1
  have H2 := Lib.hid h2
  have HZ := Lib.hid hz
  clear h1 h2 hz
  have hne : ((len : Int) != (len : Int)) = false := by simp
  have hgd : Try.prog.eqGuardType Try.prog.depth 35 = false := by kernel_rfl
  go_enter Try.func24, Try.ntmps24
  go_wp2
  go_loopw [5] (fun i wr => ∃ k : Nat, k ≤ len ∧ i = .int .i64 k ∧ Same w wr) (fun i _ => len - (intOf i).toNat)
  case atStart => exact ⟨0, by omega, rfl, Same.refl _⟩
  case round =>
    obtain ⟨k, hk, rfl, hs⟩ := hrel
    obtain ⟨wo, rfl⟩ : ∃ x, x = wr := ⟨_, rfl⟩
    by_cases hlt : k < len
    · have hkr : Hid (k < L.length) := by show k < L.length; rw [HZ.out]; exact hlt
      obtain ⟨b, off, rfl, hb0, hcells⟩ := (H1.out.same hs).at_ (i := k) hkr.out
      obtain ⟨hc0, hc1⟩ := hcells k hkr.out
      obtain ⟨b', off', rfl, hb0', hcells'⟩ := (H2.out.same hs).at_ (i := k) hkr.out
      obtain ⟨hd0, hd1⟩ := hcells' k hkr.out
      clear hcells hcells'
      have i0 : (0 : Int) ≤ (k : Int) := by omega
      have i1 : (k : Int) < (len : Int) := by omega
      go_wp2
      go_quiet (fail)
      go_wp2
      go_roundw
      case rel => exact ⟨k + 1, by omega, by go_num, hs.drewN _⟩
      case measure => simp [intOf]; omega
    · go_wp2
      go_ret
      exact ⟨rfl, hs⟩

/-- whether a number is in a list -/
def hasTo (zs : List Int) (x : Int) : Bool := decide (∃ i, i < zs.length ∧ gt zs i = x)
theorem hasTo_iff (zs : List Int) (x : Int) : hasTo zs x = true ↔ ∃ i, i < zs.length ∧ gt zs i = x := by simp [hasTo]
theorem hasTo_no {zs : List Int} {x : Int} (h : ∀ i, i < zs.length → gt zs i ≠ x) : hasTo zs x = false := by
  rcases hb : hasTo zs x with _ | _
  · rfl
  · obtain ⟨i, hi, he⟩ := (hasTo_iff _ _).1 hb; exact absurd he (h i hi)

set_option maxHeartbeats 1000000 in
theorem hasI_any (a : Option Addr) (len cap : Nat) (zs : List Int) (x : Int) (w : World) (h : IntsAt w a zs) (hz : zs.length = len) (hm : len ≤ maxLen) :
    Calls Try.prog 25 #[.slice a len cap, .int .i64 x] w fun e w' => e = .returned (.bool (hasTo zs x)) ∧ w = w' := by
  have HI := Lib.hid h
  have HZ := Lib.hid hz
  unfold maxLen at hm
  clear h hz
  go_enter Try.func25, Try.ntmps25
  go_wp2
  go_loop [5] (fun i => ∃ k : Nat, k ≤ len ∧ i = .int .i64 k ∧ Hid (∀ j, j < k → gt zs j ≠ x)) (fun i => len - (intOf i).toNat)
  case atStart => exact ⟨0, by omega, rfl, fun j hj => by omega⟩
  case round =>
    obtain ⟨k, hk, rfl, HN⟩ := hrel
    by_cases hlt : k < len
    · obtain ⟨b, off, rfl, hb0, hcells⟩ : ∃ bb off, a = some ⟨bb, off, none⟩ ∧ bb < w.heap.size ∧ ∀ i, i < zs.length → w.cell? ⟨bb, off + i, none⟩ = some (.int .i64 (gt zs i)) := by
        rcases HI.out with h0 | h0
        · have := HZ.out; rw [h0] at this; simp at this; omega
        · exact h0
      have hc := hcells k (by rw [HZ.out]; exact hlt)
      have k0 : (0 : Int) ≤ (k : Int) := by omega
      have k1 : (k : Int) < (len : Int) := by omega
      clear hcells
      by_cases he : gt zs k = x
      · have HR : Hid (hasTo zs x = true) := (hasTo_iff _ _).2 ⟨k, by rw [HZ.out]; exact hlt, he⟩
        have heB : (gt zs k == x) = true := by simp [he]
        clear he
        go_wp2
        go_ret
        rw [HR.out]
        exact ⟨rfl, rfl⟩
      · have HE := Lib.hid he
        have heB : (gt zs k == x) = false := by simp [he]
        clear he
        go_wp2
        go_round
        case rel => exact ⟨k + 1, by omega, by go_num, fun j hj => by rcases Nat.lt_or_ge j k with h' | h'; exact HN.out j h'; obtain rfl : j = k := (by omega); exact HE.out⟩
        case measure => simp [intOf]; omega
    · have hkl : k = len := by omega
      have HR : Hid (hasTo zs x = false) := hasTo_no fun i hi => HN.out i (by rw [HZ.out] at hi; omega)
      subst hkl
      go_wp2
      go_ret
      rw [HR.out]
      exact ⟨rfl, rfl⟩
end Go.Proofs.Ytidabcdaodlfeaa
