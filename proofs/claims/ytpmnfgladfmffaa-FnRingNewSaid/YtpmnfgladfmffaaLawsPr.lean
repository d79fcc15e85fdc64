/- The walks of the laws of principals. -/
import Derived.Test.YtpmnfgladfmffaaLawsSafe2
namespace Go.Proofs.Ytpmnfgladfmffaa
open Go.RowKit
set_option linter.unusedVariables false

set_option maxHeartbeats 1000000 in
theorem sameInts_same (a1 a2 : Option Addr) (len cap1 cap2 : Nat) (zs : List Int) (w : World) (h1 : IntsAt w a1 zs) (h2 : IntsAt w a2 zs) (hz : zs.length = len) (hm : len ≤ 1048576) :
    Calls Try.prog 11 #[.slice a1 len cap1, .slice a2 len cap2] w fun e w' => e = .returned (.bool true) ∧ Same w w' := by
  have H1 := Lib.hid h1
  have H2 := Lib.hid h2
  have HZ := Lib.hid hz
  clear h1 h2 hz
  have hne : ((len : Int) != (len : Int)) = false := by simp
  go_enter Try.func11, Try.ntmps11
  go_wp2
  go_loopw [5] (fun i wr => ∃ k : Nat, k ≤ len ∧ i = .int .i64 k ∧ Same w wr) (fun i _ => len - (intOf i).toNat)
  case atStart => exact ⟨0, by omega, rfl, Same.refl _⟩
  case round =>
    obtain ⟨k, hk, rfl, hsame⟩ := hrel
    by_cases hlt : k < len
    · have h' : ∃ b off, a1 = some ⟨b, off, none⟩ ∧ wr.cell? ⟨b, off + k, none⟩ = some (.int .i64 (gt zs k)) := by
        rcases H1.out with h0 | ⟨b, off, ha, hb, hc⟩
        · have := HZ.out; rw [h0] at this; simp at this; omega
        · exact ⟨b, off, ha, (hsame.cell _).trans (hc k (by rw [HZ.out]; exact hlt))⟩
      have h'' : ∃ b off, a2 = some ⟨b, off, none⟩ ∧ wr.cell? ⟨b, off + k, none⟩ = some (.int .i64 (gt zs k)) := by
        rcases H2.out with h0 | ⟨b, off, ha, hb, hc⟩
        · have := HZ.out; rw [h0] at this; simp at this; omega
        · exact ⟨b, off, ha, (hsame.cell _).trans (hc k (by rw [HZ.out]; exact hlt))⟩
      obtain ⟨b, off, ha, hc⟩ := h'
      obtain ⟨b2, off2, ha2, hc2⟩ := h''
      subst ha ha2
      have hv : ((gt zs k) != (gt zs k)) = false := by simp
      have hlt' : (k : Int) < (len : Int) := by omega
      have h0' : (0 : Int) ≤ (k : Int) := by omega
      go_wp2
      go_quiet (fail)
      go_wp2
      go_roundw
      case rel => exact ⟨k + 1, by omega, by go_num, hsame.drewN _⟩
      case measure => simp [intOf]; omega
    · go_wp2
      go_ret
      exact ⟨rfl, hsame⟩

end Go.Proofs.Ytpmnfgladfmffaa
