/- Drawing lookups; comparing two slices of numbers in the laws. -/
import Derived.Test.YtenhaccdiamagaaRowsI
import Derived.Deep.RegionWith
namespace Go.Proofs.Ytenhaccdiamagaa
open Go.RowKit
set_option linter.unusedVariables false

attribute [local go_sem ↓] Go.wp_at_zero Go.wp_at_succ

set_option maxHeartbeats 1000000 in
theorem sameI_any (a1 a2 : Option Addr) (len cap1 cap2 : Nat) (zs : List Int) (w : World) (h1 : IntsAt w a1 zs) (h2 : IntsAt w a2 zs) (hz : zs.length = len) (hm : len ≤ 1048576) :
    Calls Try.prog 20 #[.slice a1 len cap1, .slice a2 len cap2] w fun e w' => e = .returned (.bool true) ∧ Same w w' := by
  have H1 := Lib.hid h1
  have H2 := Lib.hid h2
  have HZ := Lib.hid hz
  clear h1 h2 hz
  have hne : ((len : Int) != (len : Int)) = false := by simp
  go_enter Try.func20, Try.ntmps20
  go_wp2
  go_loopw [5] (fun i wr => ∃ k : Nat, k ≤ len ∧ i = .int .i64 k ∧ Same w wr) (fun i _ => len - (intOf i).toNat)
  case atStart => exact ⟨0, by omega, rfl, Same.refl _⟩
  case round =>
    obtain ⟨k, hk, rfl, hsame⟩ := hrel
    by_cases hlt : k < len
    · have h' : ∃ b off, a1 = some ⟨b, off, none⟩ ∧ wr.cell? ⟨b, off + k, none⟩ = some (.int .i64 (gt zs k)) := by
        rcases H1.out with h0 | ⟨b, off, ha, hb, hc⟩
        · have := HZ.out; rw [h0] at this; simp at this; omega
        · exact ⟨b, off, ha, (hsame.cell _).trans (hc k (by rw [HZ.out]; exact hlt))⟩
      have h'' : ∃ b off, a2 = some ⟨b, off, none⟩ ∧ wr.cell? ⟨b, off + k, none⟩ = some (.int .i64 (gt zs k)) := by
        rcases H2.out with h0 | ⟨b, off, ha, hb, hc⟩
        · have := HZ.out; rw [h0] at this; simp at this; omega
        · exact ⟨b, off, ha, (hsame.cell _).trans (hc k (by rw [HZ.out]; exact hlt))⟩
      obtain ⟨b, off, ha, hc⟩ := h'
      obtain ⟨b2, off2, ha2, hc2⟩ := h''
      subst ha ha2
      have hv : ((gt zs k) != (gt zs k)) = false := by simp
      have hlt' : (k : Int) < (len : Int) := by omega
      have h0' : (0 : Int) ≤ (k : Int) := by omega
      go_wp2
      go_quiet (fail)
      go_wp2
      go_roundw
      case rel => exact ⟨k + 1, by omega, by go_num, hsame.drewN _⟩
      case measure => simp [intOf]; omega
    · go_wp2
      go_ret
      exact ⟨rfl, hsame⟩

/-- what drawing nodes and a number leaves -/
def OneDrew (q K : Nat) (w : World) (e : Ending) (w' : World) : Prop :=
  ∃ (a : Option Addr) (cap : Nat) (zs : List Int) (id : Int), e = .returned (.tuple #[.slice a zs.length cap, .int .i64 id]) ∧ IntsFrom w' w.heap.size a zs ∧ zs.length ≤ 20 ∧ zs.length ≤ cap ∧ Ready w' q K ∧ w.grownBy w' (some q)


theorem IntsFrom.down {w : World} {base base' : Nat} {a : Option Addr} {zs : List Int} (h : IntsFrom w base a zs) (hb : base' ≤ base) : IntsFrom w base' a zs := by
  rcases h with h0 | ⟨b, off, ha, h1, h2, h3⟩
  · exact .inl h0
  · exact .inr ⟨b, off, ha, by omega, h2, h3⟩

/-- drawn nodes and two drawn numbers -/
def DrewN2 (w : World) (e : Ending) (w' : World) : Prop :=
  ∃ (a : Option Addr) (cap : Nat) (zs : List Int) (x y : Int), e = .returned (.tuple #[.slice a zs.length cap, .int .i64 x, .int .i64 y]) ∧ IntsFrom w' w.heap.size a zs ∧ zs.length ≤ 20 ∧ zs.length ≤ cap ∧ Below w.heap.size w w'





end Go.Proofs.Ytenhaccdiamagaa
