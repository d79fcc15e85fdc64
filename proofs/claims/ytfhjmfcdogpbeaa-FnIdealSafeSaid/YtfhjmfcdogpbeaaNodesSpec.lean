/- Contracts of the model's functions on sets of nodes. -/
import Derived.Test.YtfhjmfcdogpbeaaNodes
namespace Go.Proofs.Ytfhjmfcdogpbeaa
open Go.RowKit
set_option linter.unusedVariables false

/-- The world after some draws. -/
def Same (w w' : World) : Prop := ∃ n, w' = w.drewN n
theorem Same.refl (w : World) : Same w w := ⟨0, rfl⟩
theorem Same.drewN {w w' : World} (h : Same w w') (n : Nat) : Same w (w'.drewN n) := by
  obtain ⟨m, rfl⟩ := h; exact ⟨m + n, World.drewN_drewN _ _ _⟩
theorem Same.trans {a b c : World} (h : Same a b) (k : Same b c) : Same a c := by
  obtain ⟨m, rfl⟩ := k; exact h.drewN m
theorem Same.cell {w w' : World} (h : Same w w') (p : Addr) : w'.cell? p = w.cell? p := by
  obtain ⟨m, rfl⟩ := h; rfl
theorem Same.frozen {w w' : World} (h : Same w w') (p : Addr) : w'.frozen? p = w.frozen? p := by
  obtain ⟨m, rfl⟩ := h; rfl
theorem Same.heap {w w' : World} (h : Same w w') : w'.heap = w.heap := by
  obtain ⟨m, rfl⟩ := h; rfl
theorem Same.below {w w' : World} (h : Same w w') (B : Nat) : Below B w w' := by
  obtain ⟨m, rfl⟩ := h; exact ⟨rfl, rfl, rfl, Nat.le_refl _, fun _ _ => rfl⟩
theorem IntsAt.same {w w' : World} {a : Option Addr} {zs : List Int} (h : IntsAt w a zs) (hs : Same w w') : IntsAt w' a zs := by
  rcases h with h0 | ⟨b, off, ha, hb, hc⟩
  · exact .inl h0
  · exact .inr ⟨b, off, ha, by rw [hs.heap]; exact hb, fun i hi => (hs.cell _).trans (hc i hi)⟩
theorem calls_flip {P : Program} {f : FuncId} {args : Array Value} {w : World} {v : Value} (h : Calls P f args w fun e w' => e = .returned v ∧ w = w') :
    Calls P f args w fun e w' => e = .returned v ∧ w' = w := h.mono fun _ _ ⟨he, hw⟩ => ⟨he, hw.symm⟩

set_option maxHeartbeats 1000000 in
theorem snodes_any (a : Option Addr) (len cap : Nat) (zs : List Int) (w : World) (h : IntsAt w a zs) (hz : zs.length = len) (h1 : 1 ≤ len) (hm : len ≤ maxLen) :
    Calls Try.prog 84 #[.slice a len cap] w fun e w' => e = .returned (.bool (ascTo zs len)) ∧ Same w w' := by
  unfold maxLen at hm
  have h' : ∃ b off, a = some ⟨b, off, none⟩ ∧ ∀ i, i < len → w.cell? ⟨b, off + i, none⟩ = some (.int .i64 (gt zs i)) := by
    rcases h with h0 | ⟨b, off, ha, hb, hc⟩
    · rw [h0] at hz; simp at hz; omega
    · exact ⟨b, off, ha, fun i hi => hc i (by omega)⟩
  have HZ := Lib.hid hz
  clear h hz
  obtain ⟨b, off, rfl, hcell⟩ := h'
  have HC := Lib.hid hcell
  clear hcell
  go_enter Try.func84, Try.ntmps84
  go_wp2
  go_loopw [3] (fun i wr => ∃ k : Nat, k ≤ len ∧ i = .int .i64 k ∧ ascTo zs k = true ∧ Same w wr) (fun i _ => len - (intOf i).toNat)
  case atStart => exact ⟨0, by omega, rfl, rfl, Same.refl _⟩
  case round =>
    obtain ⟨k, hk, rfl, hasc, hsame⟩ := hrel
    have HA := Lib.hid hasc
    clear hasc
    by_cases hlt : k < len
    · have hc := (hsame.cell ⟨b, off + k, none⟩).trans (HC.out k hlt)
      rcases k with _ | j
      · rw [Nat.add_zero] at hc
        cases hp : ptB (gt zs 0)
        · go_wp2
          go_quiet ((go_at_call 49; exact Calls.quiet_of_same (calls_flip (point_any _ _))))
          go_wp2
          go_ret
          exact ⟨ret_bool (asc_no hlt (by simp only [okAt, hp, Bool.false_and])).symm, hsame.drewN _⟩
        · go_wp2
          go_quiet ((go_at_call 49; exact Calls.quiet_of_same (calls_flip (point_any _ _))))
          go_wp2
          go_roundw
          case rel => exact ⟨1, by omega, by go_num, ok_zero hp, hsame.drewN _⟩
          case measure => simp [intOf]; omega
      · have hc' := (hsame.cell ⟨b, off + j, none⟩).trans (HC.out j (by omega))
        cases hp : ptB (gt zs (j + 1))
        · go_wp2
          go_quiet ((go_at_call 49; exact Calls.quiet_of_same (calls_flip (point_any _ _))))
          go_wp2
          go_ret
          exact ⟨ret_bool (asc_no hlt (by simp only [okAt, hp, Bool.false_and])).symm, hsame.drewN _⟩
        · by_cases hgt : gt zs (j + 1) ≤ gt zs j
          · have HG : Hid (ascTo zs len = false) := asc_no hlt (by
              simp only [okAt, Nat.add_sub_cancel, Bool.and_eq_false_iff, Bool.or_eq_false_iff, decide_eq_false_iff_not]
              exact .inr ⟨by omega, by omega⟩)
            go_wp2
            go_quiet ((go_at_call 49; exact Calls.quiet_of_same (calls_flip (point_any _ _))))
            go_wp2
            go_ret
            exact ⟨ret_bool HG.out.symm, hsame.drewN _⟩
          · go_wp2
            go_quiet ((go_at_call 49; exact Calls.quiet_of_same (calls_flip (point_any _ _))))
            go_wp2
            go_roundw
            case rel => exact ⟨j + 1 + 1, by omega, by go_num, ok_succ HA.out hp (by omega), hsame.drewN _⟩
            case measure => simp [intOf]; omega
    · go_wp2
      go_ret
      exact ⟨ret_bool (by rw [show len = k by omega]; exact HA.out.symm), hsame⟩

set_option maxHeartbeats 1000000 in
theorem svalid_any (a : Option Addr) (len cap : Nat) (zs : List Int) (w : World) (h : IntsAt w a zs) (hz : zs.length = len) (hm : len ≤ maxLen) :
    Calls Try.prog 65 #[.slice a len cap] w fun e w' => e = .returned (.bool (vldB zs)) ∧ Same w w' := by
  have HM := Lib.hid hm
  unfold maxLen at hm
  by_cases hr : 1 ≤ len ∧ len ≤ 10
  · obtain ⟨h1, h2⟩ := hr
    have hd : decide ((1 : Int) ≤ len ∧ (len : Int) ≤ 10) = true := by simp; omega
    have He : Hid (vldB zs = ascTo zs len) := by show vldB zs = ascTo zs len; simp [vldB, hz]; omega
    have H := Lib.hid h
    have HZ := Lib.hid hz
    clear h hz
    go_enter Try.func65, Try.ntmps65
    go_wp2_with fail
    refine (in_any _ _ _ _).mono ?_
    rintro e w' ⟨rfl, rfl⟩
    go_wp2_with fail
    refine (snodes_any a len cap zs w H.out HZ.out h1 HM.out).mono ?_
    rintro e w' ⟨rfl, hs⟩
    go_wp2
    go_ret
    exact ⟨ret_bool He.out.symm, hs⟩
  · have hd : decide ((1 : Int) ≤ len ∧ (len : Int) ≤ 10) = false := by simp; omega
    have He : Hid (vldB zs = false) := vld_no_len (by rw [hz]; exact hr)
    clear h hz
    go_enter Try.func65, Try.ntmps65
    go_wp2_with fail
    refine (in_any _ _ _ _).mono ?_
    rintro e w' ⟨rfl, rfl⟩
    go_wp2
    go_ret
    exact ⟨ret_bool He.out.symm, Same.refl _⟩




end Go.Proofs.Ytfhjmfcdogpbeaa
