/- The walks of the laws of the next node and of the node before. -/
import Derived.Test.YtphkpkafhilenaaNodesDraw
import Derived.Test.YtphkpkafhilenaaNodesMath2
import Derived.Test.YtphkpkafhilenaaDrawCircle
namespace Go.Proofs.Ytphkpkafhilenaa
open Go.RowKit
set_option linter.unusedVariables false

set_option maxHeartbeats 2000000 in
theorem nodesNext (s : Option Addr) (len cap : Nat) (z : List Int) (w : World) (h : RowIn .u8 w s len cap z) :
    Calls Try.prog 11 #[.slice s len cap] w fun e w' => e = .returned (.bool true) ∧ Below w.heap.size w w' := by
  have hb := bytes_of_row h
  have hm : len ≤ maxLen := Nat.le_trans hb.1 hb.2.1
  unfold maxLen at hm
  clear h
  by_cases hl : 1048576 < len
  · go_enter Try.func11, Try.ntmps11
    go_wp2
    go_ret
    exact ⟨rfl, Below.refl _ _⟩
  have hlB : decide ((1048576 : Int) < (len : Int)) = false := by simp; omega
  go_enter Try.func11, Try.ntmps11
  go_wp2_with fail
  refine (drawNodesNext s len cap w hb).mono ?_
  rintro e w1 ⟨a, cap1, zs, key, rfl, hi1, hl1, hlc1, hB1⟩
  have hI1 := hi1.ints
  have hmx : zs.length ≤ maxLen := by unfold maxLen; omega
  have HM := Lib.hid hmx
  clear hmx
  go_wp2_with fail
  refine (nnext_any a _ cap1 zs key w1 hI1 rfl HM.out).mono ?_
  rintro e w' ⟨rfl, rfl⟩
  go_wp2_with fail
  refine (snnext_any a _ cap1 zs key w1 hI1 rfl HM.out).mono ?_
  rintro e w2 ⟨rfl, hs2⟩
  have hB2 : Below w.heap.size w w2 := hB1.trans (hs2.below _)
  have hI2 := hI1.same hs2
  have hsame : (nxtI zs key != nxtI zs key) = false := by simp
  have hsame' : (nxtI zs key == nxtI zs key) = true := by simp
  by_cases hneg : nxtI zs key < 0
  · go_wp2
    go_ret
    exact ⟨rfl, hB2⟩
  obtain ⟨hv, hk⟩ := nxtI_nonneg (zs := zs) (key := key) (by omega)
  have hln := vld_len hv
  have hat : ∃ b off, a = some ⟨b, off, none⟩ ∧ ∀ i, i < zs.length → w2.cell? ⟨b, off + i, none⟩ = some (.int .i64 (gt zs i)) := by
    rcases hI2 with h0 | ⟨b, off, ha, _, hc⟩
    · rw [h0] at hln; simp at hln
    · exact ⟨b, off, ha, hc⟩
  obtain ⟨b, off, ha, hcell⟩ := hat
  subst ha
  have HC := Lib.hid hcell
  clear hcell
  go_wp2
  go_loopw [7] (fun i wr => ∃ k : Nat, k ≤ zs.length ∧ i = .int .i64 k ∧ Same w2 wr) (fun i _ => zs.length - (intOf i).toNat)
  case atStart => exact ⟨0, by omega, rfl, Same.refl _⟩
  case round =>
    obtain ⟨k, hkl, rfl, hsr⟩ := hrel
    have hIr := hI2.same hsr
    by_cases hlt : k < zs.length
    · have hc := (hsr.cell ⟨b, off + k, none⟩).trans (HC.out k hlt)
      have hok := next_ok hv hk hlt
      have hne : (!hldB (befI zs (gt zs k)) (gt zs k) key == (gt zs k == nxtI zs key)) = false := by rw [hok]; simp
      clear hok
      have hlt' : (k : Int) < (zs.length : Int) := by omega
      have h0' : (0 : Int) ≤ (k : Int) := by omega
      go_wp2
      go_quiet ((first
        | (go_at_call 28; exact Calls.quiet_of_same (calls_flip (nbefore_any _ _ _ zs _ _ (by exact hIr) rfl HM.out)))
        | (go_at_call 21; exact Calls.quiet_of_same (calls_flip (chld_any _ _ _ _)))))
      go_wp2
      go_roundw
      case rel => exact ⟨k + 1, by omega, by go_num, hsr.drewN _⟩
      case measure => simp [intOf]; omega
    · have hh : hasB zs (nxtI zs key) = true := by rw [nxtI_eq hv hk]; exact nxt_has (by omega)
      go_wp2_with (go_at_call 29; refine (lhas_any _ _ _ zs _ _ hIr rfl HM.out).mono ?_; rintro e w' ⟨rfl, rfl⟩)
      go_ret
      exact ⟨rfl, hB2.trans (hsr.below _)⟩

set_option maxHeartbeats 2000000 in
theorem nodesBefore (s : Option Addr) (len cap : Nat) (z : List Int) (w : World) (h : RowIn .u8 w s len cap z) :
    Calls Try.prog 12 #[.slice s len cap] w fun e w' => e = .returned (.bool true) ∧ Below w.heap.size w w' := by
  have hb := bytes_of_row h
  have hm : len ≤ maxLen := Nat.le_trans hb.1 hb.2.1
  unfold maxLen at hm
  clear h
  by_cases hl : 1048576 < len
  · go_enter Try.func12, Try.ntmps12
    go_wp2
    go_ret
    exact ⟨rfl, Below.refl _ _⟩
  have hlB : decide ((1048576 : Int) < (len : Int)) = false := by simp; omega
  go_enter Try.func12, Try.ntmps12
  go_wp2_with fail
  refine (drawNodesBefore s len cap w hb).mono ?_
  rintro e w1 ⟨a, cap1, zs, key, rfl, hi1, hl1, hlc1, hB1⟩
  have hI1 := hi1.ints
  have hmx : zs.length ≤ maxLen := by unfold maxLen; omega
  have HM := Lib.hid hmx
  clear hmx
  go_wp2_with fail
  refine (nbefore_any a _ cap1 zs key w1 hI1 rfl HM.out).mono ?_
  rintro e w' ⟨rfl, rfl⟩
  go_wp2_with fail
  refine (snbefore_any a _ cap1 zs key w1 hI1 rfl HM.out).mono ?_
  rintro e w2 ⟨rfl, hs2⟩
  have hB2 : Below w.heap.size w w2 := hB1.trans (hs2.below _)
  have hI2 := hI1.same hs2
  have hsame : (befI zs key != befI zs key) = false := by simp
  have hsame' : (befI zs key == befI zs key) = true := by simp
  by_cases hneg : befI zs key < 0
  · go_wp2
    go_ret
    exact ⟨rfl, hB2⟩
  obtain ⟨hv, hk⟩ := befI_nonneg (zs := zs) (key := key) (by omega)
  have hln := vld_len hv
  have hat : ∃ b off, a = some ⟨b, off, none⟩ ∧ ∀ i, i < zs.length → w2.cell? ⟨b, off + i, none⟩ = some (.int .i64 (gt zs i)) := by
    rcases hI2 with h0 | ⟨b, off, ha, _, hc⟩
    · rw [h0] at hln; simp at hln
    · exact ⟨b, off, ha, hc⟩
  obtain ⟨b, off, ha, hcell⟩ := hat
  subst ha
  have HC := Lib.hid hcell
  clear hcell
  have hbe := befI_eq hv hk
  have HBE := Lib.hid hbe
  clear hbe
  go_wp2
  go_loop [7] (fun i => ∃ k : Nat, k ≤ zs.length ∧ i = .int .i64 k) (fun i => zs.length - (intOf i).toNat)
  case atStart => exact ⟨0, by omega, rfl⟩
  case round =>
    obtain ⟨k, hkl, rfl⟩ := hrel
    by_cases hlt : k < zs.length
    · have hc := HC.out k hlt
      by_cases hself : befI zs key = key
      · have hsB : (befI zs key != key) = false := by simp [hself]
        have HSE := Lib.hid hself
        clear hself
        go_wp2
        go_round
        case rel => exact ⟨k + 1, by omega, by go_num⟩
        case measure => simp [intOf]; omega
      · have hsB : (befI zs key != key) = true := by simp [hself]
        have hbt : btwB (befI zs key) (gt zs k) key = false := by
          rw [HBE.out] at hself ⊢
          exact bef_between hv hk hlt hself
        go_wp2_with (go_at_call 16; refine (cbtw_any _ _ _ _).mono ?_; rintro e w' ⟨rfl, rfl⟩)
        go_round
        case rel => exact ⟨k + 1, by omega, by go_num⟩
        case measure => simp [intOf]; omega
    · have hh : hasB zs (befI zs key) = true := by rw [HBE.out]; exact bef_has (by omega)
      by_cases hself : befI zs key = key
      · have hsB : (befI zs key != key) = false := by simp [hself]
        have hone : zs.length = 1 := bef_self hv (by rw [← HBE.out]; exact hself)
        have hoB : ((zs.length : Int) == 1) = true := by simp; omega
        clear hself hone
        go_wp2_with (go_at_call 29; refine (lhas_any _ _ _ zs _ _ hI2 rfl HM.out).mono ?_; rintro e w' ⟨rfl, rfl⟩)
        go_ret
        exact ⟨rfl, hB2⟩
      · have hsB : (befI zs key != key) = true := by simp [hself]
        clear hself
        go_wp2_with (go_at_call 29; refine (lhas_any _ _ _ zs _ _ hI2 rfl HM.out).mono ?_; rintro e w' ⟨rfl, rfl⟩)
        go_ret
        exact ⟨rfl, hB2⟩

end Go.Proofs.Ytphkpkafhilenaa
