/- Whether a register is valid: the program's and the model's. -/
import Derived.Test.YtcjlohikfjafiaaRgV
import Derived.Deep.DrawnRows
namespace Go.Proofs.Ytcjlohikfjafiaa
open Go.RowKit
set_option linter.unusedVariables false
attribute [local go_sem ↓] Go.wp_at_zero Go.wp_at_succ

set_option maxHeartbeats 1000000 in
theorem lvs_any (a : Option Addr) (len cap : Nat) (L : List Ls) (w : World) (h : LsAt w a L) (hz : L.length = len) (hm : len ≤ maxLen) (hcap : len ≤ cap) :
    Calls Try.prog 14 #[.slice a len cap] w fun e w' => e = .returned (.bool (lvB L)) ∧ Below w.heap.size w w' := by
  have HI := Lib.hid h
  have HZ := Lib.hid hz
  have HM : Hid (L.length ≤ maxLen) := by show L.length ≤ maxLen; rw [hz]; exact hm
  unfold maxLen at hm
  by_cases h0 : len < 1
  · have He : Hid (lvB L = false) := lvB_no_len (by omega)
    clear h hz
    go_enter Try.func14, Try.ntmps14
    go_wp2
    go_ret
    exact ⟨ret_bool He.out.symm, Below.refl _ _⟩
  by_cases h12 : 5 < len
  · have He : Hid (lvB L = false) := lvB_no_len (by omega)
    clear h hz
    go_enter Try.func14, Try.ntmps14
    go_wp2
    go_ret
    exact ⟨ret_bool He.out.symm, Below.refl _ _⟩
  clear h hz
  go_enter Try.func14, Try.ntmps14
  go_wp2
  go_loopw [15] (fun i wr => ∃ k : Nat, k ≤ len ∧ i = .int .i64 k ∧ okTo L k = true ∧ Below w.heap.size w wr) (fun i _ => len - (intOf i).toNat)
  case atStart => exact ⟨0, by omega, rfl, rfl, Below.refl _ _⟩
  case round =>
    obtain ⟨k, hk, rfl, hall, hbel⟩ := hrel
    have HA := Lib.hid hall
    clear hall
    by_cases hlt : k < len
    · have HIr := Lib.hid (HI.out.keepB hbel (Nat.le_refl _))
      obtain ⟨b, off, rfl, hb0, hcells⟩ := HIr.out.at_ (i := k) (by rw [HZ.out]; exact hlt)
      obtain ⟨hc0, hc1, hc2⟩ := hcells k (by rw [HZ.out]; exact hlt)
      clear hcells
      have hkL : Hid (k < L.length) := by show k < L.length; rw [HZ.out]; exact hlt
      have hki : (0 : Int) ≤ (k : Int) := by omega
      have hkc : (k : Int) ≤ (cap : Int) := by omega
      have hkc2 : k ≤ cap := by omega
      have HBW := Lib.hid (alB wr)
      obtain ⟨W, hW⟩ : ∃ W, W = wr.alloc (.cells #[.int .i64 (gl L k).e, .int .i64 (gl L k).o, .int .i64 (gl L k).u] 26) := ⟨_, rfl⟩
      have hWb : Below wr.heap.size wr W := by rw [hW]; exact HBW.out _
      have hWs : wr.heap.size < W.heap.size := by rw [hW]; simp
      have hW0 : ∀ x : Cls (Below W.heap.size W), x.to.cell? ⟨wr.heap.size, 0, none⟩ = some (.int .i64 (gl L k).e) := fun x => (x.ok.cell (p := ⟨wr.heap.size, 0, none⟩) hWs).trans (by rw [hW]; simp)
      have hW1 : ∀ x : Cls (Below W.heap.size W), x.to.cell? ⟨wr.heap.size, 1, none⟩ = some (.int .i64 (gl L k).o) := fun x => (x.ok.cell (p := ⟨wr.heap.size, 1, none⟩) hWs).trans (by rw [hW]; simp)
      have hW2 : ∀ x : Cls (Below W.heap.size W), x.to.cell? ⟨wr.heap.size, 2, none⟩ = some (.int .i64 (gl L k).u) := fun x => (x.ok.cell (p := ⟨wr.heap.size, 2, none⟩) hWs).trans (by rw [hW]; simp)
      have HIW : Hid (∀ x : Cls (Below W.heap.size W), LsAt x.to (some ⟨b, off, none⟩) L) := fun x => (HIr.out.keepB hWb (Nat.le_refl _)).keepB x.ok (Nat.le_refl _)
      have HW := Lib.hid hW
      clear hW
      cases hn : lzB (gl L k)
      · have HNV := Lib.hid hn
        clear hn
        go_wp2_with fail
        rw [← HW.out]
        refine wp_region_cls (Below W.heap.size W) (by kernel_rfl) (by kernel_rfl) below_drawn ?_
        repeat (go_big_quiet_step ((go_at_call 31; rename_i x; exact cls_below (lvalid_as false (gl L k) _ HNV.out) x.ok (Nat.le_refl _))))
        refine wpQuiet_nil ?_
        intro w2 hw'
        have hb2 := cls_out hw'
        clear hw'
        have hbel2 : Below w.heap.size w w2 := hbel.trans ((hWb.trans (hb2.mono (by omega))).mono hbel.size)
        clear hW0 hW1 hW2
        go_wp2
        go_ret
        exact ⟨ret_bool (lvB_no_ls hkL.out HNV.out).symm, hbel2⟩
      · have HNV := Lib.hid hn
        clear hn
        cases hf : fineTo L (gl L k) k
        · have HF := Lib.hid hf
          clear hf
          go_wp2_with fail
          rw [← HW.out]
          refine wp_region_cls (Below W.heap.size W) (by kernel_rfl) (by kernel_rfl) below_drawn ?_
          repeat (go_big_quiet_step ((first | (go_at_call 31; rename_i x; exact cls_below (lvalid_as true (gl L k) _ HNV.out) x.ok (Nat.le_refl _)) | (go_at_call 36; rename_i x; exact cls_below (contains_as true _ _ _ L (gl L k) _ (HIW.out x) (Nat.le_of_lt hkL.out) HM.out HF.out) x.ok (Nat.le_refl _)))))
          refine wpQuiet_nil ?_
          intro w2 hw'
          have hb2 := cls_out hw'
          clear hw'
          have hbel2 : Below w.heap.size w w2 := hbel.trans ((hWb.trans (hb2.mono (by omega))).mono hbel.size)
          clear hW0 hW1 hW2
          go_wp2
          go_ret
          exact ⟨ret_bool (lvB_no_fine hkL.out HF.out).symm, hbel2⟩
        · have HF := Lib.hid hf
          clear hf
          go_wp2_with fail
          rw [← HW.out]
          refine wp_region_cls (Below W.heap.size W) (by kernel_rfl) (by kernel_rfl) below_drawn ?_
          repeat (go_big_quiet_step ((first | (go_at_call 31; rename_i x; exact cls_below (lvalid_as true (gl L k) _ HNV.out) x.ok (Nat.le_refl _)) | (go_at_call 36; rename_i x; exact cls_below (contains_as false _ _ _ L (gl L k) _ (HIW.out x) (Nat.le_of_lt hkL.out) HM.out HF.out) x.ok (Nat.le_refl _)))))
          refine wpQuiet_nil ?_
          intro w2 hw'
          have hb2 := cls_out hw'
          clear hw'
          have hbel2 : Below w.heap.size w w2 := hbel.trans ((hWb.trans (hb2.mono (by omega))).mono hbel.size)
          clear hW0 hW1 hW2
          go_wp2
          go_roundw
          case rel => exact ⟨k + 1, by omega, by go_num, okTo_s HA.out HNV.out HF.out, hbel2⟩
          case measure => simp [intOf]; omega
    · have hkk : Hid (k = L.length) := by show k = L.length; rw [HZ.out]; omega
      go_wp2
      go_ret
      exact ⟨ret_bool (lvB_yes (by rw [HZ.out]; omega) (by rw [HZ.out]; omega) (by rw [← hkk.out]; exact HA.out)).symm, hbel⟩
end Go.Proofs.Ytcjlohikfjafiaa
