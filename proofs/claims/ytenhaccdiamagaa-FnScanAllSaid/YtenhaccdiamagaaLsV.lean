/- Contracts of the functions that only read leases: valid, the lease that holds a key. -/
import Derived.Test.YtenhaccdiamagaaLsAt
import Derived.Test.YtenhaccdiamagaaCls
import Derived.WalkKit
import Derived.BigQuiet
import Derived.Deep.QuietTactic
namespace Go.Proofs.Ytenhaccdiamagaa
open Go.RowKit
set_option linter.unusedVariables false

set_option maxHeartbeats 400000 in
theorem isTime_any (n : Int) (w : World) :
    Calls Try.prog 78 #[.int .i64 n] w fun e w' => e = .returned (.bool (tmB n)) ∧ w = w' := by
  go_enter Try.func78, Try.ntmps78
  go_wp2
  all_goals
    go_ret
    exact ⟨ret_bool (by rw [Bool.eq_iff_iff]; simp [tmB]; omega), rfl⟩

set_option maxHeartbeats 400000 in
theorem stime_any (n : Int) (w : World) :
    Calls Try.prog 66 #[.int .i64 n] w fun e w' => e = .returned (.bool (tmB n)) ∧ w = w' := by
  go_enter Try.func66, Try.ntmps66
  go_wp2_with fail
  refine (in_any _ _ _ _).mono ?_
  rintro e w' ⟨rfl, rfl⟩
  go_wp2
  go_ret
  exact ⟨ret_bool (by rw [Bool.eq_iff_iff]; simp [tmB]), rfl⟩

theorem alB (w : World) (o : Obj) : Below w.heap.size w (w.alloc o) := (Below.refl _ _).alloc (Nat.le_refl _) _

set_option maxHeartbeats 400000 in
theorem lvalid_any (x : Ls) (w : World) :
    Calls Try.prog 63 #[.agg #[.int .i64 x.e, .int .i64 x.o, .int .i64 x.u]] w fun e w' => e = .returned (.bool (lzB x)) ∧ Below w.heap.size w w' := by
  obtain ⟨e, o, u⟩ := x
  simp only at *
  have HB := Lib.hid (alB w)
  cases h1 : ptB e
  · have He : Hid (lzB ⟨e, o, u⟩ = false) := by show lzB _ = _; simp [lzB, h1]
    go_enter Try.func63, Try.ntmps63
    go_wp2_with (first | (go_at_call 60; refine (valid_any _ _).mono ?_; rintro e w' ⟨rfl, rfl⟩) | (go_at_call 78; refine (isTime_any _ _).mono ?_; rintro e w' ⟨rfl, rfl⟩))
    go_ret
    exact ⟨ret_bool He.out.symm, HB.out _⟩
  cases h2 : ptB o
  · have He : Hid (lzB ⟨e, o, u⟩ = false) := by show lzB _ = _; simp [lzB, h1, h2]
    go_enter Try.func63, Try.ntmps63
    go_wp2_with (first | (go_at_call 60; refine (valid_any _ _).mono ?_; rintro e w' ⟨rfl, rfl⟩) | (go_at_call 78; refine (isTime_any _ _).mono ?_; rintro e w' ⟨rfl, rfl⟩))
    go_ret
    exact ⟨ret_bool He.out.symm, HB.out _⟩
  · have He : Hid (lzB ⟨e, o, u⟩ = tmB u) := by show lzB _ = _; simp [lzB, h1, h2]
    go_enter Try.func63, Try.ntmps63
    go_wp2_with (first | (go_at_call 60; refine (valid_any _ _).mono ?_; rintro e w' ⟨rfl, rfl⟩) | (go_at_call 78; refine (isTime_any _ _).mono ?_; rintro e w' ⟨rfl, rfl⟩))
    go_ret
    exact ⟨ret_bool He.out.symm, HB.out _⟩
theorem lvalid_as (v : Bool) (x : Ls) (w : World) (hv : lzB x = v) :
    Calls Try.prog 63 #[.agg #[.int .i64 x.e, .int .i64 x.o, .int .i64 x.u]] w fun e w' => e = .returned (.bool v) ∧ Below w.heap.size w w' := by subst hv; exact lvalid_any x w

set_option maxHeartbeats 1000000 in
theorem lvs_any (a : Option Addr) (len cap : Nat) (L : List Ls) (w : World) (h : LsAt w a L) (hz : L.length = len) (hm : len ≤ maxLen) :
    Calls Try.prog 26 #[.slice a len cap] w fun e w' => e = .returned (.bool (lvB L)) ∧ Below w.heap.size w w' := by
  have HI := Lib.hid h
  have HZ := Lib.hid hz
  unfold maxLen at hm
  by_cases h0 : len < 1
  · have He : Hid (lvB L = false) := lvB_no_len (by omega)
    clear h hz
    go_enter Try.func26, Try.ntmps26
    go_wp2
    go_ret
    exact ⟨ret_bool He.out.symm, Below.refl _ _⟩
  by_cases h12 : 12 < len
  · have He : Hid (lvB L = false) := lvB_no_len (by omega)
    clear h hz
    go_enter Try.func26, Try.ntmps26
    go_wp2
    go_ret
    exact ⟨ret_bool He.out.symm, Below.refl _ _⟩
  clear h hz
  go_enter Try.func26, Try.ntmps26
  go_wp2
  go_loopw [15] (fun i wr => ∃ k : Nat, k ≤ len ∧ i = .int .i64 k ∧ okTo L k = true ∧ Below w.heap.size w wr) (fun i _ => len - (intOf i).toNat)
  case atStart => exact ⟨0, by omega, rfl, rfl, Below.refl _ _⟩
  case round =>
    obtain ⟨k, hk, rfl, hall, hbel⟩ := hrel
    have HA := Lib.hid hall
    clear hall
    by_cases hlt : k < len
    · obtain ⟨b, off, rfl, hb0, hcells⟩ := (HI.out.keepB hbel (Nat.le_refl _)).at_ (i := k) (by rw [HZ.out]; exact hlt)
      obtain ⟨hc0, hc1, hc2⟩ := hcells k (by rw [HZ.out]; exact hlt)
      have HN := Lib.hid hcells
      clear hcells
      have hkL : Hid (k < L.length) := by show k < L.length; rw [HZ.out]; exact hlt
      have HBW := Lib.hid (alB wr)
      obtain ⟨W, hW⟩ : ∃ W, W = wr.alloc (.cells #[.int .i64 (gl L k).e, .int .i64 (gl L k).o, .int .i64 (gl L k).u] 36) := ⟨_, rfl⟩
      have hWb : Below wr.heap.size wr W := by rw [hW]; exact HBW.out _
      have hWs : wr.heap.size < W.heap.size := by rw [hW]; simp
      have hW0 : ∀ x : Cls (Below W.heap.size W), x.to.cell? ⟨wr.heap.size, 0, none⟩ = some (.int .i64 (gl L k).e) := fun x => (x.ok.cell (p := ⟨wr.heap.size, 0, none⟩) hWs).trans (by rw [hW]; simp)
      have hW1 : ∀ x : Cls (Below W.heap.size W), x.to.cell? ⟨wr.heap.size, 1, none⟩ = some (.int .i64 (gl L k).o) := fun x => (x.ok.cell (p := ⟨wr.heap.size, 1, none⟩) hWs).trans (by rw [hW]; simp)
      have hW2 : ∀ x : Cls (Below W.heap.size W), x.to.cell? ⟨wr.heap.size, 2, none⟩ = some (.int .i64 (gl L k).u) := fun x => (x.ok.cell (p := ⟨wr.heap.size, 2, none⟩) hWs).trans (by rw [hW]; simp)
      have HW := Lib.hid hW
      clear hW
      cases hn : lzB (gl L k)
      · have HNV := Lib.hid hn
        clear hn
        go_wp2_with fail
        rw [← HW.out]
        refine wp_region_cls (Below W.heap.size W) (by kernel_rfl) (by kernel_rfl) below_drawn ?_
        repeat (go_big_quiet_step ((go_at_call 63; rename_i x; exact cls_below (lvalid_as false (gl L k) _ HNV.out) x.ok (Nat.le_refl _))))
        refine wpQuiet_nil ?_
        intro w2 hw'
        have hb2 := cls_out hw'
        clear hw'
        have hbel2 : Below w.heap.size w w2 := hbel.trans ((hWb.trans (hb2.mono (by omega))).mono hbel.size)
        clear hW0 hW1 hW2
        go_wp2
        go_ret
        exact ⟨ret_bool (lvB_no_ls hkL.out HNV.out).symm, hbel2⟩
      · have HNV := Lib.hid hn
        clear hn
        by_cases hk0 : k = 0
        · have hk00 : decide (0 < (k : Int)) = false := by simp; omega
          have hk01 : decide (0 < k) = false := by simp; omega
          have HK := Lib.hid hk0
          clear hk0
          go_wp2_with fail
          rw [← HW.out]
          refine wp_region_cls (Below W.heap.size W) (by kernel_rfl) (by kernel_rfl) below_drawn ?_
          repeat (go_big_quiet_step ((go_at_call 63; rename_i x; exact cls_below (lvalid_as true (gl L k) _ HNV.out) x.ok (Nat.le_refl _))))
          refine wpQuiet_nil ?_
          intro w2 hw'
          have hb2 := cls_out hw'
          clear hw'
          have hbel2 : Below w.heap.size w w2 := hbel.trans ((hWb.trans (hb2.mono (by omega))).mono hbel.size)
          clear hW0 hW1 hW2 hk00 hk01
          go_wp2
          go_roundw
          case rel => exact ⟨k + 1, by omega, by go_num, by have hn := HNV.out; have hk := HK.out; subst hk; exact okTo_z hn, hbel2⟩
          case measure => simp [intOf]; omega
        · have hk1 : ((k : Int) - 1).toNat = k - 1 := by omega
          obtain ⟨hd0, hd1, hd2⟩ := HN.out (k - 1) (by rw [HZ.out]; omega)
          have hD0 : ∀ x : Cls (Below W.heap.size W), x.to.cell? ⟨b, off + (k - 1) * 3, none⟩ = some (.int .i64 (gl L (k - 1)).e) := fun x => ((hWb.trans (x.ok.mono (by omega))).cell (p := ⟨b, off + (k - 1) * 3, none⟩) hb0).trans hd0
          have hkp : 0 < k := by omega
          have hki : (1 : Int) ≤ (k : Int) := by omega
          by_cases hle : (gl L k).e ≤ (gl L (k - 1)).e
          · have HL := Lib.hid hle
            go_wp2_with fail
            rw [← HW.out]
            refine wp_region_cls (Below W.heap.size W) (by kernel_rfl) (by kernel_rfl) below_drawn ?_
            repeat (go_big_quiet_step ((go_at_call 63; rename_i x; exact cls_below (lvalid_as true (gl L k) _ HNV.out) x.ok (Nat.le_refl _))))
            refine wpQuiet_nil ?_
            intro w2 hw'
            have hb2 := cls_out hw'
            clear hw'
            have hbel2 : Below w.heap.size w w2 := hbel.trans ((hWb.trans (hb2.mono (by omega))).mono hbel.size)
            clear hW0 hW1 hW2
            clear hD0
            go_wp2
            go_ret
            exact ⟨ret_bool (lvB_no_lt (j := k - 1) (by have := hkL.out; omega) (by rw [show k - 1 + 1 = k by omega]; exact HL.out)).symm, hbel2⟩
          · have hle' : (gl L (k - 1)).e < (gl L k).e := by omega
            have HL := Lib.hid hle'
            go_wp2_with fail
            rw [← HW.out]
            refine wp_region_cls (Below W.heap.size W) (by kernel_rfl) (by kernel_rfl) below_drawn ?_
            repeat (go_big_quiet_step ((go_at_call 63; rename_i x; exact cls_below (lvalid_as true (gl L k) _ HNV.out) x.ok (Nat.le_refl _))))
            refine wpQuiet_nil ?_
            intro w2 hw'
            have hb2 := cls_out hw'
            clear hw'
            have hbel2 : Below w.heap.size w w2 := hbel.trans ((hWb.trans (hb2.mono (by omega))).mono hbel.size)
            clear hW0 hW1 hW2
            clear hD0
            go_wp2
            go_roundw
            case rel =>
              refine ⟨k + 1, by omega, by go_num, ?_, hbel2⟩
              have h1 := HA.out
              have h2 := HNV.out
              have h3 := HL.out
              obtain ⟨j, rfl⟩ : ∃ j, k = j + 1 := ⟨k - 1, by omega⟩
              exact okTo_s h1 h2 h3
            case measure => simp [intOf]; omega
    · go_wp2
      go_ret
      exact ⟨ret_bool (lvB_yes (by rw [HZ.out]; omega) (by rw [HZ.out]; omega) (by rw [HZ.out, show len = k by omega]; exact HA.out)).symm, hbel⟩

set_option maxHeartbeats 1000000 in
theorem slvs_any (a : Option Addr) (len cap : Nat) (L : List Ls) (w : World) (h : LsAt w a L) (hz : L.length = len) (hm : len ≤ maxLen) :
    Calls Try.prog 30 #[.slice a len cap] w fun e w' => e = .returned (.bool (lvB L)) ∧ Same w w' := by
  have HI := Lib.hid h
  have HZ := Lib.hid hz
  unfold maxLen at hm
  clear h hz
  go_enter Try.func30, Try.ntmps30
  go_wp2
  go_loopw [3] (fun i wr => ∃ k : Nat, k ≤ len ∧ i = .int .i64 k ∧ okTo L k = true ∧ Same w wr) (fun i _ => len - (intOf i).toNat)
  case atStart => exact ⟨0, by omega, rfl, rfl, Same.refl _⟩
  case round =>
    obtain ⟨k, hk, rfl, hall, hsame⟩ := hrel
    have HA := Lib.hid hall
    clear hall
    by_cases hlt : k < len
    · obtain ⟨b, off, rfl, hb0, hcells⟩ := (HI.out.same hsame).at_ (i := k) (by rw [HZ.out]; exact hlt)
      obtain ⟨hc0, hc1, hc2⟩ := hcells k (by rw [HZ.out]; exact hlt)
      have HN := Lib.hid hcells
      clear hcells
      have hkL : Hid (k < L.length) := by show k < L.length; rw [HZ.out]; exact hlt
      cases h1 : ptB (gl L k).e
      · have HL : Hid (lvB L = false) := lvB_no_ls hkL.out (by simp [lzB, h1])
        go_wp2
        go_quiet (first | (go_at_call 65; exact Calls.quiet_of_same (calls_flip (point_any _ _))) | (go_at_call 66; exact Calls.quiet_of_same (calls_flip (stime_any _ _))))
        go_wp2
        go_ret
        exact ⟨ret_bool HL.out.symm, hsame.drewN _⟩
      cases h2 : ptB (gl L k).o
      · have HL : Hid (lvB L = false) := lvB_no_ls hkL.out (by simp [lzB, h1, h2])
        go_wp2
        go_quiet (first | (go_at_call 65; exact Calls.quiet_of_same (calls_flip (point_any _ _))) | (go_at_call 66; exact Calls.quiet_of_same (calls_flip (stime_any _ _))))
        go_wp2
        go_ret
        exact ⟨ret_bool HL.out.symm, hsame.drewN _⟩
      cases h3 : tmB (gl L k).u
      · have HL : Hid (lvB L = false) := lvB_no_ls hkL.out (by simp [lzB, h1, h2, h3])
        go_wp2
        go_quiet (first | (go_at_call 65; exact Calls.quiet_of_same (calls_flip (point_any _ _))) | (go_at_call 66; exact Calls.quiet_of_same (calls_flip (stime_any _ _))))
        go_wp2
        go_ret
        exact ⟨ret_bool HL.out.symm, hsame.drewN _⟩
      have HV : Hid (lzB (gl L k) = true) := by show lzB _ = true; simp [lzB, h1, h2, h3]
      by_cases hk0 : k = 0
      · have hk00 : decide (0 < (k : Int)) = false := by simp; omega
        have hk01 : decide (0 < k) = false := by simp; omega
        have HK := Lib.hid hk0
        clear hk0
        go_wp2
        go_quiet (first | (go_at_call 65; exact Calls.quiet_of_same (calls_flip (point_any _ _))) | (go_at_call 66; exact Calls.quiet_of_same (calls_flip (stime_any _ _))))
        clear hk00 hk01
        go_wp2
        go_roundw
        case rel => exact ⟨k + 1, by omega, by go_num, by have hn := HV.out; have hk := HK.out; subst hk; exact okTo_z hn, hsame.drewN _⟩
        case measure => simp [intOf]; omega
      · have hk1 : ((k : Int) - 1).toNat = k - 1 := by omega
        obtain ⟨hd0, hd1, hd2⟩ := HN.out (k - 1) (by rw [HZ.out]; omega)
        have hkp : 0 < k := by omega
        have hki : (1 : Int) ≤ (k : Int) := by omega
        by_cases hle : (gl L k).e ≤ (gl L (k - 1)).e
        · have HL : Hid (lvB L = false) := lvB_no_lt (j := k - 1) (by have := hkL.out; omega) (by rw [show k - 1 + 1 = k by omega]; exact hle)
          go_wp2
          go_quiet (first | (go_at_call 65; exact Calls.quiet_of_same (calls_flip (point_any _ _))) | (go_at_call 66; exact Calls.quiet_of_same (calls_flip (stime_any _ _))))
          go_wp2
          go_ret
          exact ⟨ret_bool HL.out.symm, hsame.drewN _⟩
        · have hle' : (gl L (k - 1)).e < (gl L k).e := by omega
          have HL := Lib.hid hle'
          go_wp2
          go_quiet (first | (go_at_call 65; exact Calls.quiet_of_same (calls_flip (point_any _ _))) | (go_at_call 66; exact Calls.quiet_of_same (calls_flip (stime_any _ _))))
          go_wp2
          go_roundw
          case rel =>
            refine ⟨k + 1, by omega, by go_num, ?_, hsame.drewN _⟩
            have h1 := HA.out
            have h2 := HV.out
            have h3 := HL.out
            obtain ⟨j, rfl⟩ : ∃ j, k = j + 1 := ⟨k - 1, by omega⟩
            exact okTo_s h1 h2 h3
          case measure => simp [intOf]; omega
    · have hkl : k = len := by omega
      have HK := Lib.hid hkl
      clear hkl
      by_cases hr : 1 ≤ len ∧ len ≤ 12
      · have hd : decide ((1 : Int) ≤ len ∧ (len : Int) ≤ 12) = true := by simp; omega
        have He : Hid (lvB L = true) := lvB_yes (by rw [HZ.out]; exact hr.1) (by rw [HZ.out]; exact hr.2) (by rw [HZ.out, ← HK.out]; exact HA.out)
        go_wp2_with fail
        refine (in_any _ _ _ _).mono ?_
        rintro e w' ⟨rfl, rfl⟩
        go_wp2
        go_ret
        exact ⟨ret_bool He.out.symm, hsame⟩
      · have hd : decide ((1 : Int) ≤ len ∧ (len : Int) ≤ 12) = false := by simp; omega
        have He : Hid (lvB L = false) := lvB_no_len (by rw [HZ.out]; exact hr)
        go_wp2_with fail
        refine (in_any _ _ _ _).mono ?_
        rintro e w' ⟨rfl, rfl⟩
        go_wp2
        go_ret
        exact ⟨ret_bool He.out.symm, hsame⟩
end Go.Proofs.Ytenhaccdiamagaa
