/- What the program does with caches: single entries, valid caches. -/
import Derived.Test.YtdlapnelehehgabCaC
import Derived.Test.YtdlapnelehehgabCaPM
import Derived.Lib.SliceRun
namespace Go.Proofs.Ytdlapnelehehgab
open Go.RowKit
set_option linter.unusedVariables false
attribute [local go_sem ↓] Go.wp_at_zero Go.wp_at_succ

set_option maxHeartbeats 400000 in
theorem isValue_any (n : Int) (w : World) :
    Calls Try.prog 41 #[.int .i64 n] w fun e w' => e = .returned (.bool (vlB n)) ∧ w = w' := by
  go_enter Try.func41, Try.ntmps41
  go_wp2
  all_goals
    go_ret
    exact ⟨ret_bool (by rw [Bool.eq_iff_iff]; simp [vlB]; omega), rfl⟩

set_option maxHeartbeats 400000 in
theorem isTime_any (n : Int) (w : World) :
    Calls Try.prog 33 #[.int .i64 n] w fun e w' => e = .returned (.bool (tmB n)) ∧ w = w' := by
  go_enter Try.func33, Try.ntmps33
  go_wp2
  all_goals
    go_ret
    exact ⟨ret_bool (by rw [Bool.eq_iff_iff]; simp [tmB]; omega), rfl⟩

set_option maxHeartbeats 400000 in
theorem pentry_any (x : Ls) (w : World) :
    Calls Try.prog 24 #[.agg #[.int .i64 x.e, .int .i64 x.o, .int .i64 x.u]] w fun e w' => e = .returned (.bool (lzB x)) ∧ Below w.heap.size w w' := by
  obtain ⟨e, o, u⟩ := x
  simp only at *
  have HB := Lib.hid (alB w)
  cases h1 : ptB e
  · have He : Hid (lzB ⟨e, o, u⟩ = false) := by show lzB _ = _; simp [lzB, h1]
    go_enter Try.func24, Try.ntmps24
    go_wp2_with (first | (go_at_call 29; refine (valid_any _ _).mono ?_; rintro e w' ⟨rfl, rfl⟩) | (go_at_call 41; refine (isValue_any _ _).mono ?_; rintro e w' ⟨rfl, rfl⟩) | (go_at_call 33; refine (isTime_any _ _).mono ?_; rintro e w' ⟨rfl, rfl⟩))
    go_ret
    exact ⟨ret_bool He.out.symm, HB.out _⟩
  cases h2 : vlB o
  · have He : Hid (lzB ⟨e, o, u⟩ = false) := by show lzB _ = _; simp [lzB, h1, h2]
    go_enter Try.func24, Try.ntmps24
    go_wp2_with (first | (go_at_call 29; refine (valid_any _ _).mono ?_; rintro e w' ⟨rfl, rfl⟩) | (go_at_call 41; refine (isValue_any _ _).mono ?_; rintro e w' ⟨rfl, rfl⟩) | (go_at_call 33; refine (isTime_any _ _).mono ?_; rintro e w' ⟨rfl, rfl⟩))
    go_ret
    exact ⟨ret_bool He.out.symm, HB.out _⟩
  · have He : Hid (lzB ⟨e, o, u⟩ = tmB u) := by show lzB _ = _; simp [lzB, h1, h2]
    go_enter Try.func24, Try.ntmps24
    go_wp2_with (first | (go_at_call 29; refine (valid_any _ _).mono ?_; rintro e w' ⟨rfl, rfl⟩) | (go_at_call 41; refine (isValue_any _ _).mono ?_; rintro e w' ⟨rfl, rfl⟩) | (go_at_call 33; refine (isTime_any _ _).mono ?_; rintro e w' ⟨rfl, rfl⟩))
    go_ret
    exact ⟨ret_bool He.out.symm, HB.out _⟩
theorem pentry_as (v : Bool) (x : Ls) (w : World) (hv : lzB x = v) :
    Calls Try.prog 24 #[.agg #[.int .i64 x.e, .int .i64 x.o, .int .i64 x.u]] w fun e w' => e = .returned (.bool v) ∧ Below w.heap.size w w' := by subst hv; exact pentry_any x w

set_option maxHeartbeats 1000000 in
theorem pvalid_any (a : Option Addr) (len cap : Nat) (L : List Ls) (w : World) (h : LsAt w a L) (hz : L.length = len) (hm : len ≤ maxLen) :
    Calls Try.prog 23 #[.slice a len cap] w fun e w' => e = .returned (.bool (lvB L)) ∧ Below w.heap.size w w' := by
  have HI := Lib.hid h
  have HZ := Lib.hid hz
  unfold maxLen at hm
  by_cases h12 : 6 < len
  · have He : Hid (lvB L = false) := lvB_no_len (by omega)
    clear h hz
    go_enter Try.func23, Try.ntmps23
    go_wp2
    go_ret
    exact ⟨ret_bool He.out.symm, Below.refl _ _⟩
  clear h hz
  go_enter Try.func23, Try.ntmps23
  go_wp2
  go_loopw [10] (fun i wr => ∃ k : Nat, k ≤ len ∧ i = .int .i64 k ∧ okTo L k = true ∧ Below w.heap.size w wr) (fun i _ => len - (intOf i).toNat)
  case atStart => exact ⟨0, by omega, rfl, rfl, Below.refl _ _⟩
  case round =>
    obtain ⟨k, hk, rfl, hall, hbel⟩ := hrel
    have HA := Lib.hid hall
    clear hall
    by_cases hlt : k < len
    · obtain ⟨b, off, rfl, hb0, hcells⟩ := (HI.out.keepB hbel (Nat.le_refl _)).at_ (i := k) (by rw [HZ.out]; exact hlt)
      obtain ⟨hc0, hc1, hc2⟩ := hcells k (by rw [HZ.out]; exact hlt)
      have HN := Lib.hid hcells
      clear hcells
      have hkL : Hid (k < L.length) := by show k < L.length; rw [HZ.out]; exact hlt
      have HBW := Lib.hid (alB wr)
      obtain ⟨W, hW⟩ : ∃ W, W = wr.alloc (.cells #[.int .i64 (gl L k).e, .int .i64 (gl L k).o, .int .i64 (gl L k).u] 38) := ⟨_, rfl⟩
      have hWb : Below wr.heap.size wr W := by rw [hW]; exact HBW.out _
      have hWs : wr.heap.size < W.heap.size := by rw [hW]; simp
      have hW0 : ∀ x : Cls (Below W.heap.size W), x.to.cell? ⟨wr.heap.size, 0, none⟩ = some (.int .i64 (gl L k).e) := fun x => (x.ok.cell (p := ⟨wr.heap.size, 0, none⟩) hWs).trans (by rw [hW]; simp)
      have hW1 : ∀ x : Cls (Below W.heap.size W), x.to.cell? ⟨wr.heap.size, 1, none⟩ = some (.int .i64 (gl L k).o) := fun x => (x.ok.cell (p := ⟨wr.heap.size, 1, none⟩) hWs).trans (by rw [hW]; simp)
      have hW2 : ∀ x : Cls (Below W.heap.size W), x.to.cell? ⟨wr.heap.size, 2, none⟩ = some (.int .i64 (gl L k).u) := fun x => (x.ok.cell (p := ⟨wr.heap.size, 2, none⟩) hWs).trans (by rw [hW]; simp)
      have HW := Lib.hid hW
      clear hW
      cases hn : lzB (gl L k)
      · have HNV := Lib.hid hn
        clear hn
        go_wp2_with fail
        rw [← HW.out]
        refine wp_region_cls (Below W.heap.size W) (by kernel_rfl) (by kernel_rfl) below_drawn ?_
        repeat (go_big_quiet_step ((go_at_call 24; rename_i x; exact cls_below (pentry_as false (gl L k) _ HNV.out) x.ok (Nat.le_refl _))))
        refine wpQuiet_nil ?_
        intro w2 hw'
        have hb2 := cls_out hw'
        clear hw'
        have hbel2 : Below w.heap.size w w2 := hbel.trans ((hWb.trans (hb2.mono (by omega))).mono hbel.size)
        clear hW0 hW1 hW2
        go_wp2
        go_ret
        exact ⟨ret_bool (lvB_no_ls hkL.out HNV.out).symm, hbel2⟩
      · have HNV := Lib.hid hn
        clear hn
        by_cases hk0 : k = 0
        · have hk00 : decide (0 < (k : Int)) = false := by simp; omega
          have hk01 : decide (0 < k) = false := by simp; omega
          have HK := Lib.hid hk0
          clear hk0
          go_wp2_with fail
          rw [← HW.out]
          refine wp_region_cls (Below W.heap.size W) (by kernel_rfl) (by kernel_rfl) below_drawn ?_
          repeat (go_big_quiet_step ((go_at_call 24; rename_i x; exact cls_below (pentry_as true (gl L k) _ HNV.out) x.ok (Nat.le_refl _))))
          refine wpQuiet_nil ?_
          intro w2 hw'
          have hb2 := cls_out hw'
          clear hw'
          have hbel2 : Below w.heap.size w w2 := hbel.trans ((hWb.trans (hb2.mono (by omega))).mono hbel.size)
          clear hW0 hW1 hW2 hk00 hk01
          go_wp2
          go_roundw
          case rel => exact ⟨k + 1, by omega, by go_num, by have hn := HNV.out; have hk := HK.out; subst hk; exact okTo_z hn, hbel2⟩
          case measure => simp [intOf]; omega
        · have hk1 : ((k : Int) - 1).toNat = k - 1 := by omega
          obtain ⟨hd0, hd1, hd2⟩ := HN.out (k - 1) (by rw [HZ.out]; omega)
          have hD0 : ∀ x : Cls (Below W.heap.size W), x.to.cell? ⟨b, off + (k - 1) * 3, none⟩ = some (.int .i64 (gl L (k - 1)).e) := fun x => ((hWb.trans (x.ok.mono (by omega))).cell (p := ⟨b, off + (k - 1) * 3, none⟩) hb0).trans hd0
          have hkp : 0 < k := by omega
          have hki : (1 : Int) ≤ (k : Int) := by omega
          by_cases hle : (gl L k).e ≤ (gl L (k - 1)).e
          · have HL := Lib.hid hle
            go_wp2_with fail
            rw [← HW.out]
            refine wp_region_cls (Below W.heap.size W) (by kernel_rfl) (by kernel_rfl) below_drawn ?_
            repeat (go_big_quiet_step ((go_at_call 24; rename_i x; exact cls_below (pentry_as true (gl L k) _ HNV.out) x.ok (Nat.le_refl _))))
            refine wpQuiet_nil ?_
            intro w2 hw'
            have hb2 := cls_out hw'
            clear hw'
            have hbel2 : Below w.heap.size w w2 := hbel.trans ((hWb.trans (hb2.mono (by omega))).mono hbel.size)
            clear hW0 hW1 hW2
            clear hD0
            go_wp2
            go_ret
            exact ⟨ret_bool (lvB_no_lt (j := k - 1) (by have := hkL.out; omega) (by rw [show k - 1 + 1 = k by omega]; exact HL.out)).symm, hbel2⟩
          · have hle' : (gl L (k - 1)).e < (gl L k).e := by omega
            have HL := Lib.hid hle'
            go_wp2_with fail
            rw [← HW.out]
            refine wp_region_cls (Below W.heap.size W) (by kernel_rfl) (by kernel_rfl) below_drawn ?_
            repeat (go_big_quiet_step ((go_at_call 24; rename_i x; exact cls_below (pentry_as true (gl L k) _ HNV.out) x.ok (Nat.le_refl _))))
            refine wpQuiet_nil ?_
            intro w2 hw'
            have hb2 := cls_out hw'
            clear hw'
            have hbel2 : Below w.heap.size w w2 := hbel.trans ((hWb.trans (hb2.mono (by omega))).mono hbel.size)
            clear hW0 hW1 hW2
            clear hD0
            go_wp2
            go_roundw
            case rel =>
              refine ⟨k + 1, by omega, by go_num, ?_, hbel2⟩
              have h1 := HA.out
              have h2 := HNV.out
              have h3 := HL.out
              obtain ⟨j, rfl⟩ : ∃ j, k = j + 1 := ⟨k - 1, by omega⟩
              exact okTo_s h1 h2 h3
            case measure => simp [intOf]; omega
    · go_wp2
      go_ret
      exact ⟨ret_bool (lvB_yes (by rw [HZ.out]; omega) (by rw [HZ.out, show len = k by omega]; exact HA.out)).symm, hbel⟩

theorem pvld_as (v : Bool) (a : Option Addr) (len cap : Nat) (L : List Ls) (w : World) (h : LsAt w a L) (hz : L.length = len) (hm : len ≤ maxLen) (hv : lvB L = v) :
    Calls Try.prog 23 #[.slice a len cap] w fun e w' => e = .returned (.bool v) ∧ Below w.heap.size w w' := by subst hv; exact pvalid_any a len cap L w h hz hm

set_option maxHeartbeats 400000 in
theorem expired_any (x : Ls) (now : Int) (w : World) (hx : -1000000 ≤ x.u ∧ x.u ≤ 1000000) :
    Calls Try.prog 34 #[.agg #[.int .i64 x.e, .int .i64 x.o, .int .i64 x.u], .int .i64 now] w fun e w' => e = .returned (.bool (exB x now)) ∧ Below w.heap.size w w' := by
  obtain ⟨e, o, u⟩ := x
  simp only at *
  have HB := Lib.hid (alB w)
  go_enter Try.func34, Try.ntmps34
  go_wp2
  all_goals
    go_ret
    exact ⟨ret_bool (by simp [exB]), HB.out _⟩
theorem expired_as (v : Bool) (x : Ls) (now : Int) (w : World) (hx : -1000000 ≤ x.u ∧ x.u ≤ 1000000) (hv : exB x now = v) :
    Calls Try.prog 34 #[.agg #[.int .i64 x.e, .int .i64 x.o, .int .i64 x.u], .int .i64 now] w fun e w' => e = .returned (.bool v) ∧ Below w.heap.size w w' := by subst hv; exact expired_any x now w hx

set_option maxHeartbeats 400000 in
theorem later_any (x : Ls) (now : Int) (w : World) :
    Calls Try.prog 38 #[.agg #[.int .i64 x.e, .int .i64 x.o, .int .i64 x.u], .int .i64 now] w fun e w' => e = .returned (.bool (raB x now)) ∧ Below w.heap.size w w' := by
  obtain ⟨e, o, u⟩ := x
  simp only at *
  have HB := Lib.hid (alB w)
  go_enter Try.func38, Try.ntmps38
  go_wp2
  all_goals
    go_ret
    exact ⟨ret_bool (by simp [raB]), HB.out _⟩
theorem later_as (v : Bool) (x : Ls) (now : Int) (w : World) (hv : raB x now = v) :
    Calls Try.prog 38 #[.agg #[.int .i64 x.e, .int .i64 x.o, .int .i64 x.u], .int .i64 now] w fun e w' => e = .returned (.bool v) ∧ Below w.heap.size w w' := by subst hv; exact later_any x now w


set_option maxHeartbeats 400000 in
theorem nan_any (n : Int) (w : World) :
    Calls Try.prog 63 #[.int .i64 n] w fun e w' => e = .returned (.bool false) ∧ w = w' := by
  have h : (n != n) = false := by simp
  go_enter Try.func63, Try.ntmps63
  go_wp2
  go_ret
  exact ⟨rfl, rfl⟩

set_option maxHeartbeats 1000000 in
theorem cmp_any (x y : Int) (w : World) :
    Calls Try.prog 50 #[.int .i64 x, .int .i64 y] w fun e w' => e = .returned (.int .i64 (cmI x y)) ∧ w = w' := by
  go_enter Try.func50, Try.ntmps50
  go_wp2_with (refine (nan_any _ _).mono ?_; rintro e w' ⟨rfl, rfl⟩)
  all_goals (go_ret; refine ⟨?_, rfl⟩; unfold cmI; (repeat' split) <;> first | rfl | (exfalso; omega))

set_option maxHeartbeats 400000 in
theorem ckey_any (x y : Ls) (w : World) :
    Calls Try.prog 40 #[.agg #[.int .i64 x.e, .int .i64 x.o, .int .i64 x.u], .agg #[.int .i64 y.e, .int .i64 y.o, .int .i64 y.u]] w fun e w' => e = .returned (.int .i64 (cmI x.e y.e)) ∧ Below w.heap.size w w' := by
  have HB : Hid (∀ a b, Below w.heap.size w ((w.alloc a).alloc b)) := fun a b => ((Below.refl _ _).alloc (Nat.le_refl _) _).alloc (by simp) _
  obtain ⟨e, o, u⟩ := x
  obtain ⟨e', o', u'⟩ := y
  simp only at *
  go_enter Try.func40, Try.ntmps40
  go_wp2_with fail
  refine (cmp_any _ _ _).mono ?_
  rintro e2 w2 ⟨rfl, rfl⟩
  go_wp2
  go_ret
  exact ⟨rfl, HB.out _ _⟩
theorem ckey_as (v : Int) (x y : Ls) (w : World) (hv : cmI x.e y.e = v) :
    Calls Try.prog 40 #[.agg #[.int .i64 x.e, .int .i64 x.o, .int .i64 x.u], .agg #[.int .i64 y.e, .int .i64 y.o, .int .i64 y.u]] w fun e w' => e = .returned (.int .i64 v) ∧ Below w.heap.size w w' := by subst hv; exact ckey_any x y w
end Go.Proofs.Ytdlapnelehehgab
