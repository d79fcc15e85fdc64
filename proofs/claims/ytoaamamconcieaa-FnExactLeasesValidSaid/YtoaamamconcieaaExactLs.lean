/- The walks of the exact laws of leases. -/
import Derived.Test.YtoaamamconcieaaLsS
namespace Go.Proofs.Ytoaamamconcieaa
open Go.RowKit
set_option linter.unusedVariables false

theorem leftL_no {len : Nat} (h : 1048576 < len) : leftL 1048576 len = -1 := by unfold leftL; rw [if_pos (by omega)]
theorem leftL_yes {len : Nat} (h : len ≤ 1048576) : leftL 1048576 len = 1048576 - len := by unfold leftL; rw [if_neg (by omega)]
theorem renR_len (L : List Ls) (ow now ut : Int) : (renR L ow now ut).1.length ≤ 12 := by
  unfold renR
  split
  · rename_i h
    have := lv_len ((renOk_iff _ _ _ _).1 h).1
    simp; omega
  · simp

set_option maxHeartbeats 2000000 in
theorem exValid (a : Option Addr) (len cap : Nat) (L : List Ls) (w : World) (hz : L.length = len) (h : LsAt w a L) (hm : len ≤ maxLen) :
    Calls Try.prog 3 #[.slice a len cap] w fun e w' => e = .returned (.bool true) ∧ Below w.heap.size w w' := by
  have HM := Lib.hid hm
  have HI := Lib.hid h
  clear hm h
  by_cases hl : 1048576 < len
  · have hlf := Lib.hid (leftL_no hl)
    clear hz hl
    go_enter Try.func3, Try.ntmps3
    go_wp2_with fail
    refine (szLs_any a _ cap 1048576 w (by omega) (by omega) HM.out).mono ?_
    rintro e w' ⟨rfl, rfl⟩
    rw [hlf.out]
    go_wp2
    go_ret
    exact ⟨rfl, Below.refl _ _⟩
  subst hz
  have hlf := Lib.hid (leftL_yes (len := L.length) (by omega))
  have hls : L.length ≤ 1048576 := by omega
  have HLS := Lib.hid hls
  have d0 : decide ((1048576 : Int) - (L.length : Int) < 0) = false := by simp; omega
  clear hl hls
  go_enter Try.func3, Try.ntmps3
  go_wp2_with fail
  refine (szLs_any a _ cap 1048576 w (by omega) (by omega) HM.out).mono ?_
  rintro e w' ⟨rfl, rfl⟩
  rw [hlf.out]
  have q1 : (lvB L != lvB L) = false := by simp
  go_wp2_with fail
  refine (toLs_any a _ cap L w HI.out rfl HLS.out).mono ?_
  rintro e w1 ⟨rfl, ho, hb1⟩
  have O1 := Lib.hid ho
  clear ho
  go_wp2_with fail
  refine (slvs_any _ _ _ L w1 O1.out.ls rfl HM.out).mono ?_
  rintro e w2 ⟨rfl, hs2⟩
  have hb2 := hs2.below w1.heap.size
  have hB2 : Below w.heap.size w w2 := hb1.trans (hb2.mono hb1.size)
  go_wp2_with fail
  refine (toLs_any a _ cap L w2 (HI.out.keepB hB2 (Nat.le_refl _)) rfl HLS.out).mono ?_
  rintro e w3 ⟨rfl, ho, hb3⟩
  have O3 := Lib.hid ho
  clear ho
  have hB3 : Below w.heap.size w w3 := hB2.trans (hb3.mono hB2.size)
  go_wp2_with fail
  refine (lvs_any _ _ _ L w3 O3.out.ls rfl HM.out).mono ?_
  rintro e w4 ⟨rfl, hb4⟩
  have hB4 : Below w.heap.size w w4 := hB3.trans (hb4.mono hB3.size)
  have O4 := Lib.hid (O3.out.keepB hb4 (Nat.le_refl _))
  go_wp2_with fail
  refine (toLs_any a _ cap L w4 (HI.out.keepB hB4 (Nat.le_refl _)) rfl HLS.out).mono ?_
  rintro e w5 ⟨rfl, ho, hb5⟩
  have O5b := Lib.hid ho
  clear ho
  have hB5 : Below w.heap.size w w5 := hB4.trans (hb5.mono hB4.size)
  go_wp2_with fail
  refine (eqLs_same _ _ _ _ _ L w5 (O4.out.keepB hb5 (Nat.le_refl _)).ls O5b.out.ls rfl HLS.out).mono ?_
  rintro e w6 ⟨rfl, hb6⟩
  go_wp2
  go_ret
  exact ⟨rfl, hB5.trans (hb6.mono hB5.size)⟩

set_option maxHeartbeats 2000000 in
theorem exOf (a : Option Addr) (len cap : Nat) (L : List Ls) (key : Int) (w : World) (hz : L.length = len) (h : LsAt w a L) (hm : len ≤ maxLen) :
    Calls Try.prog 4 #[.slice a len cap, .int .i64 key] w fun e w' => e = .returned (.bool true) ∧ Below w.heap.size w w' := by
  have HM := Lib.hid hm
  have HI := Lib.hid h
  clear hm h
  by_cases hl : 1048576 < len
  · have hlf := Lib.hid (leftL_no hl)
    clear hz hl
    go_enter Try.func4, Try.ntmps4
    go_wp2_with fail
    refine (szLs_any a _ cap 1048576 w (by omega) (by omega) HM.out).mono ?_
    rintro e w' ⟨rfl, rfl⟩
    rw [hlf.out]
    go_wp2
    go_ret
    exact ⟨rfl, Below.refl _ _⟩
  subst hz
  have hlf := Lib.hid (leftL_yes (len := L.length) (by omega))
  have hls : L.length ≤ 1048576 := by omega
  have HLS := Lib.hid hls
  have d0 : decide ((1048576 : Int) - (L.length : Int) < 0) = false := by simp; omega
  clear hl hls
  go_enter Try.func4, Try.ntmps4
  go_wp2_with fail
  refine (szLs_any a _ cap 1048576 w (by omega) (by omega) HM.out).mono ?_
  rintro e w' ⟨rfl, rfl⟩
  rw [hlf.out]
  have q1 : ((ofR L key).2 != (ofR L key).2) = false := by simp
  go_wp2_with fail
  refine (toLs_any a _ cap L w HI.out rfl HLS.out).mono ?_
  rintro e w1 ⟨rfl, ho, hb1⟩
  have O1 := Lib.hid ho
  clear ho
  go_wp2_with fail
  refine (slof_any _ _ _ L key w1 O1.out.ls rfl HM.out).mono ?_
  rintro e w2 ⟨rfl, hb2⟩
  have hB2 : Below w.heap.size w w2 := hb1.trans (hb2.mono hb1.size)
  obtain ⟨W2, hW2⟩ : ∃ W, W = w2.alloc (.cells #[.int .i64 (ofR L key).1.e, .int .i64 (ofR L key).1.o, .int .i64 (ofR L key).1.u] 30) := ⟨_, rfl⟩
  have hbW2 : Below w2.heap.size w2 W2 := by rw [hW2]; exact alB _ _
  have hB2b : Below w.heap.size w W2 := hB2.trans (hbW2.mono hB2.size)
  have XW2 : Hid (W2.heap[w2.heap.size]? = some (.cells #[.int .i64 (ofR L key).1.e, .int .i64 (ofR L key).1.o, .int .i64 (ofR L key).1.u] 30 (0, 0))) := by show _ = _; rw [hW2]; exact heap_alloc_new _ _
  have HXW2 := Lib.hid hW2
  have hlW2 : w2.heap.size < W2.heap.size := by rw [hW2]; simp
  clear hW2
  go_wp2_with fail
  rw [← HXW2.out]
  refine (toLs_any a _ cap L W2 (HI.out.keepB hB2b (Nat.le_refl _)) rfl HLS.out).mono ?_
  rintro e w3 ⟨rfl, ho, hb3⟩
  have O3 := Lib.hid ho
  clear ho
  have hB3 : Below w.heap.size w w3 := hB2b.trans (hb3.mono hB2b.size)
  go_wp2_with fail
  refine (lof_any _ _ _ L key w3 O3.out.ls rfl HM.out).mono ?_
  rintro e w4 ⟨rfl, hb4⟩
  have hB4 : Below w.heap.size w w4 := hB3.trans (hb4.mono hB3.size)
  have O4 := Lib.hid (O3.out.keepB hb4 (Nat.le_refl _))
  have hbx : Below W2.heap.size W2 w4 := hb3.trans (hb4.mono hb3.size)
  have hx4 := (hbx.block w2.heap.size hlW2).trans XW2.out
  have hl4 : w2.heap.size < w4.heap.size := by have := hbx.size; omega
  have x0 : ∀ o, (w4.alloc o).cell? ⟨w2.heap.size, 0, none⟩ = some (.int .i64 (ofR L key).1.e) := fun o => ((alB w4 o).cell (p := ⟨w2.heap.size, 0, none⟩) hl4).trans (by rw [cell_of_cells hx4]; rfl)
  have x1 : ∀ o, (w4.alloc o).cell? ⟨w2.heap.size, 1, none⟩ = some (.int .i64 (ofR L key).1.o) := fun o => ((alB w4 o).cell (p := ⟨w2.heap.size, 1, none⟩) hl4).trans (by rw [cell_of_cells hx4]; rfl)
  have x2 : ∀ o, (w4.alloc o).cell? ⟨w2.heap.size, 2, none⟩ = some (.int .i64 (ofR L key).1.u) := fun o => ((alB w4 o).cell (p := ⟨w2.heap.size, 2, none⟩) hl4).trans (by rw [cell_of_cells hx4]; rfl)
  clear hx4
  obtain ⟨W4, hW4⟩ : ∃ W, W = w4.alloc (.cells #[.int .i64 (ofR L key).1.e, .int .i64 (ofR L key).1.o, .int .i64 (ofR L key).1.u] 30) := ⟨_, rfl⟩
  have hbW4 : Below w4.heap.size w4 W4 := by rw [hW4]; exact alB _ _
  have hB4b : Below w.heap.size w W4 := hB4.trans (hbW4.mono hB4.size)
  have XW4 : Hid (W4.heap[w4.heap.size]? = some (.cells #[.int .i64 (ofR L key).1.e, .int .i64 (ofR L key).1.o, .int .i64 (ofR L key).1.u] 30 (0, 0))) := by show _ = _; rw [hW4]; exact heap_alloc_new _ _
  have HXW4 := Lib.hid hW4
  have hlW4 : w4.heap.size < W4.heap.size := by rw [hW4]; simp
  clear hW4
  have O4b := Lib.hid (O4.out.keepB hbW4 (Nat.le_refl _))
  go_wp2_with fail
  rw [← HXW4.out]
  refine (eqLease_same (ofR L key).1 W4).mono ?_
  rintro e w5 ⟨rfl, hb5⟩
  clear x0 x1 x2
  have hB5 : Below w.heap.size w w5 := hB4b.trans (hb5.mono hB4b.size)
  have O5 := Lib.hid (O4b.out.keepB hb5 (Nat.le_refl _))
  go_wp2_with fail
  refine (toLs_any a _ cap L w5 (HI.out.keepB hB5 (Nat.le_refl _)) rfl HLS.out).mono ?_
  rintro e w6 ⟨rfl, ho, hb6⟩
  have O6b := Lib.hid ho
  clear ho
  have hB6 : Below w.heap.size w w6 := hB5.trans (hb6.mono hB5.size)
  go_wp2_with fail
  refine (eqLs_same _ _ _ _ _ L w6 (O5.out.keepB hb6 (Nat.le_refl _)).ls O6b.out.ls rfl HLS.out).mono ?_
  rintro e w7 ⟨rfl, hb7⟩
  go_wp2
  go_ret
  exact ⟨rfl, hB6.trans (hb7.mono hB6.size)⟩

set_option maxHeartbeats 2000000 in
theorem exKeys (a : Option Addr) (len cap : Nat) (L : List Ls) (ow : Int) (w : World) (hz : L.length = len) (h : LsAt w a L) (hm : len ≤ maxLen) :
    Calls Try.prog 7 #[.slice a len cap, .int .i64 ow] w fun e w' => e = .returned (.bool true) ∧ Below w.heap.size w w' := by
  have HM := Lib.hid hm
  have HI := Lib.hid h
  clear hm h
  by_cases hl : 1048576 < len
  · have hlf := Lib.hid (leftL_no hl)
    clear hz hl
    go_enter Try.func7, Try.ntmps7
    go_wp2_with fail
    refine (szLs_any a _ cap 1048576 w (by omega) (by omega) HM.out).mono ?_
    rintro e w' ⟨rfl, rfl⟩
    rw [hlf.out]
    go_wp2
    go_ret
    exact ⟨rfl, Below.refl _ _⟩
  subst hz
  have hlf := Lib.hid (leftL_yes (len := L.length) (by omega))
  have hls : L.length ≤ 1048576 := by omega
  have HLS := Lib.hid hls
  have d0 : decide ((1048576 : Int) - (L.length : Int) < 0) = false := by simp; omega
  clear hl hls
  go_enter Try.func7, Try.ntmps7
  go_wp2_with fail
  refine (szLs_any a _ cap 1048576 w (by omega) (by omega) HM.out).mono ?_
  rintro e w' ⟨rfl, rfl⟩
  rw [hlf.out]
  have q1 : (keysI L ow != keysI L ow) = false := by simp
  go_wp2_with fail
  refine (toLs_any a _ cap L w HI.out rfl HLS.out).mono ?_
  rintro e w1 ⟨rfl, ho, hb1⟩
  have O1 := Lib.hid ho
  clear ho
  go_wp2_with fail
  refine (skeys_any _ _ _ L ow w1 O1.out.ls rfl HM.out).mono ?_
  rintro e w2 ⟨rfl, hb2⟩
  have hB2 : Below w.heap.size w w2 := hb1.trans (hb2.mono hb1.size)
  go_wp2_with fail
  refine (toLs_any a _ cap L w2 (HI.out.keepB hB2 (Nat.le_refl _)) rfl HLS.out).mono ?_
  rintro e w3 ⟨rfl, ho, hb3⟩
  have O3 := Lib.hid ho
  clear ho
  have hB3 : Below w.heap.size w w3 := hB2.trans (hb3.mono hB2.size)
  go_wp2_with fail
  refine (keys_any _ _ _ L ow w3 O3.out.ls rfl HM.out).mono ?_
  rintro e w4 ⟨rfl, hb4⟩
  have hB4 : Below w.heap.size w w4 := hB3.trans (hb4.mono hB3.size)
  have O4 := Lib.hid (O3.out.keepB hb4 (Nat.le_refl _))
  go_wp2_with fail
  refine (toLs_any a _ cap L w4 (HI.out.keepB hB4 (Nat.le_refl _)) rfl HLS.out).mono ?_
  rintro e w5 ⟨rfl, ho, hb5⟩
  have O5b := Lib.hid ho
  clear ho
  have hB5 : Below w.heap.size w w5 := hB4.trans (hb5.mono hB4.size)
  go_wp2_with fail
  refine (eqLs_same _ _ _ _ _ L w5 (O4.out.keepB hb5 (Nat.le_refl _)).ls O5b.out.ls rfl HLS.out).mono ?_
  rintro e w6 ⟨rfl, hb6⟩
  go_wp2
  go_ret
  exact ⟨rfl, hB5.trans (hb6.mono hB5.size)⟩

set_option maxHeartbeats 2000000 in
theorem exRenew (a : Option Addr) (len cap : Nat) (L : List Ls) (ow now ut : Int) (w : World) (hz : L.length = len) (h : LsAt w a L) (hm : len ≤ maxLen) :
    Calls Try.prog 5 #[.slice a len cap, .int .i64 ow, .int .i64 now, .int .i64 ut] w fun e w' => e = .returned (.bool true) ∧ Below w.heap.size w w' := by
  have HM := Lib.hid hm
  have HI := Lib.hid h
  clear hm h
  by_cases hl : 1048576 < len
  · have hlf := Lib.hid (leftL_no hl)
    clear hz hl
    go_enter Try.func5, Try.ntmps5
    go_wp2_with fail
    refine (szLs_any a _ cap 1048576 w (by omega) (by omega) HM.out).mono ?_
    rintro e w' ⟨rfl, rfl⟩
    rw [hlf.out]
    go_wp2
    go_ret
    exact ⟨rfl, Below.refl _ _⟩
  subst hz
  have hlf := Lib.hid (leftL_yes (len := L.length) (by omega))
  have hls : L.length ≤ 1048576 := by omega
  have HLS := Lib.hid hls
  have d0 : decide ((1048576 : Int) - (L.length : Int) < 0) = false := by simp; omega
  clear hl hls
  go_enter Try.func5, Try.ntmps5
  go_wp2_with fail
  refine (szLs_any a _ cap 1048576 w (by omega) (by omega) HM.out).mono ?_
  rintro e w' ⟨rfl, rfl⟩
  rw [hlf.out]
  have hsm : Hid ((renR L ow now ut).1.length ≤ 1048576) := by show _ ≤ 1048576; have := renR_len L ow now ut; omega
  have q1 : ((renR L ow now ut).2 != (renR L ow now ut).2) = false := by simp
  go_wp2_with fail
  refine (toLs_any a _ cap L w HI.out rfl HLS.out).mono ?_
  rintro e w1 ⟨rfl, ho, hb1⟩
  have O1 := Lib.hid ho
  clear ho
  go_wp2_with fail
  refine (srenew_any _ _ _ L ow now ut w1 O1.out.ls rfl HM.out).mono ?_
  rintro e w3 ⟨gw, cw, rfl, ho, hb3⟩
  have hB3 : Below w.heap.size w w3 := hb1.trans (hb3.mono hb1.size)
  have hgw := ho.blk.2.1
  have S3 := Lib.hid ho
  clear ho
  go_wp2_with fail
  refine (toLs_any a _ cap L w3 (HI.out.keepB hB3 (Nat.le_refl _)) rfl HLS.out).mono ?_
  rintro e w4 ⟨rfl, ho, hb4⟩
  have X4 := Lib.hid ho
  clear ho
  have hB4 : Below w.heap.size w w4 := hB3.trans (hb4.mono hB3.size)
  have S4 := Lib.hid (S3.out.keepB hb4 (Nat.le_refl _))
  have hx4 := X4.out.blk.2.1
  go_wp2_with fail
  refine (renew_any _ _ _ L ow now ut w4 X4.out.ls rfl HM.out).mono ?_
  rintro e w5 ⟨gg, cg, rfl, ho, hb5⟩
  have hB5 : Below w.heap.size w w5 := hB4.trans (hb5.mono hB4.size)
  have hgg := ho.blk.1
  have hgl := ho.blk.2.1
  have G5 := Lib.hid ho
  clear ho
  have S5 := Lib.hid (S4.out.keepB hb5 (Nat.le_refl _))
  have X5 := Lib.hid (X4.out.keepB hb5 (Nat.le_refl _))
  go_wp2_with fail
  refine (eqLs_same _ _ _ _ _ (renR L ow now ut).1 w5 G5.out.ls S5.out.ls rfl hsm.out).mono ?_
  rintro e w6 ⟨rfl, hb6⟩
  have hB6 : Below w.heap.size w w6 := hB5.trans (hb6.mono hB5.size)
  have S6 := Lib.hid (S5.out.keepB hb6 (Nat.le_refl _))
  have X6 := Lib.hid (X5.out.keepB hb6 (Nat.le_refl _))
  have G6 := Lib.hid (G5.out.keepB hb6 (Nat.le_refl _))
  go_wp2_with fail
  refine (toLs_any a _ cap L w6 (HI.out.keepB hB6 (Nat.le_refl _)) rfl HLS.out).mono ?_
  rintro e w7 ⟨rfl, ho, hb7⟩
  have O7 := Lib.hid ho
  clear ho
  have hB7 : Below w.heap.size w w7 := hB6.trans (hb7.mono hB6.size)
  have S7 := Lib.hid (S6.out.keepB hb7 (Nat.le_refl _))
  have X7 := Lib.hid (X6.out.keepB hb7 (Nat.le_refl _))
  have G7 := Lib.hid (G6.out.keepB hb7 (Nat.le_refl _))
  go_wp2_with fail
  refine (eqLs_same _ _ _ _ _ L w7 X7.out.ls O7.out.ls rfl HLS.out).mono ?_
  rintro e w8 ⟨rfl, hb8⟩
  have hB8 : Below w.heap.size w w8 := hB7.trans (hb8.mono hB7.size)
  have S8 := Lib.hid (S7.out.keepB hb8 (Nat.le_refl _))
  have X8 := Lib.hid (X7.out.keepB hb8 (Nat.le_refl _))
  have G8 := Lib.hid (G7.out.keepB hb8 (Nat.le_refl _))
  go_wp2_with fail
  refine (markLs_any _ _ _ _ L 1 w8 X8.out rfl (by omega) (by omega) HLS.out).mono ?_
  rintro e w9 ⟨rfl, _, hk9⟩
  have hB9 : Below w.heap.size w w9 := hB8.trans (hk9.below hB3.size)
  have S9 := Lib.hid (S8.out.kept (hk9.block _ (by omega)))
  have G9 := Lib.hid (G8.out.kept (hk9.block _ (by omega)))
  have k0 : decide ((1 : Int) + 3 * (L.length : Int) < 0) = false := by simp; omega
  go_wp2_with fail
  clear k0
  refine (eqLs_same _ _ _ _ _ (renR L ow now ut).1 w9 G9.out.ls S9.out.ls rfl hsm.out).mono ?_
  rintro e w10 ⟨rfl, hb10⟩
  have hB10 : Below w.heap.size w w10 := hB9.trans (hb10.mono hB9.size)
  have S10 := Lib.hid (S9.out.keepB hb10 (Nat.le_refl _))
  have G10 := Lib.hid (G9.out.keepB hb10 (Nat.le_refl _))
  go_wp2_with fail
  refine (markLs_any _ _ _ _ (renR L ow now ut).1 1 w10 G10.out rfl (by omega) (by omega) hsm.out).mono ?_
  rintro e w11 ⟨rfl, ho, hk11⟩
  have hB11 : Below w.heap.size w w11 := hB10.trans (hk11.below (by have := hB4.size; omega))
  have G11 := Lib.hid ho
  clear ho
  have S11 := Lib.hid (S10.out.kept (hk11.block _ (by omega)))
  go_wp2_with fail
  refine (heldLs_any _ _ _ (renR L ow now ut).1 1 w11 G11.out.ls rfl (by omega) (by omega) hsm.out).mono ?_
  rintro e w12 ⟨rfl, hs12⟩
  have hb12 := hs12.below w11.heap.size
  have hB12 : Below w.heap.size w w12 := hB11.trans (hb12.mono hB11.size)
  have S12 := Lib.hid (S11.out.keepB hb12 (Nat.le_refl _))
  have G12 := Lib.hid (G11.out.keepB hb12 (Nat.le_refl _))
  have r0 : decide ((1 : Int) + 3 * ((renR L ow now ut).1.length : Int) < 0) = false := by simp; omega
  have r1 : (((1 : Int) + 3 * ((renR L ow now ut).1.length : Int)) != ((1 : Int) + 3 * ((renR L ow now ut).1.length : Int))) = false := by simp
  go_wp2_with fail
  refine (toLs_any a _ cap L w12 (HI.out.keepB hB12 (Nat.le_refl _)) rfl HLS.out).mono ?_
  rintro e w13 ⟨rfl, ho, hb13⟩
  have O13 := Lib.hid ho
  clear ho
  have hB13 : Below w.heap.size w w13 := hB12.trans (hb13.mono hB12.size)
  have S13 := Lib.hid (S12.out.keepB hb13 (Nat.le_refl _))
  have G13 := Lib.hid (G12.out.keepB hb13 (Nat.le_refl _))
  go_wp2_with fail
  refine (renew_any _ _ _ L ow now ut w13 O13.out.ls rfl HM.out).mono ?_
  rintro e w14 ⟨gh, ch, rfl, ho, hb14⟩
  have hB14 : Below w.heap.size w w14 := hB13.trans (hb14.mono hB13.size)
  have H14 := Lib.hid ho
  clear ho
  have S14 := Lib.hid (S13.out.keepB hb14 (Nat.le_refl _))
  have G14 := Lib.hid (G13.out.keepB hb14 (Nat.le_refl _))
  go_wp2_with fail
  refine (eqLs_same _ _ _ _ _ (renR L ow now ut).1 w14 H14.out.ls S14.out.ls rfl hsm.out).mono ?_
  rintro e w15 ⟨rfl, hb15⟩
  have hB15 : Below w.heap.size w w15 := hB14.trans (hb15.mono hB14.size)
  have G15 := Lib.hid (G14.out.keepB hb15 (Nat.le_refl _))
  go_wp2_with fail
  refine (heldLs_any _ _ _ (renR L ow now ut).1 1 w15 G15.out.ls rfl (by omega) (by omega) hsm.out).mono ?_
  rintro e w16 ⟨rfl, hs16⟩
  go_wp2
  go_ret
  exact ⟨rfl, hB15.trans (hs16.below _)⟩

set_option maxHeartbeats 2000000 in
theorem exMerge (a : Option Addr) (len cap : Nat) (L : List Ls) (w : World) (hz : L.length = len) (h : LsAt w a L) (hm : len ≤ maxLen) :
    Calls Try.prog 6 #[.slice a len cap] w fun e w' => e = .returned (.bool true) ∧ Below w.heap.size w w' := by
  have HM := Lib.hid hm
  have HI := Lib.hid h
  clear hm h
  by_cases hl : 1048576 < len
  · have hlf := Lib.hid (leftL_no hl)
    clear hz hl
    go_enter Try.func6, Try.ntmps6
    go_wp2_with fail
    refine (szLs_any a _ cap 1048576 w (by omega) (by omega) HM.out).mono ?_
    rintro e w' ⟨rfl, rfl⟩
    rw [hlf.out]
    go_wp2
    go_ret
    exact ⟨rfl, Below.refl _ _⟩
  subst hz
  have hlf := Lib.hid (leftL_yes (len := L.length) (by omega))
  have hls : L.length ≤ 1048576 := by omega
  have HLS := Lib.hid hls
  have d0 : decide ((1048576 : Int) - (L.length : Int) < 0) = false := by simp; omega
  clear hl hls
  go_enter Try.func6, Try.ntmps6
  go_wp2_with fail
  refine (szLs_any a _ cap 1048576 w (by omega) (by omega) HM.out).mono ?_
  rintro e w' ⟨rfl, rfl⟩
  rw [hlf.out]
  have hsm : Hid ((mgR L).length ≤ 1048576) := by show _ ≤ 1048576; have := mgR_len L; omega
  go_wp2_with fail
  refine (toLs_any a _ cap L w HI.out rfl HLS.out).mono ?_
  rintro e w1 ⟨rfl, ho, hb1⟩
  have O1 := Lib.hid ho
  clear ho
  go_wp2_with fail
  refine (smerge_any _ _ _ L w1 O1.out.ls rfl HM.out).mono ?_
  rintro e w3 ⟨gw, cw, rfl, ho, hb3⟩
  have hB3 : Below w.heap.size w w3 := hb1.trans (hb3.mono hb1.size)
  have hgw := ho.blk.2.1
  have S3 := Lib.hid ho
  clear ho
  go_wp2_with fail
  refine (toLs_any a _ cap L w3 (HI.out.keepB hB3 (Nat.le_refl _)) rfl HLS.out).mono ?_
  rintro e w4 ⟨rfl, ho, hb4⟩
  have X4 := Lib.hid ho
  clear ho
  have hB4 : Below w.heap.size w w4 := hB3.trans (hb4.mono hB3.size)
  have S4 := Lib.hid (S3.out.keepB hb4 (Nat.le_refl _))
  have hx4 := X4.out.blk.2.1
  go_wp2_with fail
  refine (merge_any _ _ _ L w4 X4.out.ls rfl HM.out).mono ?_
  rintro e w5 ⟨gg, cg, rfl, ho, hb5⟩
  have hB5 : Below w.heap.size w w5 := hB4.trans (hb5.mono hB4.size)
  have hgg := ho.blk.1
  have hgl := ho.blk.2.1
  have G5 := Lib.hid ho
  clear ho
  have S5 := Lib.hid (S4.out.keepB hb5 (Nat.le_refl _))
  have X5 := Lib.hid (X4.out.keepB hb5 (Nat.le_refl _))
  go_wp2_with fail
  refine (eqLs_same _ _ _ _ _ (mgR L) w5 G5.out.ls S5.out.ls rfl hsm.out).mono ?_
  rintro e w6 ⟨rfl, hb6⟩
  have hB6 : Below w.heap.size w w6 := hB5.trans (hb6.mono hB5.size)
  have S6 := Lib.hid (S5.out.keepB hb6 (Nat.le_refl _))
  have X6 := Lib.hid (X5.out.keepB hb6 (Nat.le_refl _))
  have G6 := Lib.hid (G5.out.keepB hb6 (Nat.le_refl _))
  go_wp2_with fail
  refine (toLs_any a _ cap L w6 (HI.out.keepB hB6 (Nat.le_refl _)) rfl HLS.out).mono ?_
  rintro e w7 ⟨rfl, ho, hb7⟩
  have O7 := Lib.hid ho
  clear ho
  have hB7 : Below w.heap.size w w7 := hB6.trans (hb7.mono hB6.size)
  have S7 := Lib.hid (S6.out.keepB hb7 (Nat.le_refl _))
  have X7 := Lib.hid (X6.out.keepB hb7 (Nat.le_refl _))
  have G7 := Lib.hid (G6.out.keepB hb7 (Nat.le_refl _))
  go_wp2_with fail
  refine (eqLs_same _ _ _ _ _ L w7 X7.out.ls O7.out.ls rfl HLS.out).mono ?_
  rintro e w8 ⟨rfl, hb8⟩
  have hB8 : Below w.heap.size w w8 := hB7.trans (hb8.mono hB7.size)
  have S8 := Lib.hid (S7.out.keepB hb8 (Nat.le_refl _))
  have X8 := Lib.hid (X7.out.keepB hb8 (Nat.le_refl _))
  have G8 := Lib.hid (G7.out.keepB hb8 (Nat.le_refl _))
  go_wp2_with fail
  refine (markLs_any _ _ _ _ L 1 w8 X8.out rfl (by omega) (by omega) HLS.out).mono ?_
  rintro e w9 ⟨rfl, _, hk9⟩
  have hB9 : Below w.heap.size w w9 := hB8.trans (hk9.below hB3.size)
  have S9 := Lib.hid (S8.out.kept (hk9.block _ (by omega)))
  have G9 := Lib.hid (G8.out.kept (hk9.block _ (by omega)))
  have k0 : decide ((1 : Int) + 3 * (L.length : Int) < 0) = false := by simp; omega
  go_wp2_with fail
  clear k0
  refine (eqLs_same _ _ _ _ _ (mgR L) w9 G9.out.ls S9.out.ls rfl hsm.out).mono ?_
  rintro e w10 ⟨rfl, hb10⟩
  have hB10 : Below w.heap.size w w10 := hB9.trans (hb10.mono hB9.size)
  have S10 := Lib.hid (S9.out.keepB hb10 (Nat.le_refl _))
  have G10 := Lib.hid (G9.out.keepB hb10 (Nat.le_refl _))
  go_wp2_with fail
  refine (markLs_any _ _ _ _ (mgR L) 1 w10 G10.out rfl (by omega) (by omega) hsm.out).mono ?_
  rintro e w11 ⟨rfl, ho, hk11⟩
  have hB11 : Below w.heap.size w w11 := hB10.trans (hk11.below (by have := hB4.size; omega))
  have G11 := Lib.hid ho
  clear ho
  have S11 := Lib.hid (S10.out.kept (hk11.block _ (by omega)))
  go_wp2_with fail
  refine (heldLs_any _ _ _ (mgR L) 1 w11 G11.out.ls rfl (by omega) (by omega) hsm.out).mono ?_
  rintro e w12 ⟨rfl, hs12⟩
  have hb12 := hs12.below w11.heap.size
  have hB12 : Below w.heap.size w w12 := hB11.trans (hb12.mono hB11.size)
  have S12 := Lib.hid (S11.out.keepB hb12 (Nat.le_refl _))
  have G12 := Lib.hid (G11.out.keepB hb12 (Nat.le_refl _))
  have r0 : decide ((1 : Int) + 3 * ((mgR L).length : Int) < 0) = false := by simp; omega
  have r1 : (((1 : Int) + 3 * ((mgR L).length : Int)) != ((1 : Int) + 3 * ((mgR L).length : Int))) = false := by simp
  go_wp2_with fail
  refine (toLs_any a _ cap L w12 (HI.out.keepB hB12 (Nat.le_refl _)) rfl HLS.out).mono ?_
  rintro e w13 ⟨rfl, ho, hb13⟩
  have O13 := Lib.hid ho
  clear ho
  have hB13 : Below w.heap.size w w13 := hB12.trans (hb13.mono hB12.size)
  have S13 := Lib.hid (S12.out.keepB hb13 (Nat.le_refl _))
  have G13 := Lib.hid (G12.out.keepB hb13 (Nat.le_refl _))
  go_wp2_with fail
  refine (merge_any _ _ _ L w13 O13.out.ls rfl HM.out).mono ?_
  rintro e w14 ⟨gh, ch, rfl, ho, hb14⟩
  have hB14 : Below w.heap.size w w14 := hB13.trans (hb14.mono hB13.size)
  have H14 := Lib.hid ho
  clear ho
  have S14 := Lib.hid (S13.out.keepB hb14 (Nat.le_refl _))
  have G14 := Lib.hid (G13.out.keepB hb14 (Nat.le_refl _))
  go_wp2_with fail
  refine (eqLs_same _ _ _ _ _ (mgR L) w14 H14.out.ls S14.out.ls rfl hsm.out).mono ?_
  rintro e w15 ⟨rfl, hb15⟩
  have hB15 : Below w.heap.size w w15 := hB14.trans (hb15.mono hB14.size)
  have G15 := Lib.hid (G14.out.keepB hb15 (Nat.le_refl _))
  go_wp2_with fail
  refine (heldLs_any _ _ _ (mgR L) 1 w15 G15.out.ls rfl (by omega) (by omega) hsm.out).mono ?_
  rintro e w16 ⟨rfl, hs16⟩
  go_wp2
  go_ret
  exact ⟨rfl, hB15.trans (hs16.below _)⟩

end Go.Proofs.Ytoaamamconcieaa
