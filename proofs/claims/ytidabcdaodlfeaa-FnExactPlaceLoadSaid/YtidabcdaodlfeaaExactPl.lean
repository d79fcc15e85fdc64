/- The walks of the exact laws of placement. -/
import Derived.Test.YtidabcdaodlfeaaPlP
import Derived.Test.YtidabcdaodlfeaaPlR
namespace Go.Proofs.Ytidabcdaodlfeaa
open Go.RowKit
set_option linter.unusedVariables false
attribute [local go_sem ↓] Go.wp_at_zero Go.wp_at_succ

theorem leftK_no {len : Nat} (h : 1048576 < len) : leftK 1048576 len = -1 := by unfold leftK; rw [if_pos (by omega)]
theorem leftK_yes {len : Nat} (h : len ≤ 1048576) : leftK 1048576 len = 1048576 - len := by unfold leftK; rw [if_neg (by omega)]
theorem leftK_no2 {l : Int} {len : Nat} (h : l < len) : leftK l len = -1 := by unfold leftK; rw [if_pos (by omega)]
theorem leftK_yes2 {l : Int} {len : Nat} (h : (len : Int) ≤ l) : leftK l len = l - len := by unfold leftK; rw [if_neg (by omega)]

set_option maxHeartbeats 4000000 in
theorem exTokensOf (n wt : Int) (w : World) :
    Calls Try.prog 12 #[.int .i64 n, .int .i64 wt] w fun e w' => e = .returned (.bool true) ∧ Below w.heap.size w w' := by
  have hsm : Hid ((tkR n wt).length ≤ 1048576) := by show _ ≤ 1048576; have := tkR_len n wt; omega
  go_enter Try.func12, Try.ntmps12
  go_wp2_with fail
  refine (stoks_any n wt w).mono ?_
  rintro e w1 ⟨gw, cw, rfl, how, hb1⟩
  have hB1 : Below w.heap.size w w1 := hb1
  have sz1 := hb1.size
  have S1 := Lib.hid how.ints
  have hgw := how.lt.2
  clear how
  go_wp2_with fail
  refine (ptoks_any n wt w1).mono ?_
  rintro e w2 ⟨ag, cg, rfl, ho, hb2⟩
  have hB2 : Below w.heap.size w w2 := hB1.trans (hb2.mono hB1.size)
  have sz2 := hb2.size
  have S2 := Lib.hid (S1.out.keepB hb2 (Nat.le_refl _))
  have G2 := Lib.hid ho
  clear ho
  have hgb : w.heap.size ≤ w1.heap.size := hB1.size
  go_wp2_with fail
  refine (eqInts_same _ _ _ _ _ (tkR n wt) w2 G2.out.ints S2.out rfl hsm.out).mono ?_
  rintro e w3 ⟨rfl, hs3⟩
  have hb3 := hs3.below w2.heap.size
  have hB3 : Below w.heap.size w w3 := hB2.trans (hb3.mono hB2.size)
  have sz3 := hb3.size
  have S3 := Lib.hid (S2.out.keepB hb3 (Nat.le_refl _))
  have G3 := Lib.hid (G2.out.keepB hb3 (Nat.le_refl _))
  go_wp2_with fail
  refine (markZ_any _ _ _ _ (tkR n wt) 1 w3 G3.out rfl (by omega) (by omega) hsm.out).mono ?_
  rintro e w4 ⟨rfl, hmk, hk⟩
  have hB4 : Below w.heap.size w w4 := hB3.trans (hk.mono hgb)
  have sz4 := hk.size
  have S4 := Lib.hid (S3.out.blk (hk.block _ (by omega)))
  have G4 := Lib.hid hmk
  clear hmk
  have r0 : decide ((1 : Int) + ((tkR n wt).length : Int) < 0) = false := by simp; omega
  have r1 : (((1 : Int) + ((tkR n wt).length : Int)) != ((1 : Int) + ((tkR n wt).length : Int))) = false := by simp
  go_wp2_with fail
  refine (heldInts_any _ _ _ 1 w4 G4.out (by omega) (by omega) hsm.out).mono ?_
  rintro e w5 ⟨rfl, hs5⟩
  have hb5 := hs5.below w4.heap.size
  have hB5 : Below w.heap.size w w5 := hB4.trans (hb5.mono hB4.size)
  have sz5 := hb5.size
  have S5 := Lib.hid (S4.out.keepB hb5 (Nat.le_refl _))
  have G5 := Lib.hid (G4.out.keepB hb5 (Nat.le_refl _))
  go_wp2_with fail
  refine (ptoks_any n wt w5).mono ?_
  rintro e w6 ⟨ah, ch, rfl, ho, hb6⟩
  have hB6 : Below w.heap.size w w6 := hB5.trans (hb6.mono hB5.size)
  have sz6 := hb6.size
  have S6 := Lib.hid (S5.out.keepB hb6 (Nat.le_refl _))
  have G6 := Lib.hid (G5.out.keepB hb6 (Nat.le_refl _))
  have H6 := Lib.hid ho
  clear ho
  go_wp2_with fail
  refine (eqInts_same _ _ _ _ _ (tkR n wt) w6 H6.out.ints S6.out rfl hsm.out).mono ?_
  rintro e w7 ⟨rfl, hs7⟩
  have hb7 := hs7.below w6.heap.size
  have hB7 : Below w.heap.size w w7 := hB6.trans (hb7.mono hB6.size)
  have sz7 := hb7.size
  have S7 := Lib.hid (S6.out.keepB hb7 (Nat.le_refl _))
  have G7 := Lib.hid (G6.out.keepB hb7 (Nat.le_refl _))
  have H7 := Lib.hid (H6.out.keepB hb7 (Nat.le_refl _))
  go_wp2_with fail
  refine (heldInts_any _ _ _ 1 w7 G7.out (by omega) (by omega) hsm.out).mono ?_
  rintro e wz ⟨rfl, hsz⟩
  go_wp2
  go_ret
  exact ⟨rfl, hB7.trans (hsz.below _)⟩

set_option maxHeartbeats 4000000 in
theorem exPlaceOwner (a : Option Addr) (len cap : Nat) (L : List Tk) (key : Int) (w : World) (hz : L.length = len) (h : TkAt w a L) (hm : len ≤ maxLen) :
    Calls Try.prog 14 #[.slice a len cap, .int .i64 key] w fun e w' => e = .returned (.bool true) ∧ Below w.heap.size w w' := by
  have HM := Lib.hid hm
  have HI := Lib.hid h
  clear hm h
  by_cases hl : 1048576 < len
  · have hlf := Lib.hid (leftK_no hl)
    clear hz hl
    go_enter Try.func14, Try.ntmps14
    go_wp2_with fail
    refine (szTk_any a _ cap 1048576 w (by omega) (by omega) HM.out).mono ?_
    rintro e w' ⟨rfl, rfl⟩
    rw [hlf.out]
    go_wp2
    go_ret
    exact ⟨rfl, Below.refl _ _⟩
  subst hz
  have hlf := Lib.hid (leftK_yes (len := L.length) (by omega))
  have HLS : Hid (L.length ≤ 1048576) := by show _ ≤ _; omega
  have d0 : decide ((1048576 : Int) - (L.length : Int) < 0) = false := by simp; omega
  clear hl
  go_enter Try.func14, Try.ntmps14
  go_wp2_with fail
  refine (szTk_any a _ cap 1048576 w (by omega) (by omega) HM.out).mono ?_
  rintro e w' ⟨rfl, rfl⟩
  rw [hlf.out]
  have q1 : ((ownR L key) != (ownR L key)) = false := by simp
  go_wp2_with fail
  refine (toTk_any a _ cap L w HI.out rfl HLS.out).mono ?_
  rintro e w1 ⟨rfl, ho, hb1⟩
  have hB1 : Below w.heap.size w w1 := hb1
  have sz1 := hb1.size
  have A1 := Lib.hid ho
  clear ho
  go_wp2_with fail
  refine (sown_any _ _ _ L key w1 A1.out.tk rfl HM.out).mono ?_
  rintro e w2 ⟨rfl, hs2⟩
  have hb2 := hs2.below w1.heap.size
  have hB2 : Below w.heap.size w w2 := hB1.trans (hb2.mono hB1.size)
  have sz2 := hb2.size
  have A2 := Lib.hid (A1.out.keepB hb2 (Nat.le_refl _))
  go_wp2_with fail
  refine (toTk_any a _ cap L w2 (HI.out.keepB hB2 (Nat.le_refl _)) rfl HLS.out).mono ?_
  rintro e w3 ⟨rfl, ho, hb3⟩
  have hB3 : Below w.heap.size w w3 := hB2.trans (hb3.mono hB2.size)
  have sz3 := hb3.size
  have X3 := Lib.hid ho
  clear ho
  go_wp2_with fail
  refine (pown_any _ _ _ L key w3 X3.out.tk rfl HM.out).mono ?_
  rintro e w4 ⟨rfl, hb4⟩
  have hB4 : Below w.heap.size w w4 := hB3.trans (hb4.mono hB3.size)
  have sz4 := hb4.size
  have X4 := Lib.hid (X3.out.keepB hb4 (Nat.le_refl _))
  go_wp2_with fail
  refine (toTk_any a _ cap L w4 (HI.out.keepB hB4 (Nat.le_refl _)) rfl HLS.out).mono ?_
  rintro e w5 ⟨rfl, ho, hb5⟩
  have hB5 : Below w.heap.size w w5 := hB4.trans (hb5.mono hB4.size)
  have sz5 := hb5.size
  have X5 := Lib.hid (X4.out.keepB hb5 (Nat.le_refl _))
  have B5 := Lib.hid ho
  clear ho
  go_wp2_with fail
  refine (eqTk_same _ _ _ _ _ L w5 X5.out.tk B5.out.tk rfl HLS.out).mono ?_
  rintro e w6 ⟨rfl, hb6⟩
  have hB6 : Below w.heap.size w w6 := hB5.trans (hb6.mono hB5.size)
  have sz6 := hb6.size
  have X6 := Lib.hid (X5.out.keepB hb6 (Nat.le_refl _))
  have B6 := Lib.hid (B5.out.keepB hb6 (Nat.le_refl _))
  go_wp2
  go_ret
  exact ⟨rfl, hB6⟩

set_option maxHeartbeats 4000000 in
theorem exPlaceLoad (a : Option Addr) (len cap : Nat) (L : List Tk) (key : Int) (w : World) (hz : L.length = len) (h : TkAt w a L) (hm : len ≤ maxLen) :
    Calls Try.prog 15 #[.slice a len cap, .int .i64 key] w fun e w' => e = .returned (.bool true) ∧ Below w.heap.size w w' := by
  have HM := Lib.hid hm
  have HI := Lib.hid h
  clear hm h
  by_cases hl : 1048576 < len
  · have hlf := Lib.hid (leftK_no hl)
    clear hz hl
    go_enter Try.func15, Try.ntmps15
    go_wp2_with fail
    refine (szTk_any a _ cap 1048576 w (by omega) (by omega) HM.out).mono ?_
    rintro e w' ⟨rfl, rfl⟩
    rw [hlf.out]
    go_wp2
    go_ret
    exact ⟨rfl, Below.refl _ _⟩
  subst hz
  have hlf := Lib.hid (leftK_yes (len := L.length) (by omega))
  have HLS : Hid (L.length ≤ 1048576) := by show _ ≤ _; omega
  have d0 : decide ((1048576 : Int) - (L.length : Int) < 0) = false := by simp; omega
  clear hl
  go_enter Try.func15, Try.ntmps15
  go_wp2_with fail
  refine (szTk_any a _ cap 1048576 w (by omega) (by omega) HM.out).mono ?_
  rintro e w' ⟨rfl, rfl⟩
  rw [hlf.out]
  have q1 : ((ldR L key) != (ldR L key)) = false := by simp
  go_wp2_with fail
  refine (toTk_any a _ cap L w HI.out rfl HLS.out).mono ?_
  rintro e w1 ⟨rfl, ho, hb1⟩
  have hB1 : Below w.heap.size w w1 := hb1
  have sz1 := hb1.size
  have A1 := Lib.hid ho
  clear ho
  go_wp2_with fail
  refine (sload_any _ _ _ L key w1 A1.out.tk rfl HM.out).mono ?_
  rintro e w2 ⟨rfl, hs2⟩
  have hb2 := hs2.below w1.heap.size
  have hB2 : Below w.heap.size w w2 := hB1.trans (hb2.mono hB1.size)
  have sz2 := hb2.size
  have A2 := Lib.hid (A1.out.keepB hb2 (Nat.le_refl _))
  go_wp2_with fail
  refine (toTk_any a _ cap L w2 (HI.out.keepB hB2 (Nat.le_refl _)) rfl HLS.out).mono ?_
  rintro e w3 ⟨rfl, ho, hb3⟩
  have hB3 : Below w.heap.size w w3 := hB2.trans (hb3.mono hB2.size)
  have sz3 := hb3.size
  have X3 := Lib.hid ho
  clear ho
  go_wp2_with fail
  refine (pload_any _ _ _ L key w3 X3.out.tk rfl HM.out).mono ?_
  rintro e w4 ⟨rfl, hb4⟩
  have hB4 : Below w.heap.size w w4 := hB3.trans (hb4.mono hB3.size)
  have sz4 := hb4.size
  have X4 := Lib.hid (X3.out.keepB hb4 (Nat.le_refl _))
  go_wp2_with fail
  refine (toTk_any a _ cap L w4 (HI.out.keepB hB4 (Nat.le_refl _)) rfl HLS.out).mono ?_
  rintro e w5 ⟨rfl, ho, hb5⟩
  have hB5 : Below w.heap.size w w5 := hB4.trans (hb5.mono hB4.size)
  have sz5 := hb5.size
  have X5 := Lib.hid (X4.out.keepB hb5 (Nat.le_refl _))
  have B5 := Lib.hid ho
  clear ho
  go_wp2_with fail
  refine (eqTk_same _ _ _ _ _ L w5 X5.out.tk B5.out.tk rfl HLS.out).mono ?_
  rintro e w6 ⟨rfl, hb6⟩
  have hB6 : Below w.heap.size w w6 := hB5.trans (hb6.mono hB5.size)
  have sz6 := hb6.size
  have X6 := Lib.hid (X5.out.keepB hb6 (Nat.le_refl _))
  have B6 := Lib.hid (B5.out.keepB hb6 (Nat.le_refl _))
  go_wp2
  go_ret
  exact ⟨rfl, hB6⟩

set_option maxHeartbeats 4000000 in
theorem exPlaceMoved (a b : Option Addr) (len cap len2 cap2 : Nat) (A B : List Tk) (w : World) (hz : A.length = len) (h : TkAt w a A) (hm : len ≤ maxLen) (hz2 : B.length = len2) (h2 : TkAt w b B) (hm2 : len2 ≤ maxLen) :
    Calls Try.prog 16 #[.slice a len cap, .slice b len2 cap2] w fun e w' => e = .returned (.bool true) ∧ Below w.heap.size w w' := by
  have HM := Lib.hid hm
  have HI := Lib.hid h
  have HM2 := Lib.hid hm2
  have HJ := Lib.hid h2
  clear hm h hm2 h2
  by_cases hl : 1048576 < len
  · have hlf := Lib.hid (leftK_no hl)
    clear hz hl hz2
    go_enter Try.func16, Try.ntmps16
    go_wp2_with fail
    refine (szTk_any a _ cap 1048576 w (by omega) (by omega) HM.out).mono ?_
    rintro e w' ⟨rfl, rfl⟩
    rw [hlf.out]
    go_wp2
    go_ret
    exact ⟨rfl, Below.refl _ _⟩
  subst hz
  have hlf := Lib.hid (leftK_yes (len := A.length) (by omega))
  have HLS : Hid (A.length ≤ 1048576) := by show _ ≤ _; omega
  have d0 : decide ((1048576 : Int) - (A.length : Int) < 0) = false := by simp; omega
  by_cases hl2 : (1048576 : Int) - (A.length : Int) < (len2 : Int)
  · have hlf2 := Lib.hid (leftK_no2 hl2)
    clear hl hl2 hz2
    go_enter Try.func16, Try.ntmps16
    go_wp2_with fail
    refine (szTk_any a _ cap 1048576 w (by omega) (by omega) HM.out).mono ?_
    rintro e w' ⟨rfl, rfl⟩
    rw [hlf.out]
    go_wp2_with fail
    refine (szTk_any b _ cap2 (1048576 - A.length) w (by have := HLS.out; omega) (by omega) HM2.out).mono ?_
    rintro e w' ⟨rfl, rfl⟩
    rw [hlf2.out]
    go_wp2
    go_ret
    exact ⟨rfl, Below.refl _ _⟩
  subst hz2
  have hlf2 := Lib.hid (leftK_yes2 (l := 1048576 - A.length) (len := B.length) (by omega))
  have HLS2 : Hid (B.length ≤ 1048576) := by show _ ≤ _; omega
  have d2 : decide ((1048576 : Int) - (A.length : Int) - (B.length : Int) < 0) = false := by simp; omega
  have hsm : Hid ((mvR A B).length ≤ 1048576) := by show _ ≤ 1048576; have := mvR_len A B; omega
  clear hl hl2
  go_enter Try.func16, Try.ntmps16
  go_wp2_with fail
  refine (szTk_any a _ cap 1048576 w (by omega) (by omega) HM.out).mono ?_
  rintro e w' ⟨rfl, rfl⟩
  rw [hlf.out]
  go_wp2_with fail
  refine (szTk_any b _ cap2 (1048576 - A.length) w (by have := HLS.out; omega) (by omega) HM2.out).mono ?_
  rintro e w' ⟨rfl, rfl⟩
  rw [hlf2.out]
  go_wp2_with fail
  refine (toTk_any a _ cap A w HI.out rfl HLS.out).mono ?_
  rintro e w1 ⟨rfl, ho, hb1⟩
  have hB1 : Below w.heap.size w w1 := hb1
  have sz1 := hb1.size
  have P1 := Lib.hid ho
  clear ho
  go_wp2_with fail
  refine (toTk_any b _ cap2 B w1 (HJ.out.keepB hB1 (Nat.le_refl _)) rfl HLS2.out).mono ?_
  rintro e w2 ⟨rfl, ho, hb2⟩
  have hB2 : Below w.heap.size w w2 := hB1.trans (hb2.mono hB1.size)
  have sz2 := hb2.size
  have P2 := Lib.hid (P1.out.keepB hb2 (Nat.le_refl _))
  have Q2 := Lib.hid ho
  clear ho
  go_wp2_with fail
  refine (smoved_any _ _ _ _ _ _ A B w2 P2.out.tk Q2.out.tk rfl rfl HM.out HM2.out).mono ?_
  rintro e w3 ⟨gw, cw, rfl, how, hb3⟩
  have hB3 : Below w.heap.size w w3 := hB2.trans (hb3.mono hB2.size)
  have sz3 := hb3.size
  have S3 := Lib.hid how.ints
  have hgw := how.lt.2
  clear how
  go_wp2_with fail
  refine (toTk_any a _ cap A w3 (HI.out.keepB hB3 (Nat.le_refl _)) rfl HLS.out).mono ?_
  rintro e w4 ⟨rfl, ho, hb4⟩
  have hB4 : Below w.heap.size w w4 := hB3.trans (hb4.mono hB3.size)
  have sz4 := hb4.size
  have S4 := Lib.hid (S3.out.keepB hb4 (Nat.le_refl _))
  have X4 := Lib.hid ho
  clear ho
  go_wp2_with fail
  refine (toTk_any b _ cap2 B w4 (HJ.out.keepB hB4 (Nat.le_refl _)) rfl HLS2.out).mono ?_
  rintro e w5 ⟨rfl, ho, hb5⟩
  have hB5 : Below w.heap.size w w5 := hB4.trans (hb5.mono hB4.size)
  have sz5 := hb5.size
  have S5 := Lib.hid (S4.out.keepB hb5 (Nat.le_refl _))
  have X5 := Lib.hid (X4.out.keepB hb5 (Nat.le_refl _))
  have Y5 := Lib.hid ho
  clear ho
  have hxl := X4.out.blk.2.1
  have hyl := Y5.out.blk.2.1
  go_wp2_with fail
  refine (pmoved_any _ _ _ _ _ _ A B w5 X5.out.tk Y5.out.tk rfl rfl HM.out HM2.out).mono ?_
  rintro e w6 ⟨ag, cg, rfl, ho, hb6⟩
  have hB6 : Below w.heap.size w w6 := hB5.trans (hb6.mono hB5.size)
  have sz6 := hb6.size
  have S6 := Lib.hid (S5.out.keepB hb6 (Nat.le_refl _))
  have X6 := Lib.hid (X5.out.keepB hb6 (Nat.le_refl _))
  have Y6 := Lib.hid (Y5.out.keepB hb6 (Nat.le_refl _))
  have G6 := Lib.hid ho
  clear ho
  have hgb : w.heap.size ≤ w5.heap.size := hB5.size
  go_wp2_with fail
  refine (eqInts_same _ _ _ _ _ (mvR A B) w6 G6.out.ints S6.out rfl hsm.out).mono ?_
  rintro e w7 ⟨rfl, hs7⟩
  have hb7 := hs7.below w6.heap.size
  have hB7 : Below w.heap.size w w7 := hB6.trans (hb7.mono hB6.size)
  have sz7 := hb7.size
  have S7 := Lib.hid (S6.out.keepB hb7 (Nat.le_refl _))
  have X7 := Lib.hid (X6.out.keepB hb7 (Nat.le_refl _))
  have Y7 := Lib.hid (Y6.out.keepB hb7 (Nat.le_refl _))
  have G7 := Lib.hid (G6.out.keepB hb7 (Nat.le_refl _))
  go_wp2_with fail
  refine (toTk_any a _ cap A w7 (HI.out.keepB hB7 (Nat.le_refl _)) rfl HLS.out).mono ?_
  rintro e w8 ⟨rfl, ho, hb8⟩
  have hB8 : Below w.heap.size w w8 := hB7.trans (hb8.mono hB7.size)
  have sz8 := hb8.size
  have S8 := Lib.hid (S7.out.keepB hb8 (Nat.le_refl _))
  have X8 := Lib.hid (X7.out.keepB hb8 (Nat.le_refl _))
  have Y8 := Lib.hid (Y7.out.keepB hb8 (Nat.le_refl _))
  have G8 := Lib.hid (G7.out.keepB hb8 (Nat.le_refl _))
  have U8 := Lib.hid ho
  clear ho
  go_wp2_with fail
  refine (eqTk_same _ _ _ _ _ A w8 X8.out.tk U8.out.tk rfl HLS.out).mono ?_
  rintro e w9 ⟨rfl, hb9⟩
  have hB9 : Below w.heap.size w w9 := hB8.trans (hb9.mono hB8.size)
  have sz9 := hb9.size
  have S9 := Lib.hid (S8.out.keepB hb9 (Nat.le_refl _))
  have X9 := Lib.hid (X8.out.keepB hb9 (Nat.le_refl _))
  have Y9 := Lib.hid (Y8.out.keepB hb9 (Nat.le_refl _))
  have G9 := Lib.hid (G8.out.keepB hb9 (Nat.le_refl _))
  have U9 := Lib.hid (U8.out.keepB hb9 (Nat.le_refl _))
  go_wp2_with fail
  refine (toTk_any b _ cap2 B w9 (HJ.out.keepB hB9 (Nat.le_refl _)) rfl HLS2.out).mono ?_
  rintro e w10 ⟨rfl, ho, hb10⟩
  have hB10 : Below w.heap.size w w10 := hB9.trans (hb10.mono hB9.size)
  have sz10 := hb10.size
  have S10 := Lib.hid (S9.out.keepB hb10 (Nat.le_refl _))
  have X10 := Lib.hid (X9.out.keepB hb10 (Nat.le_refl _))
  have Y10 := Lib.hid (Y9.out.keepB hb10 (Nat.le_refl _))
  have G10 := Lib.hid (G9.out.keepB hb10 (Nat.le_refl _))
  have V10 := Lib.hid ho
  clear ho
  go_wp2_with fail
  refine (eqTk_same _ _ _ _ _ B w10 Y10.out.tk V10.out.tk rfl HLS2.out).mono ?_
  rintro e w11 ⟨rfl, hb11⟩
  have hB11 : Below w.heap.size w w11 := hB10.trans (hb11.mono hB10.size)
  have sz11 := hb11.size
  have S11 := Lib.hid (S10.out.keepB hb11 (Nat.le_refl _))
  have X11 := Lib.hid (X10.out.keepB hb11 (Nat.le_refl _))
  have Y11 := Lib.hid (Y10.out.keepB hb11 (Nat.le_refl _))
  have G11 := Lib.hid (G10.out.keepB hb11 (Nat.le_refl _))
  have V11 := Lib.hid (V10.out.keepB hb11 (Nat.le_refl _))
  go_wp2_with fail
  refine (markTk_any _ _ _ _ A 1 w11 X11.out rfl (by omega) (by omega) HLS.out).mono ?_
  rintro e w12 ⟨rfl, _, hk12⟩
  have hB12 : Below w.heap.size w w12 := hB11.trans (hk12.below (by omega))
  have sz12 := hk12.size
  have S12 := Lib.hid (S11.out.blk (hk12.block _ (by omega)))
  have Y12 := Lib.hid (Y11.out.kept (hk12.block _ (by omega)))
  have G12 := Lib.hid (G11.out.keptQ (fun g hg => hk12.block g (by omega)))
  go_wp2_with fail
  refine (markTk_any _ _ _ _ B (1 + 2 * (A.length : Int)) w12 Y12.out rfl (by omega) (by have := HLS.out; omega) HLS2.out).mono ?_
  rintro e w13 ⟨rfl, _, hk13⟩
  have hB13 : Below w.heap.size w w13 := hB12.trans (hk13.below (by omega))
  have sz13 := hk13.size
  have S13 := Lib.hid (S12.out.blk (hk13.block _ (by omega)))
  have G13 := Lib.hid (G12.out.keptQ (fun g hg => hk13.block g (by omega)))
  have k0 : decide ((1 : Int) + 2 * (A.length : Int) + 2 * (B.length : Int) < 0) = false := by simp; omega
  go_wp2_with fail
  refine (eqInts_same _ _ _ _ _ (mvR A B) w13 G13.out.ints S13.out rfl hsm.out).mono ?_
  rintro e w14 ⟨rfl, hs14⟩
  have hb14 := hs14.below w13.heap.size
  have hB14 : Below w.heap.size w w14 := hB13.trans (hb14.mono hB13.size)
  have sz14 := hb14.size
  have S14 := Lib.hid (S13.out.keepB hb14 (Nat.le_refl _))
  have G14 := Lib.hid (G13.out.keepB hb14 (Nat.le_refl _))
  clear k0
  go_wp2_with fail
  refine (markZ_any _ _ _ _ (mvR A B) 1 w14 G14.out rfl (by omega) (by omega) hsm.out).mono ?_
  rintro e w15 ⟨rfl, hmk, hk⟩
  have hB15 : Below w.heap.size w w15 := hB14.trans (hk.mono hgb)
  have sz15 := hk.size
  have S15 := Lib.hid (S14.out.blk (hk.block _ (by omega)))
  have G15 := Lib.hid hmk
  clear hmk
  have r0 : decide ((1 : Int) + ((mvR A B).length : Int) < 0) = false := by simp; omega
  have r1 : (((1 : Int) + ((mvR A B).length : Int)) != ((1 : Int) + ((mvR A B).length : Int))) = false := by simp
  go_wp2_with fail
  refine (heldInts_any _ _ _ 1 w15 G15.out (by omega) (by omega) hsm.out).mono ?_
  rintro e w16 ⟨rfl, hs16⟩
  have hb16 := hs16.below w15.heap.size
  have hB16 : Below w.heap.size w w16 := hB15.trans (hb16.mono hB15.size)
  have sz16 := hb16.size
  have S16 := Lib.hid (S15.out.keepB hb16 (Nat.le_refl _))
  have G16 := Lib.hid (G15.out.keepB hb16 (Nat.le_refl _))
  go_wp2_with fail
  refine (toTk_any a _ cap A w16 (HI.out.keepB hB16 (Nat.le_refl _)) rfl HLS.out).mono ?_
  rintro e w17 ⟨rfl, ho, hb17⟩
  have hB17 : Below w.heap.size w w17 := hB16.trans (hb17.mono hB16.size)
  have sz17 := hb17.size
  have S17 := Lib.hid (S16.out.keepB hb17 (Nat.le_refl _))
  have G17 := Lib.hid (G16.out.keepB hb17 (Nat.le_refl _))
  have P17 := Lib.hid ho
  clear ho
  go_wp2_with fail
  refine (toTk_any b _ cap2 B w17 (HJ.out.keepB hB17 (Nat.le_refl _)) rfl HLS2.out).mono ?_
  rintro e w18 ⟨rfl, ho, hb18⟩
  have hB18 : Below w.heap.size w w18 := hB17.trans (hb18.mono hB17.size)
  have sz18 := hb18.size
  have S18 := Lib.hid (S17.out.keepB hb18 (Nat.le_refl _))
  have G18 := Lib.hid (G17.out.keepB hb18 (Nat.le_refl _))
  have P18 := Lib.hid (P17.out.keepB hb18 (Nat.le_refl _))
  have Q18 := Lib.hid ho
  clear ho
  go_wp2_with fail
  refine (pmoved_any _ _ _ _ _ _ A B w18 P18.out.tk Q18.out.tk rfl rfl HM.out HM2.out).mono ?_
  rintro e w19 ⟨ah, ch, rfl, ho, hb19⟩
  have hB19 : Below w.heap.size w w19 := hB18.trans (hb19.mono hB18.size)
  have sz19 := hb19.size
  have S19 := Lib.hid (S18.out.keepB hb19 (Nat.le_refl _))
  have G19 := Lib.hid (G18.out.keepB hb19 (Nat.le_refl _))
  have P19 := Lib.hid (P18.out.keepB hb19 (Nat.le_refl _))
  have Q19 := Lib.hid (Q18.out.keepB hb19 (Nat.le_refl _))
  have H19 := Lib.hid ho
  clear ho
  go_wp2_with fail
  refine (eqInts_same _ _ _ _ _ (mvR A B) w19 H19.out.ints S19.out rfl hsm.out).mono ?_
  rintro e w20 ⟨rfl, hs20⟩
  have hb20 := hs20.below w19.heap.size
  have hB20 : Below w.heap.size w w20 := hB19.trans (hb20.mono hB19.size)
  have sz20 := hb20.size
  have S20 := Lib.hid (S19.out.keepB hb20 (Nat.le_refl _))
  have G20 := Lib.hid (G19.out.keepB hb20 (Nat.le_refl _))
  have P20 := Lib.hid (P19.out.keepB hb20 (Nat.le_refl _))
  have Q20 := Lib.hid (Q19.out.keepB hb20 (Nat.le_refl _))
  have H20 := Lib.hid (H19.out.keepB hb20 (Nat.le_refl _))
  go_wp2_with fail
  refine (heldInts_any _ _ _ 1 w20 G20.out (by omega) (by omega) hsm.out).mono ?_
  rintro e wz ⟨rfl, hsz⟩
  go_wp2
  go_ret
  exact ⟨rfl, hB20.trans (hsz.below _)⟩

set_option maxHeartbeats 4000000 in
theorem exPlaceTable (a b : Option Addr) (len cap len2 cap2 : Nat) (zs ws : List Int) (w : World) (hz : zs.length = len) (h : IntsAt w a zs) (hm : len ≤ maxLen) (hz2 : ws.length = len2) (h2 : IntsAt w b ws) (hm2 : len2 ≤ maxLen) :
    Calls Try.prog 13 #[.slice a len cap, .slice b len2 cap2] w fun e w' => e = .returned (.bool true) ∧ Below w.heap.size w w' := by
  have HI := Lib.hid h
  have HJ := Lib.hid h2
  have HM := Lib.hid hm
  have HM2 := Lib.hid hm2
  clear h h2
  unfold maxLen at hm hm2
  by_cases hl : 1048576 < len
  · clear hz hz2
    go_enter Try.func13, Try.ntmps13
    go_wp2
    go_ret
    exact ⟨rfl, Below.refl _ _⟩
  by_cases hl2 : 1048576 < len2
  · clear hz hz2
    go_enter Try.func13, Try.ntmps13
    go_wp2
    go_ret
    exact ⟨rfl, Below.refl _ _⟩
  subst hz hz2
  have HLS : Hid (zs.length ≤ 1048576) := by show _ ≤ _; omega
  have HLS2 : Hid (ws.length ≤ 1048576) := by show _ ≤ _; omega
  have hsm : Hid ((plR zs ws).length ≤ 1048576) := by show _ ≤ 1048576; have := plR_len zs ws; omega
  go_enter Try.func13, Try.ntmps13
  go_wp2_with fail
  refine (toInts_any a _ cap zs w HI.out rfl HLS.out).mono ?_
  rintro e w1 ⟨rfl, hr, hb1, hsz1⟩
  have hB1 : Below w.heap.size w w1 := hb1
  have sz1 := hb1.size
  have P1 := Lib.hid hr.ints
  clear hr hsz1
  go_wp2_with fail
  refine (toInts_any b _ cap2 ws w1 (HJ.out.keepB hB1 (Nat.le_refl _)) rfl HLS2.out).mono ?_
  rintro e w2 ⟨rfl, hr, hb2, hsz2⟩
  have hB2 : Below w.heap.size w w2 := hB1.trans (hb2.mono hB1.size)
  have sz2 := hb2.size
  have P2 := Lib.hid (P1.out.keepB hb2 (Nat.le_refl _))
  have Q2 := Lib.hid hr.ints
  clear hr hsz2
  go_wp2_with fail
  refine (splace_any _ _ _ _ _ _ zs ws w2 P2.out Q2.out rfl rfl HM.out HM2.out).mono ?_
  rintro e w3 ⟨gw, cw, rfl, how, hb3⟩
  have hB3 : Below w.heap.size w w3 := hB2.trans (hb3.mono hB2.size)
  have sz3 := hb3.size
  have S3 := Lib.hid how.tk
  have hgw := how.blk.2.1
  clear how
  go_wp2_with fail
  refine (toInts_any a _ cap zs w3 (HI.out.keepB hB3 (Nat.le_refl _)) rfl HLS.out).mono ?_
  rintro e w4 ⟨rfl, hr, hb4, hsz4⟩
  have hB4 : Below w.heap.size w w4 := hB3.trans (hb4.mono hB3.size)
  have sz4 := hb4.size
  have S4 := Lib.hid (S3.out.keepB hb4 (Nat.le_refl _))
  have X4 := Lib.hid hr.ints
  have NX4 := Lib.hid hr.heapI
  clear hr hsz4
  go_wp2_with fail
  refine (toInts_any b _ cap2 ws w4 (HJ.out.keepB hB4 (Nat.le_refl _)) rfl HLS2.out).mono ?_
  rintro e w5 ⟨rfl, hr, hb5, hsz5⟩
  have hB5 : Below w.heap.size w w5 := hB4.trans (hb5.mono hB4.size)
  have sz5 := hb5.size
  have S5 := Lib.hid (S4.out.keepB hb5 (Nat.le_refl _))
  have X5 := Lib.hid (X4.out.keepB hb5 (Nat.le_refl _))
  have NX5 := Lib.hid (NX4.out.keepB hb5 (Nat.le_refl _))
  have Y5 := Lib.hid hr.ints
  have NY5 := Lib.hid hr.heapI
  clear hr hsz5
  have hxl := NX4.out.lt
  have hyl := NY5.out.lt
  go_wp2_with fail
  refine (pplace_any _ _ _ _ _ _ zs ws w5 X5.out Y5.out rfl rfl HM.out HM2.out).mono ?_
  rintro e w6 ⟨ag, cg, rfl, ho, hb6⟩
  have hB6 : Below w.heap.size w w6 := hB5.trans (hb6.mono hB5.size)
  have sz6 := hb6.size
  have S6 := Lib.hid (S5.out.keepB hb6 (Nat.le_refl _))
  have X6 := Lib.hid (X5.out.keepB hb6 (Nat.le_refl _))
  have NX6 := Lib.hid (NX5.out.keepB hb6 (Nat.le_refl _))
  have Y6 := Lib.hid (Y5.out.keepB hb6 (Nat.le_refl _))
  have NY6 := Lib.hid (NY5.out.keepB hb6 (Nat.le_refl _))
  have G6 := Lib.hid ho
  clear ho
  have hgb : w.heap.size ≤ w5.heap.size := hB5.size
  go_wp2_with fail
  refine (eqTk_same _ _ _ _ _ (plR zs ws) w6 G6.out.tk S6.out rfl hsm.out).mono ?_
  rintro e w7 ⟨rfl, hb7⟩
  have hB7 : Below w.heap.size w w7 := hB6.trans (hb7.mono hB6.size)
  have sz7 := hb7.size
  have S7 := Lib.hid (S6.out.keepB hb7 (Nat.le_refl _))
  have X7 := Lib.hid (X6.out.keepB hb7 (Nat.le_refl _))
  have NX7 := Lib.hid (NX6.out.keepB hb7 (Nat.le_refl _))
  have Y7 := Lib.hid (Y6.out.keepB hb7 (Nat.le_refl _))
  have NY7 := Lib.hid (NY6.out.keepB hb7 (Nat.le_refl _))
  have G7 := Lib.hid (G6.out.keepB hb7 (Nat.le_refl _))
  go_wp2_with fail
  refine (toInts_any a _ cap zs w7 (HI.out.keepB hB7 (Nat.le_refl _)) rfl HLS.out).mono ?_
  rintro e w8 ⟨rfl, hr, hb8, hsz8⟩
  have hB8 : Below w.heap.size w w8 := hB7.trans (hb8.mono hB7.size)
  have sz8 := hb8.size
  have S8 := Lib.hid (S7.out.keepB hb8 (Nat.le_refl _))
  have X8 := Lib.hid (X7.out.keepB hb8 (Nat.le_refl _))
  have NX8 := Lib.hid (NX7.out.keepB hb8 (Nat.le_refl _))
  have Y8 := Lib.hid (Y7.out.keepB hb8 (Nat.le_refl _))
  have NY8 := Lib.hid (NY7.out.keepB hb8 (Nat.le_refl _))
  have G8 := Lib.hid (G7.out.keepB hb8 (Nat.le_refl _))
  have U8 := Lib.hid hr.ints
  clear hr hsz8
  go_wp2_with fail
  refine (eqInts_same _ _ _ _ _ zs w8 X8.out U8.out rfl HLS.out).mono ?_
  rintro e w9 ⟨rfl, hs9⟩
  have hb9 := hs9.below w8.heap.size
  have hB9 : Below w.heap.size w w9 := hB8.trans (hb9.mono hB8.size)
  have sz9 := hb9.size
  have S9 := Lib.hid (S8.out.keepB hb9 (Nat.le_refl _))
  have X9 := Lib.hid (X8.out.keepB hb9 (Nat.le_refl _))
  have NX9 := Lib.hid (NX8.out.keepB hb9 (Nat.le_refl _))
  have Y9 := Lib.hid (Y8.out.keepB hb9 (Nat.le_refl _))
  have NY9 := Lib.hid (NY8.out.keepB hb9 (Nat.le_refl _))
  have G9 := Lib.hid (G8.out.keepB hb9 (Nat.le_refl _))
  have U9 := Lib.hid (U8.out.keepB hb9 (Nat.le_refl _))
  go_wp2_with fail
  refine (toInts_any b _ cap2 ws w9 (HJ.out.keepB hB9 (Nat.le_refl _)) rfl HLS2.out).mono ?_
  rintro e w10 ⟨rfl, hr, hb10, hsz10⟩
  have hB10 : Below w.heap.size w w10 := hB9.trans (hb10.mono hB9.size)
  have sz10 := hb10.size
  have S10 := Lib.hid (S9.out.keepB hb10 (Nat.le_refl _))
  have X10 := Lib.hid (X9.out.keepB hb10 (Nat.le_refl _))
  have NX10 := Lib.hid (NX9.out.keepB hb10 (Nat.le_refl _))
  have Y10 := Lib.hid (Y9.out.keepB hb10 (Nat.le_refl _))
  have NY10 := Lib.hid (NY9.out.keepB hb10 (Nat.le_refl _))
  have G10 := Lib.hid (G9.out.keepB hb10 (Nat.le_refl _))
  have V10 := Lib.hid hr.ints
  clear hr hsz10
  go_wp2_with fail
  refine (eqInts_same _ _ _ _ _ ws w10 Y10.out V10.out rfl HLS2.out).mono ?_
  rintro e w11 ⟨rfl, hs11⟩
  have hb11 := hs11.below w10.heap.size
  have hB11 : Below w.heap.size w w11 := hB10.trans (hb11.mono hB10.size)
  have sz11 := hb11.size
  have S11 := Lib.hid (S10.out.keepB hb11 (Nat.le_refl _))
  have X11 := Lib.hid (X10.out.keepB hb11 (Nat.le_refl _))
  have NX11 := Lib.hid (NX10.out.keepB hb11 (Nat.le_refl _))
  have Y11 := Lib.hid (Y10.out.keepB hb11 (Nat.le_refl _))
  have NY11 := Lib.hid (NY10.out.keepB hb11 (Nat.le_refl _))
  have G11 := Lib.hid (G10.out.keepB hb11 (Nat.le_refl _))
  have V11 := Lib.hid (V10.out.keepB hb11 (Nat.le_refl _))
  go_wp2_with fail
  refine (markInts_any _ zs.length zs.length 1 w11 NX11.out (by omega) (by omega) HLS.out).mono ?_
  rintro e w12 ⟨rfl, hm12⟩
  have hk12 := hm12.1
  clear hm12
  have hB12 : Below w.heap.size w w12 := hB11.trans (hk12.below (by omega))
  have sz12 := hk12.size
  have S12 := Lib.hid (S11.out.blk (hk12.block _ (by omega)))
  have NY12 := Lib.hid (NY11.out.kept (hk12.block _ (by omega)))
  have G12 := Lib.hid (G11.out.keptQ (fun g hg => hk12.block g (by omega)))
  go_wp2_with fail
  refine (markInts_any _ ws.length ws.length (1 + (zs.length : Int)) w12 NY12.out (by omega) (by have := HLS.out; omega) HLS2.out).mono ?_
  rintro e w13 ⟨rfl, hm13⟩
  have hk13 := hm13.1
  clear hm13
  have hB13 : Below w.heap.size w w13 := hB12.trans (hk13.below (by omega))
  have sz13 := hk13.size
  have S13 := Lib.hid (S12.out.blk (hk13.block _ (by omega)))
  have G13 := Lib.hid (G12.out.keptQ (fun g hg => hk13.block g (by omega)))
  have k0 : decide ((1 : Int) + (zs.length : Int) + (ws.length : Int) < 0) = false := by simp; omega
  go_wp2_with fail
  refine (eqTk_same _ _ _ _ _ (plR zs ws) w13 G13.out.tk S13.out rfl hsm.out).mono ?_
  rintro e w14 ⟨rfl, hb14⟩
  have hB14 : Below w.heap.size w w14 := hB13.trans (hb14.mono hB13.size)
  have sz14 := hb14.size
  have S14 := Lib.hid (S13.out.keepB hb14 (Nat.le_refl _))
  have G14 := Lib.hid (G13.out.keepB hb14 (Nat.le_refl _))
  clear k0
  go_wp2_with fail
  refine (markT_any _ _ _ _ (plR zs ws) 1 w14 G14.out rfl (by omega) (by omega) hsm.out).mono ?_
  rintro e w15 ⟨rfl, hmk, hk⟩
  have hB15 : Below w.heap.size w w15 := hB14.trans (hk.mono hgb)
  have sz15 := hk.size
  have S15 := Lib.hid (S14.out.blk (hk.block _ (by omega)))
  have G15 := Lib.hid hmk
  clear hmk
  have r0 : decide ((1 : Int) + 2 * ((plR zs ws).length : Int) < 0) = false := by simp; omega
  have r1 : (((1 : Int) + 2 * ((plR zs ws).length : Int)) != ((1 : Int) + 2 * ((plR zs ws).length : Int))) = false := by simp
  go_wp2_with fail
  refine (heldTk_any _ _ _ (plR zs ws) 1 w15 G15.out rfl (by omega) (by omega) hsm.out).mono ?_
  rintro e w16 ⟨rfl, hs16⟩
  have hb16 := hs16.below w15.heap.size
  have hB16 : Below w.heap.size w w16 := hB15.trans (hb16.mono hB15.size)
  have sz16 := hb16.size
  have S16 := Lib.hid (S15.out.keepB hb16 (Nat.le_refl _))
  have G16 := Lib.hid (G15.out.keepB hb16 (Nat.le_refl _))
  go_wp2_with fail
  refine (toInts_any a _ cap zs w16 (HI.out.keepB hB16 (Nat.le_refl _)) rfl HLS.out).mono ?_
  rintro e w17 ⟨rfl, hr, hb17, hsz17⟩
  have hB17 : Below w.heap.size w w17 := hB16.trans (hb17.mono hB16.size)
  have sz17 := hb17.size
  have S17 := Lib.hid (S16.out.keepB hb17 (Nat.le_refl _))
  have G17 := Lib.hid (G16.out.keepB hb17 (Nat.le_refl _))
  have P17 := Lib.hid hr.ints
  clear hr hsz17
  go_wp2_with fail
  refine (toInts_any b _ cap2 ws w17 (HJ.out.keepB hB17 (Nat.le_refl _)) rfl HLS2.out).mono ?_
  rintro e w18 ⟨rfl, hr, hb18, hsz18⟩
  have hB18 : Below w.heap.size w w18 := hB17.trans (hb18.mono hB17.size)
  have sz18 := hb18.size
  have S18 := Lib.hid (S17.out.keepB hb18 (Nat.le_refl _))
  have G18 := Lib.hid (G17.out.keepB hb18 (Nat.le_refl _))
  have P18 := Lib.hid (P17.out.keepB hb18 (Nat.le_refl _))
  have Q18 := Lib.hid hr.ints
  clear hr hsz18
  go_wp2_with fail
  refine (pplace_any _ _ _ _ _ _ zs ws w18 P18.out Q18.out rfl rfl HM.out HM2.out).mono ?_
  rintro e w19 ⟨ah, ch, rfl, ho, hb19⟩
  have hB19 : Below w.heap.size w w19 := hB18.trans (hb19.mono hB18.size)
  have sz19 := hb19.size
  have S19 := Lib.hid (S18.out.keepB hb19 (Nat.le_refl _))
  have G19 := Lib.hid (G18.out.keepB hb19 (Nat.le_refl _))
  have P19 := Lib.hid (P18.out.keepB hb19 (Nat.le_refl _))
  have Q19 := Lib.hid (Q18.out.keepB hb19 (Nat.le_refl _))
  have H19 := Lib.hid ho
  clear ho
  go_wp2_with fail
  refine (eqTk_same _ _ _ _ _ (plR zs ws) w19 H19.out.tk S19.out rfl hsm.out).mono ?_
  rintro e w20 ⟨rfl, hb20⟩
  have hB20 : Below w.heap.size w w20 := hB19.trans (hb20.mono hB19.size)
  have sz20 := hb20.size
  have S20 := Lib.hid (S19.out.keepB hb20 (Nat.le_refl _))
  have G20 := Lib.hid (G19.out.keepB hb20 (Nat.le_refl _))
  have P20 := Lib.hid (P19.out.keepB hb20 (Nat.le_refl _))
  have Q20 := Lib.hid (Q19.out.keepB hb20 (Nat.le_refl _))
  have H20 := Lib.hid (H19.out.keepB hb20 (Nat.le_refl _))
  go_wp2_with fail
  refine (heldTk_any _ _ _ (plR zs ws) 1 w20 G20.out rfl (by omega) (by omega) hsm.out).mono ?_
  rintro e wz ⟨rfl, hsz⟩
  go_wp2
  go_ret
  exact ⟨rfl, hB20.trans (hsz.below _)⟩
end Go.Proofs.Ytidabcdaodlfeaa
