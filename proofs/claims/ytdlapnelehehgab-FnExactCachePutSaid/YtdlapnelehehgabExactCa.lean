/- The walks of the exact laws of caches. -/
import Derived.Test.YtdlapnelehehgabCaP3
import Derived.Test.YtdlapnelehehgabCaC
namespace Go.Proofs.Ytdlapnelehehgab
open Go.RowKit
set_option linter.unusedVariables false
attribute [local go_sem ↓] Go.wp_at_zero Go.wp_at_succ

theorem leftL_no {len : Nat} (h : 1048576 < len) : leftL 1048576 len = -1 := by unfold leftL; rw [if_pos (by omega)]
theorem leftL_yes {len : Nat} (h : len ≤ 1048576) : leftL 1048576 len = 1048576 - len := by unfold leftL; rw [if_neg (by omega)]
theorem OwnL.keptQ {w w' : World} {base cap : Nat} {a : Option Addr} {L : List Ls} (h : OwnL w base a cap L) (hk : ∀ g, base ≤ g → w'.heap[g]? = w.heap[g]?) : OwnL w' base a cap L := by
  rcases h with h | ⟨g, rfl, h⟩
  · exact .inl h
  · exact .inr ⟨g, rfl, h.kept (hk g h.blk.1)⟩

set_option maxHeartbeats 1000000 in
theorem markO_any (base : Nat) (a : Option Addr) (len cap : Nat) (L : List Ls) (k0 : Int) (w : World) (h : OwnL w base a cap L) (hz : L.length = len) (h0 : 0 ≤ k0) (h1 : k0 ≤ 1000000000) (hm : len ≤ 1048576) :
    Calls Try.prog 11 #[.slice a len cap, .int .i64 k0] w fun e w' => e = .returned (.int .i64 (k0 + 3 * len)) ∧ OwnL w' base a cap (mkLs k0 L L.length) ∧ Below base w w' := by
  rcases h with h | ⟨g, rfl, h⟩
  · subst h
    obtain rfl : len = 0 := by simpa using hz.symm
    clear hz hm
    go_enter Try.func11, Try.ntmps11
    go_wp2
    go_loopw [1, 5] (fun l i wr => i = .int .i64 0 ∧ l = .int .i64 k0 ∧ Same w wr) (fun _ _ _ => 0)
    case atStart => exact ⟨rfl, rfl, Same.refl _⟩
    case round =>
      obtain ⟨rfl, rfl, hs⟩ := hrel
      go_wp2
      go_ret
      exact ⟨by simp, .inl rfl, hs.below _⟩
  · exact (markLs_any base g len cap L k0 w h hz h0 h1 hm).mono fun e w' ⟨he, ho, hk⟩ => ⟨he, .inr ⟨g, rfl, ho⟩, hk.below h.blk.1⟩



set_option maxHeartbeats 2000000 in
theorem exCaPut (a : Option Addr) (len cap : Nat) (L : List Ls) (key v now : Int) (w : World) (hz : L.length = len) (h : LsAt w a L) (hm : len ≤ maxLen) :
    Calls Try.prog 3 #[.slice a len cap, .int .i64 key, .int .i64 v, .int .i64 now] w fun e w' => e = .returned (.bool true) ∧ Below w.heap.size w w' := by
  have HM := Lib.hid hm
  have HI := Lib.hid h
  clear hm h
  by_cases hl : 1048576 < len
  · have hlf := Lib.hid (leftL_no hl)
    clear hz hl
    go_enter Try.func3, Try.ntmps3
    go_wp2_with fail
    refine (szLs_any a _ cap 1048576 w (by omega) (by omega) HM.out).mono ?_
    rintro e w' ⟨rfl, rfl⟩
    rw [hlf.out]
    go_wp2
    go_ret
    exact ⟨rfl, Below.refl _ _⟩
  subst hz
  have hlf := Lib.hid (leftL_yes (len := L.length) (by omega))
  have hls : L.length ≤ 1048576 := by omega
  have HLS := Lib.hid hls
  have d0 : decide ((1048576 : Int) - (L.length : Int) < 0) = false := by simp; omega
  clear hl hls
  go_enter Try.func3, Try.ntmps3
  go_wp2_with fail
  refine (szLs_any a _ cap 1048576 w (by omega) (by omega) HM.out).mono ?_
  rintro e w' ⟨rfl, rfl⟩
  rw [hlf.out]
  have hsm : Hid ((putR L key v now).1.length ≤ 1048576) := by show _ ≤ 1048576; have := putR_len L key v now; omega
  have q1 : ((putR L key v now).2 != (putR L key v now).2) = false := by simp
  go_wp2_with fail
  refine (toLs_any a _ cap L w HI.out rfl HLS.out).mono ?_
  rintro e w1 ⟨rfl, ho, hb1⟩
  have O1 := Lib.hid ho
  clear ho
  go_wp2_with fail
  refine (sput_any _ _ _ L key v now w1 O1.out.ls rfl HM.out).mono ?_
  rintro e w3 ⟨gw, cw, rfl, ho, hb3⟩
  have hB3 : Below w.heap.size w w3 := hb1.trans (hb3.mono hb1.size)
  have hgw := ho.blk.2.1
  have S3 := Lib.hid ho
  clear ho
  go_wp2_with fail
  refine (toLs_any a _ cap L w3 (HI.out.keepB hB3 (Nat.le_refl _)) rfl HLS.out).mono ?_
  rintro e w4 ⟨rfl, ho, hb4⟩
  have X4 := Lib.hid ho
  clear ho
  have hB4 : Below w.heap.size w w4 := hB3.trans (hb4.mono hB3.size)
  have S4 := Lib.hid (S3.out.keepB hb4 (Nat.le_refl _))
  have hx4 := X4.out.blk.2.1
  go_wp2_with fail
  refine (pput_any _ _ _ L key v now w4 X4.out.ls rfl HM.out).mono ?_
  rintro e w5 ⟨ag, cg, rfl, ho, hb5⟩
  have hB5 : Below w.heap.size w w5 := hB4.trans (hb5.mono hB4.size)
  have G5 := Lib.hid ho
  clear ho
  have S5 := Lib.hid (S4.out.keepB hb5 (Nat.le_refl _))
  have X5 := Lib.hid (X4.out.keepB hb5 (Nat.le_refl _))
  go_wp2_with fail
  refine (eqLs_same _ _ _ _ _ (putR L key v now).1 w5 G5.out.ls S5.out.ls rfl hsm.out).mono ?_
  rintro e w6 ⟨rfl, hb6⟩
  have hB6 : Below w.heap.size w w6 := hB5.trans (hb6.mono hB5.size)
  have S6 := Lib.hid (S5.out.keepB hb6 (Nat.le_refl _))
  have X6 := Lib.hid (X5.out.keepB hb6 (Nat.le_refl _))
  have G6 := Lib.hid (G5.out.keepB hb6 (Nat.le_refl _))
  go_wp2_with fail
  refine (toLs_any a _ cap L w6 (HI.out.keepB hB6 (Nat.le_refl _)) rfl HLS.out).mono ?_
  rintro e w7 ⟨rfl, ho, hb7⟩
  have O7 := Lib.hid ho
  clear ho
  have hB7 : Below w.heap.size w w7 := hB6.trans (hb7.mono hB6.size)
  have S7 := Lib.hid (S6.out.keepB hb7 (Nat.le_refl _))
  have X7 := Lib.hid (X6.out.keepB hb7 (Nat.le_refl _))
  have G7 := Lib.hid (G6.out.keepB hb7 (Nat.le_refl _))
  go_wp2_with fail
  refine (eqLs_same _ _ _ _ _ L w7 X7.out.ls O7.out.ls rfl HLS.out).mono ?_
  rintro e w8 ⟨rfl, hb8⟩
  have hB8 : Below w.heap.size w w8 := hB7.trans (hb8.mono hB7.size)
  have S8 := Lib.hid (S7.out.keepB hb8 (Nat.le_refl _))
  have X8 := Lib.hid (X7.out.keepB hb8 (Nat.le_refl _))
  have G8 := Lib.hid (G7.out.keepB hb8 (Nat.le_refl _))
  go_wp2_with fail
  refine (markLs_any _ _ _ _ L 1 w8 X8.out rfl (by omega) (by omega) HLS.out).mono ?_
  rintro e w9 ⟨rfl, _, hk9⟩
  have hB9 : Below w.heap.size w w9 := hB8.trans (hk9.below hB3.size)
  have S9 := Lib.hid (S8.out.kept (hk9.block _ (by omega)))
  have G9 := Lib.hid (G8.out.keptQ fun g hg => hk9.block g (by omega))
  have k0 : decide ((1 : Int) + 3 * (L.length : Int) < 0) = false := by simp; omega
  go_wp2_with fail
  clear k0
  refine (eqLs_same _ _ _ _ _ (putR L key v now).1 w9 G9.out.ls S9.out.ls rfl hsm.out).mono ?_
  rintro e w10 ⟨rfl, hb10⟩
  have hB10 : Below w.heap.size w w10 := hB9.trans (hb10.mono hB9.size)
  have S10 := Lib.hid (S9.out.keepB hb10 (Nat.le_refl _))
  have G10 := Lib.hid (G9.out.keepB hb10 (Nat.le_refl _))
  go_wp2_with fail
  refine (markO_any _ _ _ _ (putR L key v now).1 1 w10 G10.out rfl (by omega) (by omega) hsm.out).mono ?_
  rintro e w11 ⟨rfl, ho, hk11⟩
  have hB11 : Below w.heap.size w w11 := hB10.trans (hk11.mono hB4.size)
  have G11 := Lib.hid ho
  clear ho
  have S11 := Lib.hid (S10.out.kept (hk11.block _ (by omega)))
  go_wp2_with fail
  refine (heldLs_any _ _ _ (putR L key v now).1 1 w11 G11.out.ls rfl (by omega) (by omega) hsm.out).mono ?_
  rintro e w12 ⟨rfl, hs12⟩
  have hb12 := hs12.below w11.heap.size
  have hB12 : Below w.heap.size w w12 := hB11.trans (hb12.mono hB11.size)
  have S12 := Lib.hid (S11.out.keepB hb12 (Nat.le_refl _))
  have G12 := Lib.hid (G11.out.keepB hb12 (Nat.le_refl _))
  have r0 : decide ((1 : Int) + 3 * ((putR L key v now).1.length : Int) < 0) = false := by simp; omega
  have r1 : (((1 : Int) + 3 * ((putR L key v now).1.length : Int)) != ((1 : Int) + 3 * ((putR L key v now).1.length : Int))) = false := by simp
  go_wp2_with fail
  refine (toLs_any a _ cap L w12 (HI.out.keepB hB12 (Nat.le_refl _)) rfl HLS.out).mono ?_
  rintro e w13 ⟨rfl, ho, hb13⟩
  have O13 := Lib.hid ho
  clear ho
  have hB13 : Below w.heap.size w w13 := hB12.trans (hb13.mono hB12.size)
  have S13 := Lib.hid (S12.out.keepB hb13 (Nat.le_refl _))
  have G13 := Lib.hid (G12.out.keepB hb13 (Nat.le_refl _))
  go_wp2_with fail
  refine (pput_any _ _ _ L key v now w13 O13.out.ls rfl HM.out).mono ?_
  rintro e w14 ⟨ah, ch, rfl, ho, hb14⟩
  have hB14 : Below w.heap.size w w14 := hB13.trans (hb14.mono hB13.size)
  have H14 := Lib.hid ho
  clear ho
  have S14 := Lib.hid (S13.out.keepB hb14 (Nat.le_refl _))
  have G14 := Lib.hid (G13.out.keepB hb14 (Nat.le_refl _))
  go_wp2_with fail
  refine (eqLs_same _ _ _ _ _ (putR L key v now).1 w14 H14.out.ls S14.out.ls rfl hsm.out).mono ?_
  rintro e w15 ⟨rfl, hb15⟩
  have hB15 : Below w.heap.size w w15 := hB14.trans (hb15.mono hB14.size)
  have G15 := Lib.hid (G14.out.keepB hb15 (Nat.le_refl _))
  go_wp2_with fail
  refine (heldLs_any _ _ _ (putR L key v now).1 1 w15 G15.out.ls rfl (by omega) (by omega) hsm.out).mono ?_
  rintro e w16 ⟨rfl, hs16⟩
  go_wp2
  go_ret
  exact ⟨rfl, hB15.trans (hs16.below _)⟩

set_option maxHeartbeats 2000000 in
theorem exCaDrop (a : Option Addr) (len cap : Nat) (L : List Ls) (key : Int) (w : World) (hz : L.length = len) (h : LsAt w a L) (hm : len ≤ maxLen) :
    Calls Try.prog 4 #[.slice a len cap, .int .i64 key] w fun e w' => e = .returned (.bool true) ∧ Below w.heap.size w w' := by
  have HM := Lib.hid hm
  have HI := Lib.hid h
  clear hm h
  by_cases hl : 1048576 < len
  · have hlf := Lib.hid (leftL_no hl)
    clear hz hl
    go_enter Try.func4, Try.ntmps4
    go_wp2_with fail
    refine (szLs_any a _ cap 1048576 w (by omega) (by omega) HM.out).mono ?_
    rintro e w' ⟨rfl, rfl⟩
    rw [hlf.out]
    go_wp2
    go_ret
    exact ⟨rfl, Below.refl _ _⟩
  subst hz
  have hlf := Lib.hid (leftL_yes (len := L.length) (by omega))
  have hls : L.length ≤ 1048576 := by omega
  have HLS := Lib.hid hls
  have d0 : decide ((1048576 : Int) - (L.length : Int) < 0) = false := by simp; omega
  clear hl hls
  go_enter Try.func4, Try.ntmps4
  go_wp2_with fail
  refine (szLs_any a _ cap 1048576 w (by omega) (by omega) HM.out).mono ?_
  rintro e w' ⟨rfl, rfl⟩
  rw [hlf.out]
  have hsm : Hid ((dropR L key).1.length ≤ 1048576) := by show _ ≤ 1048576; have := dropR_len L key; omega
  have q1 : ((dropR L key).2 != (dropR L key).2) = false := by simp
  go_wp2_with fail
  refine (toLs_any a _ cap L w HI.out rfl HLS.out).mono ?_
  rintro e w1 ⟨rfl, ho, hb1⟩
  have O1 := Lib.hid ho
  clear ho
  go_wp2_with fail
  refine (sdrop_any _ _ _ L key w1 O1.out.ls rfl HM.out).mono ?_
  rintro e w3 ⟨gw, cw, rfl, ho, hb3⟩
  have hB3 : Below w.heap.size w w3 := hb1.trans (hb3.mono hb1.size)
  have hgw := ho.blk.2.1
  have S3 := Lib.hid ho
  clear ho
  go_wp2_with fail
  refine (toLs_any a _ cap L w3 (HI.out.keepB hB3 (Nat.le_refl _)) rfl HLS.out).mono ?_
  rintro e w4 ⟨rfl, ho, hb4⟩
  have X4 := Lib.hid ho
  clear ho
  have hB4 : Below w.heap.size w w4 := hB3.trans (hb4.mono hB3.size)
  have S4 := Lib.hid (S3.out.keepB hb4 (Nat.le_refl _))
  have hx4 := X4.out.blk.2.1
  go_wp2_with fail
  refine (pdrop_any _ _ _ L key w4 X4.out.ls rfl HM.out).mono ?_
  rintro e w5 ⟨ag, cg, rfl, ho, hb5⟩
  have hB5 : Below w.heap.size w w5 := hB4.trans (hb5.mono hB4.size)
  have G5 := Lib.hid ho
  clear ho
  have S5 := Lib.hid (S4.out.keepB hb5 (Nat.le_refl _))
  have X5 := Lib.hid (X4.out.keepB hb5 (Nat.le_refl _))
  go_wp2_with fail
  refine (eqLs_same _ _ _ _ _ (dropR L key).1 w5 G5.out.ls S5.out.ls rfl hsm.out).mono ?_
  rintro e w6 ⟨rfl, hb6⟩
  have hB6 : Below w.heap.size w w6 := hB5.trans (hb6.mono hB5.size)
  have S6 := Lib.hid (S5.out.keepB hb6 (Nat.le_refl _))
  have X6 := Lib.hid (X5.out.keepB hb6 (Nat.le_refl _))
  have G6 := Lib.hid (G5.out.keepB hb6 (Nat.le_refl _))
  go_wp2_with fail
  refine (toLs_any a _ cap L w6 (HI.out.keepB hB6 (Nat.le_refl _)) rfl HLS.out).mono ?_
  rintro e w7 ⟨rfl, ho, hb7⟩
  have O7 := Lib.hid ho
  clear ho
  have hB7 : Below w.heap.size w w7 := hB6.trans (hb7.mono hB6.size)
  have S7 := Lib.hid (S6.out.keepB hb7 (Nat.le_refl _))
  have X7 := Lib.hid (X6.out.keepB hb7 (Nat.le_refl _))
  have G7 := Lib.hid (G6.out.keepB hb7 (Nat.le_refl _))
  go_wp2_with fail
  refine (eqLs_same _ _ _ _ _ L w7 X7.out.ls O7.out.ls rfl HLS.out).mono ?_
  rintro e w8 ⟨rfl, hb8⟩
  have hB8 : Below w.heap.size w w8 := hB7.trans (hb8.mono hB7.size)
  have S8 := Lib.hid (S7.out.keepB hb8 (Nat.le_refl _))
  have X8 := Lib.hid (X7.out.keepB hb8 (Nat.le_refl _))
  have G8 := Lib.hid (G7.out.keepB hb8 (Nat.le_refl _))
  go_wp2_with fail
  refine (markLs_any _ _ _ _ L 1 w8 X8.out rfl (by omega) (by omega) HLS.out).mono ?_
  rintro e w9 ⟨rfl, _, hk9⟩
  have hB9 : Below w.heap.size w w9 := hB8.trans (hk9.below hB3.size)
  have S9 := Lib.hid (S8.out.kept (hk9.block _ (by omega)))
  have G9 := Lib.hid (G8.out.keptQ fun g hg => hk9.block g (by omega))
  have k0 : decide ((1 : Int) + 3 * (L.length : Int) < 0) = false := by simp; omega
  go_wp2_with fail
  clear k0
  refine (eqLs_same _ _ _ _ _ (dropR L key).1 w9 G9.out.ls S9.out.ls rfl hsm.out).mono ?_
  rintro e w10 ⟨rfl, hb10⟩
  have hB10 : Below w.heap.size w w10 := hB9.trans (hb10.mono hB9.size)
  have S10 := Lib.hid (S9.out.keepB hb10 (Nat.le_refl _))
  have G10 := Lib.hid (G9.out.keepB hb10 (Nat.le_refl _))
  go_wp2_with fail
  refine (markO_any _ _ _ _ (dropR L key).1 1 w10 G10.out rfl (by omega) (by omega) hsm.out).mono ?_
  rintro e w11 ⟨rfl, ho, hk11⟩
  have hB11 : Below w.heap.size w w11 := hB10.trans (hk11.mono hB4.size)
  have G11 := Lib.hid ho
  clear ho
  have S11 := Lib.hid (S10.out.kept (hk11.block _ (by omega)))
  go_wp2_with fail
  refine (heldLs_any _ _ _ (dropR L key).1 1 w11 G11.out.ls rfl (by omega) (by omega) hsm.out).mono ?_
  rintro e w12 ⟨rfl, hs12⟩
  have hb12 := hs12.below w11.heap.size
  have hB12 : Below w.heap.size w w12 := hB11.trans (hb12.mono hB11.size)
  have S12 := Lib.hid (S11.out.keepB hb12 (Nat.le_refl _))
  have G12 := Lib.hid (G11.out.keepB hb12 (Nat.le_refl _))
  have r0 : decide ((1 : Int) + 3 * ((dropR L key).1.length : Int) < 0) = false := by simp; omega
  have r1 : (((1 : Int) + 3 * ((dropR L key).1.length : Int)) != ((1 : Int) + 3 * ((dropR L key).1.length : Int))) = false := by simp
  go_wp2_with fail
  refine (toLs_any a _ cap L w12 (HI.out.keepB hB12 (Nat.le_refl _)) rfl HLS.out).mono ?_
  rintro e w13 ⟨rfl, ho, hb13⟩
  have O13 := Lib.hid ho
  clear ho
  have hB13 : Below w.heap.size w w13 := hB12.trans (hb13.mono hB12.size)
  have S13 := Lib.hid (S12.out.keepB hb13 (Nat.le_refl _))
  have G13 := Lib.hid (G12.out.keepB hb13 (Nat.le_refl _))
  go_wp2_with fail
  refine (pdrop_any _ _ _ L key w13 O13.out.ls rfl HM.out).mono ?_
  rintro e w14 ⟨ah, ch, rfl, ho, hb14⟩
  have hB14 : Below w.heap.size w w14 := hB13.trans (hb14.mono hB13.size)
  have H14 := Lib.hid ho
  clear ho
  have S14 := Lib.hid (S13.out.keepB hb14 (Nat.le_refl _))
  have G14 := Lib.hid (G13.out.keepB hb14 (Nat.le_refl _))
  go_wp2_with fail
  refine (eqLs_same _ _ _ _ _ (dropR L key).1 w14 H14.out.ls S14.out.ls rfl hsm.out).mono ?_
  rintro e w15 ⟨rfl, hb15⟩
  have hB15 : Below w.heap.size w w15 := hB14.trans (hb15.mono hB14.size)
  have G15 := Lib.hid (G14.out.keepB hb15 (Nat.le_refl _))
  go_wp2_with fail
  refine (heldLs_any _ _ _ (dropR L key).1 1 w15 G15.out.ls rfl (by omega) (by omega) hsm.out).mono ?_
  rintro e w16 ⟨rfl, hs16⟩
  go_wp2
  go_ret
  exact ⟨rfl, hB15.trans (hs16.below _)⟩

set_option maxHeartbeats 2000000 in
theorem exCaSweep (a : Option Addr) (len cap : Nat) (L : List Ls) (now : Int) (w : World) (hz : L.length = len) (h : LsAt w a L) (hm : len ≤ maxLen) :
    Calls Try.prog 5 #[.slice a len cap, .int .i64 now] w fun e w' => e = .returned (.bool true) ∧ Below w.heap.size w w' := by
  have HM := Lib.hid hm
  have HI := Lib.hid h
  clear hm h
  by_cases hl : 1048576 < len
  · have hlf := Lib.hid (leftL_no hl)
    clear hz hl
    go_enter Try.func5, Try.ntmps5
    go_wp2_with fail
    refine (szLs_any a _ cap 1048576 w (by omega) (by omega) HM.out).mono ?_
    rintro e w' ⟨rfl, rfl⟩
    rw [hlf.out]
    go_wp2
    go_ret
    exact ⟨rfl, Below.refl _ _⟩
  subst hz
  have hlf := Lib.hid (leftL_yes (len := L.length) (by omega))
  have hls : L.length ≤ 1048576 := by omega
  have HLS := Lib.hid hls
  have d0 : decide ((1048576 : Int) - (L.length : Int) < 0) = false := by simp; omega
  clear hl hls
  go_enter Try.func5, Try.ntmps5
  go_wp2_with fail
  refine (szLs_any a _ cap 1048576 w (by omega) (by omega) HM.out).mono ?_
  rintro e w' ⟨rfl, rfl⟩
  rw [hlf.out]
  have hsm : Hid ((swR L now).length ≤ 1048576) := by show _ ≤ 1048576; have := swR_len L now; omega
  go_wp2_with fail
  refine (toLs_any a _ cap L w HI.out rfl HLS.out).mono ?_
  rintro e w1 ⟨rfl, ho, hb1⟩
  have O1 := Lib.hid ho
  clear ho
  go_wp2_with fail
  refine (ssweep_any _ _ _ L now w1 O1.out.ls rfl HM.out).mono ?_
  rintro e w3 ⟨gw, cw, rfl, ho, hb3⟩
  have hB3 : Below w.heap.size w w3 := hb1.trans (hb3.mono hb1.size)
  have hgw := ho.blk.2.1
  have S3 := Lib.hid ho
  clear ho
  go_wp2_with fail
  refine (toLs_any a _ cap L w3 (HI.out.keepB hB3 (Nat.le_refl _)) rfl HLS.out).mono ?_
  rintro e w4 ⟨rfl, ho, hb4⟩
  have X4 := Lib.hid ho
  clear ho
  have hB4 : Below w.heap.size w w4 := hB3.trans (hb4.mono hB3.size)
  have S4 := Lib.hid (S3.out.keepB hb4 (Nat.le_refl _))
  have hx4 := X4.out.blk.2.1
  go_wp2_with fail
  refine (psweep_any _ _ _ L now w4 X4.out.ls rfl HM.out).mono ?_
  rintro e w5 ⟨ag, cg, rfl, ho, hb5⟩
  have hB5 : Below w.heap.size w w5 := hB4.trans (hb5.mono hB4.size)
  have G5 := Lib.hid ho
  clear ho
  have S5 := Lib.hid (S4.out.keepB hb5 (Nat.le_refl _))
  have X5 := Lib.hid (X4.out.keepB hb5 (Nat.le_refl _))
  go_wp2_with fail
  refine (eqLs_same _ _ _ _ _ (swR L now) w5 G5.out.ls S5.out.ls rfl hsm.out).mono ?_
  rintro e w6 ⟨rfl, hb6⟩
  have hB6 : Below w.heap.size w w6 := hB5.trans (hb6.mono hB5.size)
  have S6 := Lib.hid (S5.out.keepB hb6 (Nat.le_refl _))
  have X6 := Lib.hid (X5.out.keepB hb6 (Nat.le_refl _))
  have G6 := Lib.hid (G5.out.keepB hb6 (Nat.le_refl _))
  go_wp2_with fail
  refine (toLs_any a _ cap L w6 (HI.out.keepB hB6 (Nat.le_refl _)) rfl HLS.out).mono ?_
  rintro e w7 ⟨rfl, ho, hb7⟩
  have O7 := Lib.hid ho
  clear ho
  have hB7 : Below w.heap.size w w7 := hB6.trans (hb7.mono hB6.size)
  have S7 := Lib.hid (S6.out.keepB hb7 (Nat.le_refl _))
  have X7 := Lib.hid (X6.out.keepB hb7 (Nat.le_refl _))
  have G7 := Lib.hid (G6.out.keepB hb7 (Nat.le_refl _))
  go_wp2_with fail
  refine (eqLs_same _ _ _ _ _ L w7 X7.out.ls O7.out.ls rfl HLS.out).mono ?_
  rintro e w8 ⟨rfl, hb8⟩
  have hB8 : Below w.heap.size w w8 := hB7.trans (hb8.mono hB7.size)
  have S8 := Lib.hid (S7.out.keepB hb8 (Nat.le_refl _))
  have X8 := Lib.hid (X7.out.keepB hb8 (Nat.le_refl _))
  have G8 := Lib.hid (G7.out.keepB hb8 (Nat.le_refl _))
  go_wp2_with fail
  refine (markLs_any _ _ _ _ L 1 w8 X8.out rfl (by omega) (by omega) HLS.out).mono ?_
  rintro e w9 ⟨rfl, _, hk9⟩
  have hB9 : Below w.heap.size w w9 := hB8.trans (hk9.below hB3.size)
  have S9 := Lib.hid (S8.out.kept (hk9.block _ (by omega)))
  have G9 := Lib.hid (G8.out.keptQ fun g hg => hk9.block g (by omega))
  have k0 : decide ((1 : Int) + 3 * (L.length : Int) < 0) = false := by simp; omega
  go_wp2_with fail
  clear k0
  refine (eqLs_same _ _ _ _ _ (swR L now) w9 G9.out.ls S9.out.ls rfl hsm.out).mono ?_
  rintro e w10 ⟨rfl, hb10⟩
  have hB10 : Below w.heap.size w w10 := hB9.trans (hb10.mono hB9.size)
  have S10 := Lib.hid (S9.out.keepB hb10 (Nat.le_refl _))
  have G10 := Lib.hid (G9.out.keepB hb10 (Nat.le_refl _))
  go_wp2_with fail
  refine (markO_any _ _ _ _ (swR L now) 1 w10 G10.out rfl (by omega) (by omega) hsm.out).mono ?_
  rintro e w11 ⟨rfl, ho, hk11⟩
  have hB11 : Below w.heap.size w w11 := hB10.trans (hk11.mono hB4.size)
  have G11 := Lib.hid ho
  clear ho
  have S11 := Lib.hid (S10.out.kept (hk11.block _ (by omega)))
  go_wp2_with fail
  refine (heldLs_any _ _ _ (swR L now) 1 w11 G11.out.ls rfl (by omega) (by omega) hsm.out).mono ?_
  rintro e w12 ⟨rfl, hs12⟩
  have hb12 := hs12.below w11.heap.size
  have hB12 : Below w.heap.size w w12 := hB11.trans (hb12.mono hB11.size)
  have S12 := Lib.hid (S11.out.keepB hb12 (Nat.le_refl _))
  have G12 := Lib.hid (G11.out.keepB hb12 (Nat.le_refl _))
  have r0 : decide ((1 : Int) + 3 * ((swR L now).length : Int) < 0) = false := by simp; omega
  have r1 : (((1 : Int) + 3 * ((swR L now).length : Int)) != ((1 : Int) + 3 * ((swR L now).length : Int))) = false := by simp
  go_wp2_with fail
  refine (toLs_any a _ cap L w12 (HI.out.keepB hB12 (Nat.le_refl _)) rfl HLS.out).mono ?_
  rintro e w13 ⟨rfl, ho, hb13⟩
  have O13 := Lib.hid ho
  clear ho
  have hB13 : Below w.heap.size w w13 := hB12.trans (hb13.mono hB12.size)
  have S13 := Lib.hid (S12.out.keepB hb13 (Nat.le_refl _))
  have G13 := Lib.hid (G12.out.keepB hb13 (Nat.le_refl _))
  go_wp2_with fail
  refine (psweep_any _ _ _ L now w13 O13.out.ls rfl HM.out).mono ?_
  rintro e w14 ⟨ah, ch, rfl, ho, hb14⟩
  have hB14 : Below w.heap.size w w14 := hB13.trans (hb14.mono hB13.size)
  have H14 := Lib.hid ho
  clear ho
  have S14 := Lib.hid (S13.out.keepB hb14 (Nat.le_refl _))
  have G14 := Lib.hid (G13.out.keepB hb14 (Nat.le_refl _))
  go_wp2_with fail
  refine (eqLs_same _ _ _ _ _ (swR L now) w14 H14.out.ls S14.out.ls rfl hsm.out).mono ?_
  rintro e w15 ⟨rfl, hb15⟩
  have hB15 : Below w.heap.size w w15 := hB14.trans (hb15.mono hB14.size)
  have G15 := Lib.hid (G14.out.keepB hb15 (Nat.le_refl _))
  go_wp2_with fail
  refine (heldLs_any _ _ _ (swR L now) 1 w15 G15.out.ls rfl (by omega) (by omega) hsm.out).mono ?_
  rintro e w16 ⟨rfl, hs16⟩
  go_wp2
  go_ret
  exact ⟨rfl, hB15.trans (hs16.below _)⟩

end Go.Proofs.Ytdlapnelehehgab
