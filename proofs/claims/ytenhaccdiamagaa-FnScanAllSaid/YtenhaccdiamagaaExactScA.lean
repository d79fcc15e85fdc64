/- The walk of the exact law of whole scans. -/
import Derived.Test.YtenhaccdiamagaaExactSc
namespace Go.Proofs.Ytenhaccdiamagaa
open Go.RowKit
set_option linter.unusedVariables false
attribute [local go_sem ↓] Go.wp_at_zero Go.wp_at_succ

theorem RowOf.keepB {w w' : World} {B g : Nat} {zs : List Int} (h : RowOf w g zs) (hb : Below B w w') (hB : w.heap.size ≤ B) : RowOf w' g zs := h.kept' (hb.block g (Nat.lt_of_lt_of_le (RowOf.lt' h) hB))
theorem RowOf.heapX {w : World} {g : Nat} {zs : List Int} (h : RowOf w g zs) : ∃ cs, w.heap[g]? = some (.cells cs 3 (0, 0)) ∧ zs.length ≤ cs.size := by
  obtain ⟨cs, hc, hs, _⟩ := h; exact ⟨cs, hc, by omega⟩
theorem leftL_noX {len : Nat} (h : 1048576 < len) : leftL 1048576 len = -1 := by unfold leftL; rw [if_pos (by omega)]
theorem leftL_yesX {len : Nat} (h : len ≤ 1048576) : leftL 1048576 len = 1048576 - len := by unfold leftL; rw [if_neg (by omega)]
theorem sall_as (Z : List Int) (n : Int) (al ak : Option Addr) (ll cl lk ck : Nat) (L : List Ls) (K : List Int) (w : World) (hl : LsAt w al L) (hk : IntsAt w ak K) (hzl : L.length = ll) (hzk : K.length = lk) (hlm : ll ≤ maxLen) (hkm : lk ≤ maxLen) (he : allR L K = (Z, n)) :
    Calls Try.prog 29 #[.slice al ll cl, .slice ak lk ck] w (NewIntsN Z n w) := by
  have := sall_any al ak ll cl lk ck L K w hl hk hzl hzk hlm hkm; rw [he] at this; exact this
theorem pall_as (Z : List Int) (n : Int) (al ak : Option Addr) (ll cl lk ck : Nat) (L : List Ls) (K : List Int) (w : World) (hl : LsAt w al L) (hk : IntsAt w ak K) (hzl : L.length = ll) (hzk : K.length = lk) (hlm : ll ≤ maxLen) (hkm : lk ≤ maxLen) (he : allR L K = (Z, n)) :
    Calls Try.prog 28 #[.slice al ll cl, .slice ak lk ck] w (NewIntsN Z n w) := by
  have := pall_any al ak ll cl lk ck L K w hl hk hzl hzk hlm hkm; rw [he] at this; exact this

set_option maxRecDepth 20000 in
set_option maxHeartbeats 4000000 in
theorem exScanAll (a : Option Addr) (len cap : Nat) (L : List Ls) (b : Option Addr) (len2 cap2 : Nat) (K : List Int) (w : World) (hz : L.length = len) (h : LsAt w a L) (hm : len ≤ maxLen) (hz2 : K.length = len2) (h2 : IntsAt w b K) (hm2 : len2 ≤ maxLen) :
    Calls Try.prog 14 #[.slice a len cap, .slice b len2 cap2] w fun e w' => e = .returned (.bool true) ∧ Below w.heap.size w w' := by
  have HM := Lib.hid hm
  have HI := Lib.hid h
  have HM2 := Lib.hid hm2
  have HJ := Lib.hid h2
  have hm2' := hm2
  unfold maxLen at hm2'
  clear hm h hm2 h2
  by_cases hk2 : 1048576 < len2
  · clear hz hz2
    go_enter Try.func14, Try.ntmps14
    go_wp2
    go_ret
    exact ⟨rfl, Below.refl _ _⟩
  by_cases hl : 1048576 < len
  · have hlf := Lib.hid (leftL_noX hl)
    clear hz hl hz2
    go_enter Try.func14, Try.ntmps14
    go_wp2_with fail
    refine (szLs_any a _ cap 1048576 w (by omega) (by omega) HM.out).mono ?_
    rintro e w' ⟨rfl, rfl⟩
    rw [hlf.out]
    go_wp2
    go_ret
    exact ⟨rfl, Below.refl _ _⟩
  subst hz
  subst hz2
  have hlf := Lib.hid (leftL_yesX (len := L.length) (by omega))
  have HLS : Hid (L.length ≤ 1048576) := by show _ ≤ _; omega
  have HLS2 : Hid (K.length ≤ 1048576) := by show _ ≤ _; omega
  have hL := HLS.out
  have hK := HLS2.out
  have d0 : decide ((1048576 : Int) - (L.length : Int) < 0) = false := by simp; omega
  obtain ⟨Z, hZ⟩ : ∃ Z, Z = (allR L K).1 := ⟨_, rfl⟩
  obtain ⟨n, hn⟩ : ∃ n, n = (allR L K).2 := ⟨_, rfl⟩
  have HR : Hid (allR L K = (Z, n)) := by show _ = _; rw [hZ, hn]
  have HSM : Hid (Z.length ≤ 1048576) := by show _ ≤ _; rw [hZ]; have := allR_len L K; omega
  have q1 : (n != n) = false := by simp
  clear hl hk2 hm2' hZ hn
  go_enter Try.func14, Try.ntmps14
  go_wp2_with fail
  refine (szLs_any a _ cap 1048576 w (by omega) (by omega) HM.out).mono ?_
  rintro e w' ⟨rfl, rfl⟩
  rw [hlf.out]
  go_wp2_with fail
  refine (toLs_any a _ cap L w (HI.out.keepB (Below.refl _ _) (Nat.le_refl _)) rfl HLS.out).mono ?_
  rintro e w1 ⟨rfl, ho, hb1⟩
  have B1 : Hid (Below w.heap.size w w1) := hb1
  have sz1 := hb1.size
  have P1 := Lib.hid (ho)
  clear hb1 ho
  go_wp2_with fail
  refine (toInts_any b _ cap2 K w1 (HJ.out.keepB B1.out (Nat.le_refl _)) rfl HLS2.out).mono ?_
  rintro e w2 ⟨rfl, hr, hb2, hsz2⟩
  have B2 : Hid (Below w.heap.size w w2) := B1.out.trans (hb2.mono B1.out.size)
  have sz2 := hb2.size
  have P2 := Lib.hid (P1.out.keepB hb2 (Nat.le_refl _))
  have Q2 := Lib.hid (hr)
  clear hb2 hr hsz2
  go_wp2_with fail
  refine (sall_as Z n _ _ _ _ _ _ L K w2 P2.out.ls Q2.out.ints rfl rfl HM.out HM2.out HR.out).mono ?_
  rintro e w3 ⟨aS, cS, rfl, ho, hb3⟩
  have B3 : Hid (Below w.heap.size w w3) := B2.out.trans (hb3.mono B2.out.size)
  have sz3 := hb3.size
  have P3 := Lib.hid (P2.out.keepB hb3 (Nat.le_refl _))
  have Q3 := Lib.hid (Q2.out.keepB hb3 (Nat.le_refl _))
  have S3 := Lib.hid (ho)
  clear hb3
  have BS : Hid (∀ x, aS = some x → w2.heap.size ≤ x.block ∧ x.block < w3.heap.size) := fun x hx => own_blkS ho hx
  clear ho
  go_wp2_with fail
  refine (toLs_any a _ cap L w3 (HI.out.keepB B3.out (Nat.le_refl _)) rfl HLS.out).mono ?_
  rintro e w4 ⟨rfl, ho, hb4⟩
  have B4 : Hid (Below w.heap.size w w4) := B3.out.trans (hb4.mono B3.out.size)
  have sz4 := hb4.size
  have S4 := Lib.hid (S3.out.keepB hb4 (Nat.le_refl _))
  have X4 := Lib.hid (ho)
  clear hb4 ho
  go_wp2_with fail
  refine (toInts_any b _ cap2 K w4 (HJ.out.keepB B4.out (Nat.le_refl _)) rfl HLS2.out).mono ?_
  rintro e w5 ⟨rfl, hr, hb5, hsz5⟩
  have B5 : Hid (Below w.heap.size w w5) := B4.out.trans (hb5.mono B4.out.size)
  have sz5 := hb5.size
  have S5 := Lib.hid (S4.out.keepB hb5 (Nat.le_refl _))
  have X5 := Lib.hid (X4.out.keepB hb5 (Nat.le_refl _))
  have Y5 := Lib.hid (hr)
  clear hb5 hr hsz5
  go_wp2_with fail
  refine (pall_as Z n _ _ _ _ _ _ L K w5 X5.out.ls Y5.out.ints rfl rfl HM.out HM2.out HR.out).mono ?_
  rintro e w6 ⟨aG, cG, rfl, ho, hb6⟩
  have B6 : Hid (Below w.heap.size w w6) := B5.out.trans (hb6.mono B5.out.size)
  have sz6 := hb6.size
  have S6 := Lib.hid (S5.out.keepB hb6 (Nat.le_refl _))
  have X6 := Lib.hid (X5.out.keepB hb6 (Nat.le_refl _))
  have Y6 := Lib.hid (Y5.out.keepB hb6 (Nat.le_refl _))
  have G6 := Lib.hid (ho)
  clear hb6
  have BG : Hid (∀ x, aG = some x → w5.heap.size ≤ x.block ∧ x.block < w6.heap.size) := fun x hx => own_blkS ho hx
  clear ho
  go_wp2_with fail
  refine (eqInts_same _ _ _ _ _ Z w6 (own_intsS G6.out) (own_intsS S6.out) rfl HSM.out).mono ?_
  rintro e w7 ⟨rfl, hs7⟩
  have hb7 := hs7.below w6.heap.size
  have B7 : Hid (Below w.heap.size w w7) := B6.out.trans (hb7.mono B6.out.size)
  have sz7 := hb7.size
  have S7 := Lib.hid (S6.out.keepB hb7 (Nat.le_refl _))
  have X7 := Lib.hid (X6.out.keepB hb7 (Nat.le_refl _))
  have Y7 := Lib.hid (Y6.out.keepB hb7 (Nat.le_refl _))
  have G7 := Lib.hid (G6.out.keepB hb7 (Nat.le_refl _))
  clear hb7 hs7
  go_wp2_with fail
  refine (toLs_any a _ cap L w7 (HI.out.keepB B7.out (Nat.le_refl _)) rfl HLS.out).mono ?_
  rintro e w8 ⟨rfl, ho, hb8⟩
  have B8 : Hid (Below w.heap.size w w8) := B7.out.trans (hb8.mono B7.out.size)
  have sz8 := hb8.size
  have S8 := Lib.hid (S7.out.keepB hb8 (Nat.le_refl _))
  have X8 := Lib.hid (X7.out.keepB hb8 (Nat.le_refl _))
  have Y8 := Lib.hid (Y7.out.keepB hb8 (Nat.le_refl _))
  have G8 := Lib.hid (G7.out.keepB hb8 (Nat.le_refl _))
  have U8 := Lib.hid (ho)
  clear hb8 ho
  go_wp2_with fail
  refine (eqLs_same _ _ _ _ _ L w8 X8.out.ls U8.out.ls rfl HLS.out).mono ?_
  rintro e w9 ⟨rfl, hb9⟩
  have B9 : Hid (Below w.heap.size w w9) := B8.out.trans (hb9.mono B8.out.size)
  have sz9 := hb9.size
  have S9 := Lib.hid (S8.out.keepB hb9 (Nat.le_refl _))
  have X9 := Lib.hid (X8.out.keepB hb9 (Nat.le_refl _))
  have Y9 := Lib.hid (Y8.out.keepB hb9 (Nat.le_refl _))
  have G9 := Lib.hid (G8.out.keepB hb9 (Nat.le_refl _))
  have U9 := Lib.hid (U8.out.keepB hb9 (Nat.le_refl _))
  clear hb9
  go_wp2_with fail
  refine (toInts_any b _ cap2 K w9 (HJ.out.keepB B9.out (Nat.le_refl _)) rfl HLS2.out).mono ?_
  rintro e w10 ⟨rfl, hr, hb10, hsz10⟩
  have B10 : Hid (Below w.heap.size w w10) := B9.out.trans (hb10.mono B9.out.size)
  have sz10 := hb10.size
  have S10 := Lib.hid (S9.out.keepB hb10 (Nat.le_refl _))
  have X10 := Lib.hid (X9.out.keepB hb10 (Nat.le_refl _))
  have Y10 := Lib.hid (Y9.out.keepB hb10 (Nat.le_refl _))
  have G10 := Lib.hid (G9.out.keepB hb10 (Nat.le_refl _))
  have V10 := Lib.hid (hr)
  clear hb10 hr hsz10
  go_wp2_with fail
  refine (eqInts_same _ _ _ _ _ K w10 Y10.out.ints V10.out.ints rfl HLS2.out).mono ?_
  rintro e w11 ⟨rfl, hs11⟩
  have hb11 := hs11.below w10.heap.size
  have B11 : Hid (Below w.heap.size w w11) := B10.out.trans (hb11.mono B10.out.size)
  have sz11 := hb11.size
  have S11 := Lib.hid (S10.out.keepB hb11 (Nat.le_refl _))
  have X11 := Lib.hid (X10.out.keepB hb11 (Nat.le_refl _))
  have Y11 := Lib.hid (Y10.out.keepB hb11 (Nat.le_refl _))
  have G11 := Lib.hid (G10.out.keepB hb11 (Nat.le_refl _))
  have V11 := Lib.hid (V10.out.keepB hb11 (Nat.le_refl _))
  clear hb11 hs11
  have bx := X4.out.blk.2.1
  have by_ := RowOf.lt' Y5.out
  go_wp2_with fail
  refine (markLs_any _ _ _ _ L 1 w11 X11.out rfl (by omega) (by omega) HLS.out).mono ?_
  rintro e w12 ⟨rfl, _, hk12⟩
  have hb12 : Below w.heap.size w11 w12 := hk12.below (by have := B3.out.size; omega)
  have B12 : Hid (Below w.heap.size w w12) := B11.out.trans hb12
  have sz12 := hb12.size
  have S12 := Lib.hid (own_atS S11.out (fun x hx => hk12.block _ (by have := BS.out x hx; omega)))
  have Y12 := Lib.hid (Y11.out.kept' (hk12.block _ (by omega)))
  have G12 := Lib.hid (own_atS G11.out (fun x hx => hk12.block _ (by have := BG.out x hx; omega)))
  clear hb12
  go_wp2_with fail
  refine (markInts_any _ K.length K.length (1 + 3 * (L.length : Int)) w12 Y12.out.heapX (by omega) (by omega) HLS2.out).mono ?_
  rintro e w13 ⟨rfl, hm13⟩
  have hb13 : Below w.heap.size w12 w13 := hm13.1.below (by have := B3.out.size; omega)
  have B13 : Hid (Below w.heap.size w w13) := B12.out.trans hb13
  have sz13 := hb13.size
  have S13 := Lib.hid (own_atS S12.out (fun x hx => hm13.1.block _ (by have := BS.out x hx; omega)))
  have G13 := Lib.hid (own_atS G12.out (fun x hx => hm13.1.block _ (by have := BG.out x hx; omega)))
  clear hb13 hm13
  have k0 : decide ((1 : Int) + 3 * (L.length : Int) + (K.length : Int) < 0) = false := by simp; omega
  go_wp2_with fail
  refine (eqInts_same _ _ _ _ _ Z w13 (own_intsS G13.out) (own_intsS S13.out) rfl HSM.out).mono ?_
  rintro e w14 ⟨rfl, hs14⟩
  have hb14 := hs14.below w13.heap.size
  have B14 : Hid (Below w.heap.size w w14) := B13.out.trans (hb14.mono B13.out.size)
  have sz14 := hb14.size
  have S14 := Lib.hid (S13.out.keepB hb14 (Nat.le_refl _))
  have G14 := Lib.hid (G13.out.keepB hb14 (Nat.le_refl _))
  clear hb14 hs14
  clear k0
  go_wp2_with fail
  refine (marks_any _ Z.length _ 1 w14 (owned_own G14.out) (by omega) (by omega) HSM.out).mono ?_
  rintro e w15 ⟨rfl, hi15, hk15⟩
  have hb15 : Below w.heap.size w14 w15 := hk15.below (by have := B14.out.size; omega) (fun y hy => by have := BG.out y hy; have := B3.out.size; omega)
  have B15 : Hid (Below w.heap.size w w15) := B14.out.trans hb15
  have sz15 := hb15.size
  have S15 := Lib.hid (own_atS S14.out (fun x hx => hk15.block _ (by have := BS.out x hx; omega) (fun y hy => by have := BS.out x hx; have := BG.out y hy; omega)))
  have M15 := Lib.hid (hi15)
  clear hb15 hi15
  have r0 : decide ((1 : Int) + (Z.length : Int) < 0) = false := by simp; omega
  have r1 : (((1 : Int) + (Z.length : Int)) != ((1 : Int) + (Z.length : Int))) = false := by simp
  go_wp2_with fail
  refine (heldInts_any _ _ _ 1 w15 M15.out (by omega) (by omega) HSM.out).mono ?_
  rintro e w16 ⟨rfl, hs16⟩
  have hb16 := hs16.below w15.heap.size
  have B16 : Hid (Below w.heap.size w w16) := B15.out.trans (hb16.mono B15.out.size)
  have sz16 := hb16.size
  have S16 := Lib.hid (S15.out.keepB hb16 (Nat.le_refl _))
  have M16 := Lib.hid (M15.out.keepB hb16 (Nat.le_refl _))
  clear hb16 hs16
  go_wp2_with fail
  refine (toLs_any a _ cap L w16 (HI.out.keepB B16.out (Nat.le_refl _)) rfl HLS.out).mono ?_
  rintro e w17 ⟨rfl, ho, hb17⟩
  have B17 : Hid (Below w.heap.size w w17) := B16.out.trans (hb17.mono B16.out.size)
  have sz17 := hb17.size
  have S17 := Lib.hid (S16.out.keepB hb17 (Nat.le_refl _))
  have M17 := Lib.hid (M16.out.keepB hb17 (Nat.le_refl _))
  have P17 := Lib.hid (ho)
  clear hb17 ho
  go_wp2_with fail
  refine (toInts_any b _ cap2 K w17 (HJ.out.keepB B17.out (Nat.le_refl _)) rfl HLS2.out).mono ?_
  rintro e w18 ⟨rfl, hr, hb18, hsz18⟩
  have B18 : Hid (Below w.heap.size w w18) := B17.out.trans (hb18.mono B17.out.size)
  have sz18 := hb18.size
  have S18 := Lib.hid (S17.out.keepB hb18 (Nat.le_refl _))
  have M18 := Lib.hid (M17.out.keepB hb18 (Nat.le_refl _))
  have P18 := Lib.hid (P17.out.keepB hb18 (Nat.le_refl _))
  have Q18 := Lib.hid (hr)
  clear hb18 hr hsz18
  go_wp2_with fail
  refine (pall_as Z n _ _ _ _ _ _ L K w18 P18.out.ls Q18.out.ints rfl rfl HM.out HM2.out HR.out).mono ?_
  rintro e w19 ⟨aH, cH, rfl, ho, hb19⟩
  have B19 : Hid (Below w.heap.size w w19) := B18.out.trans (hb19.mono B18.out.size)
  have sz19 := hb19.size
  have S19 := Lib.hid (S18.out.keepB hb19 (Nat.le_refl _))
  have M19 := Lib.hid (M18.out.keepB hb19 (Nat.le_refl _))
  have P19 := Lib.hid (P18.out.keepB hb19 (Nat.le_refl _))
  have Q19 := Lib.hid (Q18.out.keepB hb19 (Nat.le_refl _))
  have H19 := Lib.hid (ho)
  clear hb19
  have BH : Hid (∀ x, aH = some x → w18.heap.size ≤ x.block ∧ x.block < w19.heap.size) := fun x hx => own_blkS ho hx
  clear ho
  go_wp2_with fail
  refine (eqInts_same _ _ _ _ _ Z w19 (own_intsS H19.out) (own_intsS S19.out) rfl HSM.out).mono ?_
  rintro e w20 ⟨rfl, hs20⟩
  have hb20 := hs20.below w19.heap.size
  have B20 : Hid (Below w.heap.size w w20) := B19.out.trans (hb20.mono B19.out.size)
  have sz20 := hb20.size
  have S20 := Lib.hid (S19.out.keepB hb20 (Nat.le_refl _))
  have M20 := Lib.hid (M19.out.keepB hb20 (Nat.le_refl _))
  have P20 := Lib.hid (P19.out.keepB hb20 (Nat.le_refl _))
  have Q20 := Lib.hid (Q19.out.keepB hb20 (Nat.le_refl _))
  have H20 := Lib.hid (H19.out.keepB hb20 (Nat.le_refl _))
  clear hb20 hs20
  go_wp2_with fail
  refine (heldInts_any _ _ _ 1 w20 M20.out (by omega) (by omega) HSM.out).mono ?_
  rintro e wz ⟨rfl, hsz⟩
  go_wp2
  go_ret
  exact ⟨rfl, B20.out.trans (hsz.below _)⟩
end Go.Proofs.Ytenhaccdiamagaa
