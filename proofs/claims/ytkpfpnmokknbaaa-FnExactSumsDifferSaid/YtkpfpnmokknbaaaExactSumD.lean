/- The walk of the exact law of comparing trees of sums. -/
import Derived.Test.YtkpfpnmokknbaaaExactSum
namespace Go.Proofs.Ytkpfpnmokknbaaa
open Go.RowKit
set_option linter.unusedVariables false

theorem dfL_len (xs ys : List Int) : (dfL xs ys).length ≤ 31 := by
  unfold dfL
  by_cases h : dfB xs ys = true
  · rw [if_pos h]; exact outL_len_le _ _
  · rw [if_neg h]; exact Nat.zero_le _

set_option maxHeartbeats 4000000 in
theorem exSumsDiffer (a : Option Addr) (len cap : Nat) (z : List Int) (a' : Option Addr) (len' cap' : Nat) (z' : List Int) (w : World) (h : RowInts w a len cap z) (h' : RowInts w a' len' cap' z') :
    Calls Try.prog 14 #[.slice a len cap, .slice a' len' cap'] w fun e w' => e = .returned (.bool true) ∧ Below w.heap.size w w' := by
  obtain ⟨xs, hz, hi, hm⟩ := ints_of_row h
  obtain ⟨ys, hz', hi', hm'⟩ := ints_of_row h'
  clear h h'
  by_cases hl : 1048576 < len
  · unfold maxLen at hm
    clear hz hi hz' hi'
    go_enter Try.func14, Try.ntmps14
    go_wp2
    go_ret
    exact ⟨rfl, Below.refl _ _⟩
  by_cases hl' : 1048576 < len'
  · unfold maxLen at hm'
    clear hz hi hz' hi'
    go_enter Try.func14, Try.ntmps14
    go_wp2
    go_ret
    exact ⟨rfl, Below.refl _ _⟩
  subst hz
  subst hz'
  have HI := Lib.hid hi
  have HI' := Lib.hid hi'
  clear hi hm hi' hm'
  have hmx : xs.length ≤ maxLen := by unfold maxLen; omega
  have HM := Lib.hid hmx
  have hmx' : ys.length ≤ maxLen := by unfold maxLen; omega
  have HM' := Lib.hid hmx'
  clear hmx hmx'
  obtain ⟨L, hL⟩ : ∃ L, L = dfL xs ys := ⟨_, rfl⟩
  obtain ⟨N, hN⟩ : ∃ N, N = dfN xs ys := ⟨_, rfl⟩
  have HSP : Hid (∀ (a1 a2 : Option Addr) (c1 c2 : Nat) (W : World), IntsAt W a1 xs → xs.length ≤ c1 → IntsAt W a2 ys → ys.length ≤ c2 → Calls Try.prog 24 #[.slice a1 xs.length c1, .slice a2 ys.length c2] W (NewIntsN L N W)) := fun a1 a2 c1 c2 W k1 k2 k3 k4 => by
    rw [hL, hN]; exact ssumsdiffer_any a1 a2 _ c1 _ c2 xs ys W k1 rfl HM.out k2 k3 rfl HM'.out k4
  have HIM : Hid (∀ (a1 a2 : Option Addr) (c1 c2 : Nat) (W : World), IntsAt W a1 xs → xs.length ≤ c1 → IntsAt W a2 ys → ys.length ≤ c2 → Calls Try.prog 23 #[.slice a1 xs.length c1, .slice a2 ys.length c2] W (NewIntsN L N W)) := fun a1 a2 c1 c2 W k1 k2 k3 k4 => by
    rw [hL, hN]; exact sumsdiffer_any a1 a2 _ c1 _ c2 xs ys W k1 rfl HM.out k2 k3 rfl HM'.out k4
  have hsm : L.length ≤ 1048576 := by have := dfL_len xs ys; rw [hL]; omega
  have hnn : (N != N) = false := by simp
  clear hL hN
  go_enter Try.func14, Try.ntmps14
  go_wp2_with fail
  refine (toInts_any a _ cap xs w HI.out rfl (by omega)).mono ?_
  rintro e wa ⟨rfl, hra, hba, hsa⟩
  have HRA := Lib.hid hra
  clear hsa hra
  go_wp2_with fail
  refine (toInts_any a' _ cap' ys wa (HI'.out.keepB hba (Nat.le_refl _)) rfl (by omega)).mono ?_
  rintro e w1 ⟨rfl, hr1, hb1, hs1⟩
  have HR1 := Lib.hid hr1
  have HRA1 := Lib.hid (HRA.out.ints.keepB hb1 (Nat.le_refl _))
  have hB1 : Below w.heap.size w w1 := hba.trans (hb1.mono hba.size)
  clear hs1 hr1
  go_wp2_with fail
  refine (HSP.out _ _ _ _ w1 HRA1.out (Nat.le_refl _) HR1.out.ints (Nat.le_refl _)).mono ?_
  rintro e w3 ⟨gw, cw, rfl, how, hb3⟩
  have hB3 : Below w.heap.size w w3 := hB1.trans (hb3.mono hB1.size)
  have W3 := Lib.hid how.ints
  have hgw := how.lt.2
  clear how
  go_wp2_with fail
  refine (toInts_any a _ cap xs w3 (HI.out.keepB hB3 (Nat.le_refl _)) rfl (by omega)).mono ?_
  rintro e wb ⟨rfl, hrb, hbb, hsb⟩
  have HRB := Lib.hid hrb
  clear hsb hrb
  have hBb : Below w.heap.size w wb := hB3.trans (hbb.mono hB3.size)
  go_wp2_with fail
  refine (toInts_any a' _ cap' ys wb (HI'.out.keepB hBb (Nat.le_refl _)) rfl (by omega)).mono ?_
  rintro e w4 ⟨rfl, hr4, hb4, hs4⟩
  have HR4 := Lib.hid hr4
  have HRB4 := Lib.hid (HRB.out.ints.keepB hb4 (Nat.le_refl _))
  have hltb : w3.heap.size < wb.heap.size := by obtain ⟨cs, hc, _⟩ := HRB.out; exact heap_lt hc
  clear hs4 hr4
  have hB4 : Below w.heap.size w w4 := hBb.trans (hb4.mono hBb.size)
  go_wp2_with fail
  refine (HIM.out _ _ _ _ w4 HRB4.out (Nat.le_refl _) HR4.out.ints (Nat.le_refl _)).mono ?_
  rintro e w5 ⟨gg, cg, rfl, hog, hb5⟩
  have hB5 : Below w.heap.size w w5 := hB4.trans (hb5.mono hB4.size)
  have HG := Lib.hid hog
  have hgg := hog.lt
  have s3 := hbb.size
  have s4 := hb4.size
  clear hog
  have hB35 : Below w3.heap.size w3 w5 := hbb.trans ((hb4.mono s3).trans (hb5.mono (by omega)))
  have W5 := Lib.hid (W3.out.blk (hB35.block gw hgw))
  go_wp2_with fail
  refine (eqInts_same _ _ _ _ _ L w5 HG.out.ints W5.out rfl hsm).mono ?_
  rintro e w6 ⟨rfl, hs6⟩
  have hB6 : Below w.heap.size w w6 := hB5.trans (hs6.below _)
  go_wp2_with fail
  refine (toInts_any a _ cap xs w6 (HI.out.keepB hB6 (Nat.le_refl _)) rfl (by omega)).mono ?_
  rintro e w7 ⟨rfl, hr7, hb7, hs7⟩
  have HR7 := Lib.hid hr7
  clear hs7 hr7
  have hB57 : Below w5.heap.size w5 w7 := (hs6.below _).trans (hb7.mono (by have := hs6.below 0 |>.size; omega))
  go_wp2_with fail
  refine (eqInts_same _ _ _ _ _ xs w7 (HRB4.out.keepB (hb5.trans (hB57.mono hb5.size)) (Nat.le_refl _)) HR7.out.ints rfl (by omega)).mono ?_
  rintro e w8a ⟨rfl, hs8a⟩
  have hB58a : Below w5.heap.size w5 w8a := hB57.trans (hs8a.below _)
  have hB8a : Below w.heap.size w w8a := hB5.trans (hB58a.mono hB5.size)
  go_wp2_with fail
  refine (toInts_any a' _ cap' ys w8a (HI'.out.keepB hB8a (Nat.le_refl _)) rfl (by omega)).mono ?_
  rintro e w7b ⟨rfl, hr7b, hb7b, hs7b⟩
  have HR7B := Lib.hid hr7b
  clear hs7b hr7b
  have hB57b : Below w5.heap.size w5 w7b := hB58a.trans (hb7b.mono hB58a.size)
  go_wp2_with fail
  refine (eqInts_same _ _ _ _ _ ys w7b (HR4.out.ints.keepB (hb5.trans (hB57b.mono hb5.size)) (Nat.le_refl _)) HR7B.out.ints rfl (by omega)).mono ?_
  rintro e w8 ⟨rfl, hs8⟩
  have hB58 : Below w5.heap.size w5 w8 := hB57b.trans (hs8.below _)
  have hB48 : Below w4.heap.size w4 w8 := hb5.trans (hB58.mono hb5.size)
  have hB8 : Below w.heap.size w w8 := hB5.trans (hB58.mono hB5.size)
  have hx8 : Hid (∃ cs, w8.heap[w3.heap.size]? = some (.cells cs 3 (0, 0)) ∧ xs.length ≤ cs.size) := by
    show ∃ cs, w8.heap[w3.heap.size]? = some (.cells cs 3 (0, 0)) ∧ xs.length ≤ cs.size
    obtain ⟨cs, hc, hs, _⟩ := HRB.out
    exact ⟨cs, (hB48.block _ (by omega)).trans ((hb4.block _ (heap_lt hc)).trans hc), by omega⟩
  have hy8 : Hid (∃ cs, w8.heap[wb.heap.size]? = some (.cells cs 3 (0, 0)) ∧ ys.length ≤ cs.size) := by
    show ∃ cs, w8.heap[wb.heap.size]? = some (.cells cs 3 (0, 0)) ∧ ys.length ≤ cs.size
    obtain ⟨cs, hc, hs, _⟩ := HR4.out
    exact ⟨cs, (hB48.block _ (heap_lt hc)).trans hc, by omega⟩
  go_wp2_with fail
  refine (markInts_any w3.heap.size xs.length xs.length 1 w8 hx8.out (by omega) (by omega) (by omega)).mono ?_
  rintro e w9a ⟨rfl, hm9a⟩
  have hk9a := hm9a.1
  clear hm9a
  have hB9a : Below w.heap.size w w9a := hB8.trans (hk9a.below hB3.size)
  have hlt4 : wb.heap.size < w4.heap.size := by obtain ⟨cs, hc, _⟩ := HR4.out; exact heap_lt hc
  have hy9 : Hid (∃ cs, w9a.heap[wb.heap.size]? = some (.cells cs 3 (0, 0)) ∧ ys.length ≤ cs.size) := by
    show ∃ cs, w9a.heap[wb.heap.size]? = some (.cells cs 3 (0, 0)) ∧ ys.length ≤ cs.size
    obtain ⟨cs, hc, hs⟩ := hy8.out
    exact ⟨cs, (hk9a.block _ (by omega)).trans hc, hs⟩
  go_wp2_with fail
  refine (markInts_any wb.heap.size ys.length ys.length (1 + xs.length) w9a hy9.out (by omega) (by omega) (by omega)).mono ?_
  rintro e w9 ⟨rfl, hm9⟩
  have hk9 := hm9.1
  clear hm9
  have hB9 : Below w.heap.size w w9 := hB9a.trans (hk9.below hBb.size)
  have G9 : Hid (OwnI w9 w4.heap.size (some ⟨gg, 0, none⟩) cg L) := HG.out.kept (fun g h1 h2 => (hk9.block g (by omega)).trans ((hk9a.block g (by omega)).trans (hB58.block g h2)))
  have W9 := Lib.hid (W5.out.blk ((hk9.block gw (by omega)).trans ((hk9a.block gw (by omega)).trans (hB58.block gw (by have := hB35.size; omega)))))
  have k0 : decide ((1 : Int) + (xs.length : Int) + (ys.length : Int) < 0) = false := by simp; omega
  go_wp2_with fail
  clear k0
  refine (eqInts_same _ _ _ _ _ L w9 G9.out.ints W9.out rfl hsm).mono ?_
  rintro e w10 ⟨rfl, hs10⟩
  have hB10 : Below w.heap.size w w10 := hB9.trans (hs10.below _)
  have G10 : Hid (OwnI w10 w4.heap.size (some ⟨gg, 0, none⟩) cg L) := G9.out.kept (fun g h1 h2 => (hs10.below w9.heap.size).block g h2)
  have W10 := Lib.hid (W9.out.blk ((hs10.below w9.heap.size).block gw (by have := G9.out.lt; omega)))
  go_wp2_with fail
  refine (markInts_any gg _ cg 1 w10 G10.out.blk (by omega) (by omega) hsm).mono ?_
  rintro e w11 ⟨rfl, hm11⟩
  have HM11 := Lib.hid hm11
  clear hm11
  have hB11 : Below w.heap.size w w11 := hB10.trans (HM11.out.1.below (by have := hB4.size; omega))
  have W11 := Lib.hid (W10.out.blk (HM11.out.1.block gw (by omega)))
  go_wp2_with fail
  refine (heldInts_any _ _ _ 1 w11 HM11.out.ints (by omega) (by omega) hsm).mono ?_
  rintro e w12 ⟨rfl, hs12⟩
  have hB12 : Below w.heap.size w w12 := hB11.trans (hs12.below _)
  have q0 : decide ((1 : Int) + (L.length : Int) < 0) = false := by simp; omega
  have q1 : (((1 : Int) + (L.length : Int)) != ((1 : Int) + (L.length : Int))) = false := by simp
  go_wp2_with fail
  refine (toInts_any a _ cap xs w12 (HI.out.keepB hB12 (Nat.le_refl _)) rfl (by omega)).mono ?_
  rintro e wc ⟨rfl, hrc, hbc, hsc⟩
  have HRC := Lib.hid hrc
  clear hsc hrc
  have hBc : Below w.heap.size w wc := hB12.trans (hbc.mono hB12.size)
  go_wp2_with fail
  refine (toInts_any a' _ cap' ys wc (HI'.out.keepB hBc (Nat.le_refl _)) rfl (by omega)).mono ?_
  rintro e w13 ⟨rfl, hr13, hb13, hs13⟩
  have HR13 := Lib.hid hr13
  have HRC13 := Lib.hid (HRC.out.ints.keepB hb13 (Nat.le_refl _))
  clear hs13 hr13
  go_wp2_with fail
  refine (HIM.out _ _ _ _ w13 HRC13.out (Nat.le_refl _) HR13.out.ints (Nat.le_refl _)).mono ?_
  rintro e w14 ⟨gh, ch, rfl, hoh, hb14⟩
  have HH := Lib.hid hoh
  clear hoh
  have hB1114 : Below w11.heap.size w11 w14 := (hs12.below _).trans ((hbc.mono (by have := hs12.below 0 |>.size; omega)).trans ((hb13.mono (by have := hs12.below 0 |>.size; have := hbc.size; omega)).trans (hb14.mono (by have := hs12.below 0 |>.size; have := hbc.size; have := hb13.size; omega))))
  have hgl : gw < w11.heap.size := by have h1 := G10.out.lt; have h2 := HM11.out.1.size; omega
  have W14 := Lib.hid (W11.out.blk (hB1114.block gw hgl))
  go_wp2_with fail
  refine (eqInts_same _ _ _ _ _ L w14 HH.out.ints W14.out rfl hsm).mono ?_
  rintro e w15 ⟨rfl, hs15⟩
  have hB1115 : Below w11.heap.size w11 w15 := hB1114.trans (hs15.below _)
  go_wp2_with fail
  refine (heldInts_any _ _ _ 1 w15 (HM11.out.ints.keepB hB1115 (Nat.le_refl _)) (by omega) (by omega) hsm).mono ?_
  rintro e w16 ⟨rfl, hs16⟩
  go_wp2
  go_ret
  exact ⟨rfl, hB11.trans ((hB1115.mono hB11.size).trans (hs16.below _))⟩

end Go.Proofs.Ytkpfpnmokknbaaa
