/- The walks of the exact laws of trees of sums. -/
import Derived.Test.YtkpfpnmokknbaaaSmS4
import Derived.Test.YtkpfpnmokknbaaaExactNodes
namespace Go.Proofs.Ytkpfpnmokknbaaa
open Go.RowKit
set_option linter.unusedVariables false

theorem sumsL_len (zs : List Int) : (sumsL zs).length ≤ 31 := by
  unfold sumsL
  by_cases h : leavesB zs = true
  · rw [if_pos h, bld_len]; exact Nat.le_refl _
  · rw [if_neg h]; exact Nat.zero_le _
theorem sumsSetL_len (zs : List Int) (leaf v : Int) : (sumsSetL zs leaf v).length ≤ 31 := by
  unfold sumsSetL
  by_cases h : (treeB zs && leafB leaf && sB v) = true
  · rw [if_pos h, setL, bld_len]; exact Nat.le_refl _
  · rw [if_neg h]; exact Nat.zero_le _

set_option maxHeartbeats 2000000 in
theorem exSumsOf (a : Option Addr) (len cap : Nat) (z : List Int) (w : World) (h : RowInts w a len cap z) :
    Calls Try.prog 12 #[.slice a len cap] w fun e w' => e = .returned (.bool true) ∧ Below w.heap.size w w' := by
  obtain ⟨zs, hz, hi, hm⟩ := ints_of_row h
  clear h
  by_cases hl : 1048576 < len
  · unfold maxLen at hm
    clear hz hi
    go_enter Try.func12, Try.ntmps12
    go_wp2
    go_ret
    exact ⟨rfl, Below.refl _ _⟩
  subst hz
  have HI := Lib.hid hi
  clear hi hm
  have hmx : zs.length ≤ maxLen := by unfold maxLen; omega
  have HM := Lib.hid hmx
  clear hmx
  have hsm : (sumsL zs).length ≤ 1048576 := by have := sumsL_len zs; omega
  go_enter Try.func12, Try.ntmps12
  go_wp2_with fail
  refine (toInts_any a _ cap zs w HI.out rfl (by omega)).mono ?_
  rintro e w1 ⟨rfl, hr1, hb1, hs1⟩
  have HR1 := Lib.hid hr1
  clear hs1 hr1
  go_wp2_with fail
  refine (ssumsof_any _ _ _ zs w1 HR1.out.ints rfl HM.out).mono ?_
  rintro e w3 ⟨gw, cw, rfl, how, hb3⟩
  have hB3 : Below w.heap.size w w3 := hb1.trans (hb3.mono hb1.size)
  have W3 := Lib.hid how.ints
  have hgw := how.lt.2
  clear how
  go_wp2_with fail
  refine (toInts_any a _ cap zs w3 (HI.out.keepB hB3 (Nat.le_refl _)) rfl (by omega)).mono ?_
  rintro e w4 ⟨rfl, hr4, hb4, hs4⟩
  have HR4 := Lib.hid hr4
  clear hs4 hr4
  have hB4 : Below w.heap.size w w4 := hB3.trans (hb4.mono hB3.size)
  go_wp2_with fail
  refine (sumsof_any _ _ _ zs w4 HR4.out.ints rfl HM.out).mono ?_
  rintro e w5 ⟨gg, cg, rfl, hog, hb5⟩
  have hB5 : Below w.heap.size w w5 := hB4.trans (hb5.mono hB4.size)
  have HG := Lib.hid hog
  have hgg := hog.lt
  have s3 := hb4.size
  clear hog
  have hB35 : Below w3.heap.size w3 w5 := hb4.trans (hb5.mono s3)
  have W5 := Lib.hid (W3.out.blk (hB35.block gw hgw))
  go_wp2_with fail
  refine (eqInts_same _ _ _ _ _ (sumsL zs) w5 HG.out.ints W5.out rfl hsm).mono ?_
  rintro e w6 ⟨rfl, hs6⟩
  have hB6 : Below w.heap.size w w6 := hB5.trans (hs6.below _)
  go_wp2_with fail
  refine (toInts_any a _ cap zs w6 (HI.out.keepB hB6 (Nat.le_refl _)) rfl (by omega)).mono ?_
  rintro e w7 ⟨rfl, hr7, hb7, hs7⟩
  have HR7 := Lib.hid hr7
  clear hs7 hr7
  have hB47 : Below w4.heap.size w4 w7 := hb5.trans (((hs6.below _).trans (hb7.mono (by have := hs6.below 0 |>.size; omega))).mono hb5.size)
  go_wp2_with fail
  refine (eqInts_same _ _ _ _ _ zs w7 (HR4.out.ints.keepB hB47 (Nat.le_refl _)) HR7.out.ints rfl (by omega)).mono ?_
  rintro e w8 ⟨rfl, hs8⟩
  have hB58 : Below w5.heap.size w5 w8 := (hs6.below _).trans ((hb7.mono (by have := hs6.below 0 |>.size; omega)).trans (hs8.below _))
  have hB48 : Below w4.heap.size w4 w8 := hb5.trans (hB58.mono hb5.size)
  have hB8 : Below w.heap.size w w8 := hB5.trans (hB58.mono hB5.size)
  have hx8 : Hid (∃ cs, w8.heap[w3.heap.size]? = some (.cells cs 3 (0, 0)) ∧ zs.length ≤ cs.size) := by
    show ∃ cs, w8.heap[w3.heap.size]? = some (.cells cs 3 (0, 0)) ∧ zs.length ≤ cs.size
    obtain ⟨cs, hc, hs, _⟩ := HR4.out
    exact ⟨cs, (hB48.block _ (heap_lt hc)).trans hc, by omega⟩
  go_wp2_with fail
  refine (markInts_any w3.heap.size zs.length zs.length 1 w8 hx8.out (by omega) (by omega) (by omega)).mono ?_
  rintro e w9 ⟨rfl, hm9⟩
  have hk9 := hm9.1
  clear hm9
  have hB9 : Below w.heap.size w w9 := hB8.trans (hk9.below hB3.size)
  have hlt4 : w3.heap.size < w4.heap.size := by obtain ⟨cs, hc, _⟩ := HR4.out; exact heap_lt hc
  have G9 : Hid (OwnI w9 w4.heap.size (some ⟨gg, 0, none⟩) cg (sumsL zs)) := HG.out.kept (fun g h1 h2 => (hk9.block g (by omega)).trans (hB58.block g h2))
  have W9 := Lib.hid (W5.out.blk ((hk9.block gw (by omega)).trans (hB58.block gw (by have := hB35.size; omega))))
  have k0 : decide ((1 : Int) + (zs.length : Int) < 0) = false := by simp; omega
  go_wp2_with fail
  clear k0
  refine (eqInts_same _ _ _ _ _ (sumsL zs) w9 G9.out.ints W9.out rfl hsm).mono ?_
  rintro e w10 ⟨rfl, hs10⟩
  have hB10 : Below w.heap.size w w10 := hB9.trans (hs10.below _)
  have G10 : Hid (OwnI w10 w4.heap.size (some ⟨gg, 0, none⟩) cg (sumsL zs)) := G9.out.kept (fun g h1 h2 => (hs10.below w9.heap.size).block g h2)
  have W10 := Lib.hid (W9.out.blk ((hs10.below w9.heap.size).block gw (by have := G9.out.lt; omega)))
  go_wp2_with fail
  refine (markInts_any gg _ cg 1 w10 G10.out.blk (by omega) (by omega) hsm).mono ?_
  rintro e w11 ⟨rfl, hm11⟩
  have HM11 := Lib.hid hm11
  clear hm11
  have hB11 : Below w.heap.size w w11 := hB10.trans (HM11.out.1.below (by have := hB4.size; omega))
  have W11 := Lib.hid (W10.out.blk (HM11.out.1.block gw (by omega)))
  go_wp2_with fail
  refine (heldInts_any _ _ _ 1 w11 HM11.out.ints (by omega) (by omega) hsm).mono ?_
  rintro e w12 ⟨rfl, hs12⟩
  have hB12 : Below w.heap.size w w12 := hB11.trans (hs12.below _)
  have q0 : decide ((1 : Int) + ((sumsL zs).length : Int) < 0) = false := by simp; omega
  have q1 : (((1 : Int) + ((sumsL zs).length : Int)) != ((1 : Int) + ((sumsL zs).length : Int))) = false := by simp
  go_wp2_with fail
  refine (toInts_any a _ cap zs w12 (HI.out.keepB hB12 (Nat.le_refl _)) rfl (by omega)).mono ?_
  rintro e w13 ⟨rfl, hr13, hb13, hs13⟩
  have HR13 := Lib.hid hr13
  clear hs13 hr13
  go_wp2_with fail
  refine (sumsof_any _ _ _ zs w13 HR13.out.ints rfl HM.out).mono ?_
  rintro e w14 ⟨gh, ch, rfl, hoh, hb14⟩
  have HH := Lib.hid hoh
  clear hoh
  have hB1114 : Below w11.heap.size w11 w14 := (hs12.below _).trans ((hb13.mono (by have := hs12.below 0 |>.size; omega)).trans (hb14.mono (by have := hs12.below 0 |>.size; have := hb13.size; omega)))
  have hgl : gw < w11.heap.size := by have h1 := G10.out.lt; have h2 := HM11.out.1.size; omega
  have W14 := Lib.hid (W11.out.blk (hB1114.block gw hgl))
  go_wp2_with fail
  refine (eqInts_same _ _ _ _ _ (sumsL zs) w14 HH.out.ints W14.out rfl hsm).mono ?_
  rintro e w15 ⟨rfl, hs15⟩
  have hB1115 : Below w11.heap.size w11 w15 := hB1114.trans (hs15.below _)
  go_wp2_with fail
  refine (heldInts_any _ _ _ 1 w15 (HM11.out.ints.keepB hB1115 (Nat.le_refl _)) (by omega) (by omega) hsm).mono ?_
  rintro e w16 ⟨rfl, hs16⟩
  go_wp2
  go_ret
  exact ⟨rfl, hB11.trans ((hB1115.mono hB11.size).trans (hs16.below _))⟩

set_option maxHeartbeats 2000000 in
theorem exSumsSet (a : Option Addr) (len cap : Nat) (z : List Int) (leaf v : Int) (w : World) (h : RowInts w a len cap z) :
    Calls Try.prog 13 #[.slice a len cap, .int .i64 leaf, .int .i64 v] w fun e w' => e = .returned (.bool true) ∧ Below w.heap.size w w' := by
  obtain ⟨zs, hz, hi, hm⟩ := ints_of_row h
  clear h
  by_cases hl : 1048576 < len
  · unfold maxLen at hm
    clear hz hi
    go_enter Try.func13, Try.ntmps13
    go_wp2
    go_ret
    exact ⟨rfl, Below.refl _ _⟩
  subst hz
  have HI := Lib.hid hi
  clear hi hm
  have hmx : zs.length ≤ maxLen := by unfold maxLen; omega
  have HM := Lib.hid hmx
  clear hmx
  have hsm : (sumsSetL zs leaf v).length ≤ 1048576 := by have := sumsSetL_len zs leaf v; omega
  go_enter Try.func13, Try.ntmps13
  go_wp2_with fail
  refine (toInts_any a _ cap zs w HI.out rfl (by omega)).mono ?_
  rintro e w1 ⟨rfl, hr1, hb1, hs1⟩
  have HR1 := Lib.hid hr1
  clear hs1 hr1
  go_wp2_with fail
  refine (ssumsset_any _ _ _ zs leaf v w1 HR1.out.ints rfl HM.out (Nat.le_refl _)).mono ?_
  rintro e w3 ⟨gw, cw, rfl, how, hb3⟩
  have hB3 : Below w.heap.size w w3 := hb1.trans (hb3.mono hb1.size)
  have W3 := Lib.hid how.ints
  have hgw := how.lt.2
  clear how
  go_wp2_with fail
  refine (toInts_any a _ cap zs w3 (HI.out.keepB hB3 (Nat.le_refl _)) rfl (by omega)).mono ?_
  rintro e w4 ⟨rfl, hr4, hb4, hs4⟩
  have HR4 := Lib.hid hr4
  clear hs4 hr4
  have hB4 : Below w.heap.size w w4 := hB3.trans (hb4.mono hB3.size)
  go_wp2_with fail
  refine (sumsset_any _ _ _ zs leaf v w4 HR4.out.ints rfl HM.out (Nat.le_refl _)).mono ?_
  rintro e w5 ⟨gg, cg, rfl, hog, hb5⟩
  have hB5 : Below w.heap.size w w5 := hB4.trans (hb5.mono hB4.size)
  have HG := Lib.hid hog
  have hgg := hog.lt
  have s3 := hb4.size
  clear hog
  have hB35 : Below w3.heap.size w3 w5 := hb4.trans (hb5.mono s3)
  have W5 := Lib.hid (W3.out.blk (hB35.block gw hgw))
  go_wp2_with fail
  refine (eqInts_same _ _ _ _ _ (sumsSetL zs leaf v) w5 HG.out.ints W5.out rfl hsm).mono ?_
  rintro e w6 ⟨rfl, hs6⟩
  have hB6 : Below w.heap.size w w6 := hB5.trans (hs6.below _)
  go_wp2_with fail
  refine (toInts_any a _ cap zs w6 (HI.out.keepB hB6 (Nat.le_refl _)) rfl (by omega)).mono ?_
  rintro e w7 ⟨rfl, hr7, hb7, hs7⟩
  have HR7 := Lib.hid hr7
  clear hs7 hr7
  have hB47 : Below w4.heap.size w4 w7 := hb5.trans (((hs6.below _).trans (hb7.mono (by have := hs6.below 0 |>.size; omega))).mono hb5.size)
  go_wp2_with fail
  refine (eqInts_same _ _ _ _ _ zs w7 (HR4.out.ints.keepB hB47 (Nat.le_refl _)) HR7.out.ints rfl (by omega)).mono ?_
  rintro e w8 ⟨rfl, hs8⟩
  have hB58 : Below w5.heap.size w5 w8 := (hs6.below _).trans ((hb7.mono (by have := hs6.below 0 |>.size; omega)).trans (hs8.below _))
  have hB48 : Below w4.heap.size w4 w8 := hb5.trans (hB58.mono hb5.size)
  have hB8 : Below w.heap.size w w8 := hB5.trans (hB58.mono hB5.size)
  have hx8 : Hid (∃ cs, w8.heap[w3.heap.size]? = some (.cells cs 3 (0, 0)) ∧ zs.length ≤ cs.size) := by
    show ∃ cs, w8.heap[w3.heap.size]? = some (.cells cs 3 (0, 0)) ∧ zs.length ≤ cs.size
    obtain ⟨cs, hc, hs, _⟩ := HR4.out
    exact ⟨cs, (hB48.block _ (heap_lt hc)).trans hc, by omega⟩
  go_wp2_with fail
  refine (markInts_any w3.heap.size zs.length zs.length 1 w8 hx8.out (by omega) (by omega) (by omega)).mono ?_
  rintro e w9 ⟨rfl, hm9⟩
  have hk9 := hm9.1
  clear hm9
  have hB9 : Below w.heap.size w w9 := hB8.trans (hk9.below hB3.size)
  have hlt4 : w3.heap.size < w4.heap.size := by obtain ⟨cs, hc, _⟩ := HR4.out; exact heap_lt hc
  have G9 : Hid (OwnI w9 w4.heap.size (some ⟨gg, 0, none⟩) cg (sumsSetL zs leaf v)) := HG.out.kept (fun g h1 h2 => (hk9.block g (by omega)).trans (hB58.block g h2))
  have W9 := Lib.hid (W5.out.blk ((hk9.block gw (by omega)).trans (hB58.block gw (by have := hB35.size; omega))))
  have k0 : decide ((1 : Int) + (zs.length : Int) < 0) = false := by simp; omega
  go_wp2_with fail
  clear k0
  refine (eqInts_same _ _ _ _ _ (sumsSetL zs leaf v) w9 G9.out.ints W9.out rfl hsm).mono ?_
  rintro e w10 ⟨rfl, hs10⟩
  have hB10 : Below w.heap.size w w10 := hB9.trans (hs10.below _)
  have G10 : Hid (OwnI w10 w4.heap.size (some ⟨gg, 0, none⟩) cg (sumsSetL zs leaf v)) := G9.out.kept (fun g h1 h2 => (hs10.below w9.heap.size).block g h2)
  have W10 := Lib.hid (W9.out.blk ((hs10.below w9.heap.size).block gw (by have := G9.out.lt; omega)))
  go_wp2_with fail
  refine (markInts_any gg _ cg 1 w10 G10.out.blk (by omega) (by omega) hsm).mono ?_
  rintro e w11 ⟨rfl, hm11⟩
  have HM11 := Lib.hid hm11
  clear hm11
  have hB11 : Below w.heap.size w w11 := hB10.trans (HM11.out.1.below (by have := hB4.size; omega))
  have W11 := Lib.hid (W10.out.blk (HM11.out.1.block gw (by omega)))
  go_wp2_with fail
  refine (heldInts_any _ _ _ 1 w11 HM11.out.ints (by omega) (by omega) hsm).mono ?_
  rintro e w12 ⟨rfl, hs12⟩
  have hB12 : Below w.heap.size w w12 := hB11.trans (hs12.below _)
  have q0 : decide ((1 : Int) + ((sumsSetL zs leaf v).length : Int) < 0) = false := by simp; omega
  have q1 : (((1 : Int) + ((sumsSetL zs leaf v).length : Int)) != ((1 : Int) + ((sumsSetL zs leaf v).length : Int))) = false := by simp
  go_wp2_with fail
  refine (toInts_any a _ cap zs w12 (HI.out.keepB hB12 (Nat.le_refl _)) rfl (by omega)).mono ?_
  rintro e w13 ⟨rfl, hr13, hb13, hs13⟩
  have HR13 := Lib.hid hr13
  clear hs13 hr13
  go_wp2_with fail
  refine (sumsset_any _ _ _ zs leaf v w13 HR13.out.ints rfl HM.out (Nat.le_refl _)).mono ?_
  rintro e w14 ⟨gh, ch, rfl, hoh, hb14⟩
  have HH := Lib.hid hoh
  clear hoh
  have hB1114 : Below w11.heap.size w11 w14 := (hs12.below _).trans ((hb13.mono (by have := hs12.below 0 |>.size; omega)).trans (hb14.mono (by have := hs12.below 0 |>.size; have := hb13.size; omega)))
  have hgl : gw < w11.heap.size := by have h1 := G10.out.lt; have h2 := HM11.out.1.size; omega
  have W14 := Lib.hid (W11.out.blk (hB1114.block gw hgl))
  go_wp2_with fail
  refine (eqInts_same _ _ _ _ _ (sumsSetL zs leaf v) w14 HH.out.ints W14.out rfl hsm).mono ?_
  rintro e w15 ⟨rfl, hs15⟩
  have hB1115 : Below w11.heap.size w11 w15 := hB1114.trans (hs15.below _)
  go_wp2_with fail
  refine (heldInts_any _ _ _ 1 w15 (HM11.out.ints.keepB hB1115 (Nat.le_refl _)) (by omega) (by omega) hsm).mono ?_
  rintro e w16 ⟨rfl, hs16⟩
  go_wp2
  go_ret
  exact ⟨rfl, hB11.trans ((hB1115.mono hB11.size).trans (hs16.below _))⟩

end Go.Proofs.Ytkpfpnmokknbaaa
