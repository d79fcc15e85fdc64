/- The walks of the exact laws of paths. -/
import Derived.Test.YtblhaccjngjekaaPzWE
import Derived.Test.YtblhaccjngjekaaPzWS
import Derived.Test.YtblhaccjngjekaaPzWP
import Derived.Test.YtblhaccjngjekaaExactNodes
namespace Go.Proofs.Ytblhaccjngjekaa
open Go.RowKit
set_option linter.unusedVariables false
attribute [local go_sem ↓] Go.wp_at_zero Go.wp_at_succ

theorem sdj_ae (v : Bool) (a : Option Addr) (len cap : Nat) (ps : List (List Int)) (w : World) (h : SsAt w a ps) (hz : ps.length = len) (hm : len ≤ maxLen) (hv : djR ps = v) :
    Calls Try.prog 29 #[.slice a len cap] w fun e w' => e = .returned (.bool v) ∧ Below w.heap.size w w' := by subst hv; exact (sdj_any a len cap ps w h hz hm).mono fun _ _ ⟨h1, h2⟩ => ⟨h1, h2.below _⟩
theorem pdj_ae (v : Bool) (a : Option Addr) (len cap : Nat) (ps : List (List Int)) (w : World) (h : SsAt w a ps) (hz : ps.length = len) (hm : len ≤ maxLen) (hcp : len ≤ cap) (hv : djR ps = v) :
    Calls Try.prog 28 #[.slice a len cap] w fun e w' => e = .returned (.bool v) ∧ Below w.heap.size w w' := by subst hv; exact pdj_any a len cap ps w h hz hm hcp
theorem shon_ae (v : Int) (a : Option Addr) (len cap : Nat) (ps : List (List Int)) (s2 : Option Addr) (len2 cap2 : Nat) (bad : List Int) (w : World) (h : SsAt w a ps) (hz : ps.length = len) (hm : len ≤ maxLen) (h2 : IntsAt w s2 bad) (hz2 : bad.length = len2) (hm2 : len2 ≤ maxLen) (hv : honR ps bad = v) :
    Calls Try.prog 36 #[.slice a len cap, .slice s2 len2 cap2] w fun e w' => e = .returned (.int .i64 v) ∧ Below w.heap.size w w' := by subst hv; exact (shon_any a len cap ps s2 len2 cap2 bad w h hz hm h2 hz2 hm2).mono fun _ _ ⟨h1, h2⟩ => ⟨h1, h2 ▸ Below.refl _ _⟩
theorem phon_ae (v : Int) (a : Option Addr) (len cap : Nat) (ps : List (List Int)) (s2 : Option Addr) (len2 cap2 : Nat) (bad : List Int) (w : World) (h : SsAt w a ps) (hz : ps.length = len) (hm : len ≤ maxLen) (h2 : IntsAt w s2 bad) (hz2 : bad.length = len2) (hm2 : len2 ≤ maxLen) (hv : honR ps bad = v) :
    Calls Try.prog 35 #[.slice a len cap, .slice s2 len2 cap2] w fun e w' => e = .returned (.int .i64 v) ∧ Below w.heap.size w w' := by subst hv; exact phon_any a len cap ps s2 len2 cap2 bad w h hz hm h2 hz2 hm2
theorem mil_max {n : Nat} (h : n ≤ 1048576) : n ≤ maxLen := by unfold maxLen; omega

set_option maxHeartbeats 2000000 in
theorem exPathsDisjoint (a : Option Addr) (len cap : Nat) (ps : List (List Int)) (w : World) (hz : ps.length = len) (h : SsAt w a ps) (hm : len ≤ maxLen) :
    Calls Try.prog 14 #[.slice a len cap] w fun e w' => e = .returned (.bool true) ∧ Below w.heap.size w w' := by
  have HI := Lib.hid h
  have HZ := Lib.hid hz
  have HM := Lib.hid hm
  obtain ⟨v, hv⟩ : ∃ v, djR ps = v := ⟨_, rfl⟩
  have HV := Lib.hid hv
  have q1 : (v != v) = false := by simp
  clear h hz hm hv
  go_enter Try.func14, Try.ntmps14
  go_wp2_with fail
  refine (szSS_any a len cap ps w HI.out HZ.out HM.out).mono ?_
  rintro e w' ⟨z, rfl, hzz, rfl⟩
  by_cases hbig : 1048576 < szS ps
  · obtain rfl : z = -1 := by rcases hzz with ⟨h1, _⟩ | ⟨_, h2⟩ <;> omega
    clear hzz hbig
    go_wp2
    go_ret
    exact ⟨rfl, Below.refl _ _⟩
  · have hn : ¬ z < 0 := by rcases hzz with ⟨_, h2⟩ | ⟨h1, _⟩ <;> omega
    have hsm := smallS_of (Nat.le_of_not_lt hbig)
    have HS := Lib.hid hsm
    have HMP := Lib.hid (mil_max hsm.1)
    clear hzz hbig hsm
    go_wp2_with fail
    refine (toSS_any a len cap ps w HI.out HZ.out HS.out).mono ?_
    rintro e w1 ⟨rfl, h1, hb1⟩
    have X1 := Lib.hid h1
    have I1 := Lib.hid (HI.out.keepB hb1 (Nat.le_refl _))
    have B1 := Lib.hid hb1
    clear h1 hb1
    go_wp2_with fail
    refine (sdj_ae v _ _ _ ps w1 X1.out rfl HMP.out HV.out).mono ?_
    rintro e w2 ⟨rfl, hb2⟩
    have I2 := Lib.hid (I1.out.keepB hb2 (Nat.le_refl _))
    have B2 : Hid (Below w.heap.size w w2) := B1.out.trans (hb2.mono B1.out.size)
    clear hb2
    go_wp2_with fail
    refine (toSS_any a len cap ps w2 I2.out HZ.out HS.out).mono ?_
    rintro e w3 ⟨rfl, h3, hb3⟩
    have X3 := Lib.hid h3
    have I3 := Lib.hid (I2.out.keepB hb3 (Nat.le_refl _))
    have B3 : Hid (Below w.heap.size w w3) := B2.out.trans (hb3.mono B2.out.size)
    clear h3 hb3
    go_wp2_with fail
    refine (pdj_ae v _ _ _ ps w3 X3.out rfl HMP.out (Nat.le_refl _) HV.out).mono ?_
    rintro e w4 ⟨rfl, hb4⟩
    have X4 := Lib.hid (X3.out.keepB hb4 (Nat.le_refl _))
    have I4 := Lib.hid (I3.out.keepB hb4 (Nat.le_refl _))
    have B4 : Hid (Below w.heap.size w w4) := B3.out.trans (hb4.mono B3.out.size)
    clear hb4
    go_wp2_with fail
    refine (toSS_any a len cap ps w4 I4.out HZ.out HS.out).mono ?_
    rintro e w5 ⟨rfl, h5, hb5⟩
    have X5 := Lib.hid (X4.out.keepB hb5 (Nat.le_refl _))
    have Y5 := Lib.hid h5
    have B5 : Hid (Below w.heap.size w w5) := B4.out.trans (hb5.mono B4.out.size)
    clear h5 hb5
    go_wp2_with fail
    refine (eqSS_same _ _ _ _ _ ps w5 X5.out Y5.out rfl HS.out).mono ?_
    rintro e w6 ⟨rfl, hs6⟩
    go_wp2
    go_ret
    exact ⟨rfl, B5.out.trans (hs6.below _)⟩

set_option maxHeartbeats 4000000 in
theorem exPathsHonest (a : Option Addr) (len cap : Nat) (ps : List (List Int)) (s2 : Option Addr) (len2 cap2 : Nat) (z2 : List Int) (w : World) (hz : ps.length = len) (h : SsAt w a ps) (hm : len ≤ maxLen) (h2 : RowInts w s2 len2 cap2 z2) :
    Calls Try.prog 16 #[.slice a len cap, .slice s2 len2 cap2] w fun e w' => e = .returned (.bool true) ∧ Below w.heap.size w w' := by
  obtain ⟨bad, hbz, hbi, hbm⟩ := ints_of_row h2
  clear h2
  by_cases hl : 1048576 < len2
  · unfold maxLen at hbm
    clear hbz hbi h hz hm
    go_enter Try.func16, Try.ntmps16
    go_wp2
    go_ret
    exact ⟨rfl, Below.refl _ _⟩
  have hli : ¬ (1048576 : Int) < (len2 : Int) := by omega
  have hl2 : len2 ≤ 1048576 := by omega
  have HI := Lib.hid h
  have HZ := Lib.hid hz
  have HM := Lib.hid hm
  have HJ := Lib.hid hbi
  have HZ2 := Lib.hid hbz
  have HM2 := Lib.hid hl2
  have HMB := Lib.hid (show bad.length ≤ maxLen by rw [hbz]; exact hbm)
  have HMC := Lib.hid (show bad.length ≤ 1048576 by rw [hbz]; exact hl2)
  obtain ⟨v, hv⟩ : ∃ v, honR ps bad = v := ⟨_, rfl⟩
  have HV := Lib.hid hv
  have q1 : (v != v) = false := by simp
  clear h hz hm hv hbi hbz hbm hl2 hl
  go_enter Try.func16, Try.ntmps16
  go_wp2_with fail
  refine (szSS_any a len cap ps w HI.out HZ.out HM.out).mono ?_
  rintro e w' ⟨z, rfl, hzz, rfl⟩
  by_cases hbig : 1048576 < szS ps
  · obtain rfl : z = -1 := by rcases hzz with ⟨h1, _⟩ | ⟨_, h2⟩ <;> omega
    clear hzz hbig
    go_wp2
    go_ret
    exact ⟨rfl, Below.refl _ _⟩
  · have hn : ¬ z < 0 := by rcases hzz with ⟨_, h2⟩ | ⟨h1, _⟩ <;> omega
    have hsm := smallS_of (Nat.le_of_not_lt hbig)
    have HS := Lib.hid hsm
    have HMP := Lib.hid (mil_max hsm.1)
    clear hzz hbig hsm
    go_wp2_with fail
    refine (toSS_any a len cap ps w HI.out HZ.out HS.out).mono ?_
    rintro e w1 ⟨rfl, h1, hb1⟩
    have X1 := Lib.hid h1
    have I1 := Lib.hid (HI.out.keepB hb1 (Nat.le_refl _))
    have J1 := Lib.hid (HJ.out.keepB hb1 (Nat.le_refl _))
    have B1 := Lib.hid hb1
    clear h1 hb1
    go_wp2_with fail
    refine (toInts_any s2 len2 cap2 bad w1 J1.out HZ2.out HM2.out).mono ?_
    rintro e w2 ⟨rfl, hr2, hb2, _⟩
    have X2 := Lib.hid (X1.out.keepB hb2 (Nat.le_refl _))
    have I2 := Lib.hid (I1.out.keepB hb2 (Nat.le_refl _))
    have J2 := Lib.hid (J1.out.keepB hb2 (Nat.le_refl _))
    have R2 := Lib.hid hr2.ints
    have B2 : Hid (Below w.heap.size w w2) := B1.out.trans (hb2.mono B1.out.size)
    clear hr2 hb2
    go_wp2_with fail
    refine (shon_ae v _ _ _ ps _ _ _ bad w2 X2.out rfl HMP.out R2.out rfl HMB.out HV.out).mono ?_
    rintro e w3 ⟨rfl, hb3⟩
    have I3 := Lib.hid (I2.out.keepB hb3 (Nat.le_refl _))
    have J3 := Lib.hid (J2.out.keepB hb3 (Nat.le_refl _))
    have B3 : Hid (Below w.heap.size w w3) := B2.out.trans (hb3.mono B2.out.size)
    clear hb3
    go_wp2_with fail
    refine (toSS_any a len cap ps w3 I3.out HZ.out HS.out).mono ?_
    rintro e w4 ⟨rfl, h4, hb4⟩
    have X4 := Lib.hid h4
    have I4 := Lib.hid (I3.out.keepB hb4 (Nat.le_refl _))
    have J4 := Lib.hid (J3.out.keepB hb4 (Nat.le_refl _))
    have B4 : Hid (Below w.heap.size w w4) := B3.out.trans (hb4.mono B3.out.size)
    clear h4 hb4
    go_wp2_with fail
    refine (toInts_any s2 len2 cap2 bad w4 J4.out HZ2.out HM2.out).mono ?_
    rintro e w5 ⟨rfl, hr5, hb5, _⟩
    have X5 := Lib.hid (X4.out.keepB hb5 (Nat.le_refl _))
    have I5 := Lib.hid (I4.out.keepB hb5 (Nat.le_refl _))
    have J5 := Lib.hid (J4.out.keepB hb5 (Nat.le_refl _))
    have R5 := Lib.hid hr5.ints
    have B5 : Hid (Below w.heap.size w w5) := B4.out.trans (hb5.mono B4.out.size)
    clear hr5 hb5
    go_wp2_with fail
    refine (phon_ae v _ _ _ ps _ _ _ bad w5 X5.out rfl HMP.out R5.out rfl HMB.out HV.out).mono ?_
    rintro e w6 ⟨rfl, hb6⟩
    have X6 := Lib.hid (X5.out.keepB hb6 (Nat.le_refl _))
    have I6 := Lib.hid (I5.out.keepB hb6 (Nat.le_refl _))
    have J6 := Lib.hid (J5.out.keepB hb6 (Nat.le_refl _))
    have R6 := Lib.hid (R5.out.keepB hb6 (Nat.le_refl _))
    have B6 : Hid (Below w.heap.size w w6) := B5.out.trans (hb6.mono B5.out.size)
    clear hb6
    go_wp2_with fail
    refine (toSS_any a len cap ps w6 I6.out HZ.out HS.out).mono ?_
    rintro e w7 ⟨rfl, h7, hb7⟩
    have X7 := Lib.hid (X6.out.keepB hb7 (Nat.le_refl _))
    have Y7 := Lib.hid h7
    have J7 := Lib.hid (J6.out.keepB hb7 (Nat.le_refl _))
    have R7 := Lib.hid (R6.out.keepB hb7 (Nat.le_refl _))
    have B7 : Hid (Below w.heap.size w w7) := B6.out.trans (hb7.mono B6.out.size)
    clear h7 hb7
    go_wp2_with fail
    refine (eqSS_same _ _ _ _ _ ps w7 X7.out Y7.out rfl HS.out).mono ?_
    rintro e w8 ⟨rfl, hs8⟩
    have hb8 := hs8.below w7.heap.size
    have J8 := Lib.hid (J7.out.keepB hb8 (Nat.le_refl _))
    have R8 := Lib.hid (R7.out.keepB hb8 (Nat.le_refl _))
    have B8 : Hid (Below w.heap.size w w8) := B7.out.trans (hs8.below _)
    clear hs8 hb8
    go_wp2_with fail
    refine (toInts_any s2 len2 cap2 bad w8 J8.out HZ2.out HM2.out).mono ?_
    rintro e w9 ⟨rfl, hr9, hb9, _⟩
    have R9 := Lib.hid (R8.out.keepB hb9 (Nat.le_refl _))
    have Q9 := Lib.hid hr9.ints
    have B9 : Hid (Below w.heap.size w w9) := B8.out.trans (hb9.mono B8.out.size)
    clear hr9 hb9
    go_wp2_with fail
    refine (eqInts_same _ _ _ _ _ bad w9 R9.out Q9.out rfl HMC.out).mono ?_
    rintro e w10 ⟨rfl, hs10⟩
    go_wp2
    go_ret
    exact ⟨rfl, B9.out.trans (hs10.below _)⟩
end Go.Proofs.Ytblhaccjngjekaa
