/- The walks of the laws of merging. -/
import Derived.Test.YtoaamamconcieabLsDraw2
import Derived.Test.YtoaamamconcieabLsMMath
namespace Go.Proofs.Ytoaamamconcieab
open Go.RowKit
set_option linter.unusedVariables false

theorem merge_as {L R : List Ls} (hR : mgR L = R) (a : Option Addr) (len cap : Nat) (w : World) (h : LsAt w a L) (hz : L.length = len) (hm : len ≤ maxLen) :
    Calls Try.prog 14 #[.slice a len cap] w (NewL R w) := by
  have h0 := merge_any a len cap L w h hz hm
  rwa [hR] at h0
theorem smerge_as {L R : List Ls} (hR : mgR L = R) (a : Option Addr) (len cap : Nat) (w : World) (h : LsAt w a L) (hz : L.length = len) (hm : len ≤ maxLen) :
    Calls Try.prog 15 #[.slice a len cap] w (NewL R w) := by
  have h0 := smerge_any a len cap L w h hz hm
  rwa [hR] at h0
theorem mholder_any (a : Option Addr) (len cap : Nat) (L : List Ls) (key : Int) (w : World) (h : LsAt w a L) (hz : L.length = len) (hm : len ≤ maxLen) :
    Calls Try.prog 16 #[.slice a len cap, .int .i64 key] w fun e w' => e = .returned (.tuple #[.int .i64 (ofR L key).1.o, .int .i64 (ofR L key).1.u]) ∧ Below w.heap.size w w' := by
  have HI := Lib.hid h
  have HZ := Lib.hid hz
  have HM := Lib.hid hm
  clear h hz hm
  go_enter Try.func16, Try.ntmps16
  go_wp2_with fail
  refine (lof_any a len cap L key w HI.out HZ.out HM.out).mono ?_
  rintro e w2 ⟨rfl, hb2⟩
  go_wp2
  go_quiet (fail)
  go_wp2
  go_ret2
  exact ⟨rfl, bel_dN (hb2.trans ((alB w2 _).mono hb2.size)) _⟩

set_option maxHeartbeats 4000000 in
theorem mergeTwice (s : Option Addr) (len cap : Nat) (z : List Int) (w : World) (h : RowIn .u8 w s len cap z) :
    Calls Try.prog 7 #[.slice s len cap] w fun e w' => e = .returned (.bool true) ∧ Below w.heap.size w w' := by
  have hb := bytes_of_row h
  have hm : len ≤ maxLen := Nat.le_trans hb.1 hb.2.1
  unfold maxLen at hm
  clear h
  by_cases hl : 1048576 < len
  · go_enter Try.func7, Try.ntmps7
    go_wp2
    go_ret
    exact ⟨rfl, Below.refl _ _⟩
  have hlB : decide ((1048576 : Int) < (len : Int)) = false := by simp; omega
  have HBY := Lib.hid hb
  clear hb
  go_enter Try.func7, Try.ntmps7
  go_wp2_with fail
  refine (drawLeasesMerge s len cap w HBY.out).mono ?_
  rintro e w1 ⟨g, c, L, rfl, hl12, ho, hb1⟩
  have O1 := Lib.hid ho
  have hmx : Hid (L.length ≤ maxLen) := by show _ ≤ maxLen; unfold maxLen; omega
  clear ho
  cases hv : lvB L
  · have HR := Lib.hid (mgR_no hv)
    have hsm : Hid (([] : List Ls).length ≤ 1048576) := by show _ ≤ 1048576; simp
    go_wp2_with fail
    refine (merge_as HR.out _ _ _ w1 O1.out.ls rfl hmx.out).mono ?_
    rintro e w2 ⟨g2, c2, rfl, ho2, hb2⟩
    have hB2 : Below w.heap.size w w2 := hb1.trans (hb2.mono hb1.size)
    have R2 := Lib.hid ho2
    have O2 := Lib.hid (O1.out.keepB hb2 (Nat.le_refl _))
    clear ho2
    go_wp2_with fail
    refine (smerge_as HR.out _ _ _ w2 O2.out.ls rfl hmx.out).mono ?_
    rintro e w3 ⟨g3, c3, rfl, ho3, hb3⟩
    have hB3 : Below w.heap.size w w3 := hB2.trans (hb3.mono hB2.size)
    have S3 := Lib.hid ho3
    have R3 := Lib.hid (R2.out.keepB hb3 (Nat.le_refl _))
    have O3 := Lib.hid (O2.out.keepB hb3 (Nat.le_refl _))
    clear ho3
    go_wp2_with fail
    refine (sameLs_same _ _ _ _ _ [] w3 R3.out.ls S3.out.ls rfl hsm.out).mono ?_
    rintro e w4 ⟨rfl, hs4⟩
    have hB4 : Below w.heap.size w w4 := hB3.trans (hs4.below _)
    have R4 := Lib.hid (R3.out.keepB (hs4.below _) (Nat.le_refl _))
    have O4 := Lib.hid (O3.out.keepB (hs4.below _) (Nat.le_refl _))
    have S4 := Lib.hid (S3.out.keepB (hs4.below _) (Nat.le_refl _))
    go_wp2
    go_ret
    exact ⟨rfl, hB4⟩
  obtain ⟨R, hR⟩ : ∃ R, mgR L = R := ⟨_, rfl⟩
  have HR := Lib.hid hR
  obtain ⟨hvr, hle, hns, hof⟩ := mg_done hv
  have hag := mg_again hv
  rw [hR] at hvr hle hns hof hag
  have hll := lv_len hvr
  obtain ⟨hll1, hll2⟩ := hll
  have hsm : Hid (R.length ≤ 1048576) := by show _ ≤ 1048576; omega
  have hmr : Hid (R.length ≤ maxLen) := by show _ ≤ maxLen; unfold maxLen; omega
  have n0 : ((R.length : Int) == 0) = false := by rw [beq_eq_false_iff_ne]; omega
  have HVR := Lib.hid hvr
  have HNS := Lib.hid hns
  have HOF := Lib.hid hof
  have HAG := Lib.hid hag
  have HV := Lib.hid hv
  clear hR hvr hns hof hag hv
  go_wp2_with fail
  refine (merge_as HR.out _ _ _ w1 O1.out.ls rfl hmx.out).mono ?_
  rintro e w2 ⟨g2, c2, rfl, ho2, hb2⟩
  have hB2 : Below w.heap.size w w2 := hb1.trans (hb2.mono hb1.size)
  have R2 := Lib.hid ho2
  have O2 := Lib.hid (O1.out.keepB hb2 (Nat.le_refl _))
  clear ho2
  go_wp2_with fail
  refine (smerge_as HR.out _ _ _ w2 O2.out.ls rfl hmx.out).mono ?_
  rintro e w3 ⟨g3, c3, rfl, ho3, hb3⟩
  have hB3 : Below w.heap.size w w3 := hB2.trans (hb3.mono hB2.size)
  have S3 := Lib.hid ho3
  have R3 := Lib.hid (R2.out.keepB hb3 (Nat.le_refl _))
  have O3 := Lib.hid (O2.out.keepB hb3 (Nat.le_refl _))
  clear ho3
  go_wp2_with fail
  refine (sameLs_same _ _ _ _ _ R w3 R3.out.ls S3.out.ls rfl hsm.out).mono ?_
  rintro e w4 ⟨rfl, hs4⟩
  have hB4 : Below w.heap.size w w4 := hB3.trans (hs4.below _)
  have R4 := Lib.hid (R3.out.keepB (hs4.below _) (Nat.le_refl _))
  have O4 := Lib.hid (O3.out.keepB (hs4.below _) (Nat.le_refl _))
  have S4 := Lib.hid (S3.out.keepB (hs4.below _) (Nat.le_refl _))
  go_wp2_with fail
  refine (merge_as HAG.out _ _ _ w4 R4.out.ls rfl hmr.out).mono ?_
  rintro e w5 ⟨g5, c5, rfl, ho5, hb5⟩
  have hB5 : Below w.heap.size w w5 := hB4.trans (hb5.mono hB4.size)
  have Q5 := Lib.hid ho5
  have R5 := Lib.hid (R4.out.keepB hb5 (Nat.le_refl _))
  clear ho5
  go_wp2_with fail
  refine (sameLs_same _ _ _ _ _ R w5 Q5.out.ls R5.out.ls rfl hsm.out).mono ?_
  rintro e w6 ⟨rfl, hs6⟩
  go_wp2
  go_ret
  exact ⟨rfl, hB5.trans (hs6.below _)⟩

set_option maxHeartbeats 4000000 in
theorem mergeLaw (s : Option Addr) (len cap : Nat) (z : List Int) (w : World) (h : RowIn .u8 w s len cap z) :
    Calls Try.prog 6 #[.slice s len cap] w fun e w' => e = .returned (.bool true) ∧ Below w.heap.size w w' := by
  have hb := bytes_of_row h
  have hm : len ≤ maxLen := Nat.le_trans hb.1 hb.2.1
  unfold maxLen at hm
  clear h
  by_cases hl : 1048576 < len
  · go_enter Try.func6, Try.ntmps6
    go_wp2
    go_ret
    exact ⟨rfl, Below.refl _ _⟩
  have hlB : decide ((1048576 : Int) < (len : Int)) = false := by simp; omega
  have HBY := Lib.hid hb
  clear hb
  go_enter Try.func6, Try.ntmps6
  go_wp2_with fail
  refine (drawLeasesMerge s len cap w HBY.out).mono ?_
  rintro e w1 ⟨g, c, L, rfl, hl12, ho, hb1⟩
  have O1 := Lib.hid ho
  have hmx : Hid (L.length ≤ maxLen) := by show _ ≤ maxLen; unfold maxLen; omega
  clear ho
  cases hv : lvB L
  · have HR := Lib.hid (mgR_no hv)
    have hsm : Hid (([] : List Ls).length ≤ 1048576) := by show _ ≤ 1048576; simp
    go_wp2_with fail
    refine (merge_as HR.out _ _ _ w1 O1.out.ls rfl hmx.out).mono ?_
    rintro e w2 ⟨g2, c2, rfl, ho2, hb2⟩
    have hB2 : Below w.heap.size w w2 := hb1.trans (hb2.mono hb1.size)
    have R2 := Lib.hid ho2
    have O2 := Lib.hid (O1.out.keepB hb2 (Nat.le_refl _))
    clear ho2
    go_wp2_with fail
    refine (smerge_as HR.out _ _ _ w2 O2.out.ls rfl hmx.out).mono ?_
    rintro e w3 ⟨g3, c3, rfl, ho3, hb3⟩
    have hB3 : Below w.heap.size w w3 := hB2.trans (hb3.mono hB2.size)
    have S3 := Lib.hid ho3
    have R3 := Lib.hid (R2.out.keepB hb3 (Nat.le_refl _))
    have O3 := Lib.hid (O2.out.keepB hb3 (Nat.le_refl _))
    clear ho3
    go_wp2_with fail
    refine (sameLs_same _ _ _ _ _ [] w3 R3.out.ls S3.out.ls rfl hsm.out).mono ?_
    rintro e w4 ⟨rfl, hs4⟩
    have hB4 : Below w.heap.size w w4 := hB3.trans (hs4.below _)
    have R4 := Lib.hid (R3.out.keepB (hs4.below _) (Nat.le_refl _))
    have O4 := Lib.hid (O3.out.keepB (hs4.below _) (Nat.le_refl _))
    have S4 := Lib.hid (S3.out.keepB (hs4.below _) (Nat.le_refl _))
    go_wp2_with fail
    refine (sameLs_same _ _ _ _ _ [] w4 R4.out.ls S4.out.ls rfl hsm.out).mono ?_
    rintro e w5 ⟨rfl, hs5⟩
    go_wp2
    go_ret
    exact ⟨rfl, hB4.trans (hs5.below _)⟩
  obtain ⟨R, hR⟩ : ∃ R, mgR L = R := ⟨_, rfl⟩
  have HR := Lib.hid hR
  obtain ⟨hvr, hle, hns, hof⟩ := mg_done hv
  have hag := mg_again hv
  rw [hR] at hvr hle hns hof hag
  have hll := lv_len hvr
  obtain ⟨hll1, hll2⟩ := hll
  have hsm : Hid (R.length ≤ 1048576) := by show _ ≤ 1048576; omega
  have hmr : Hid (R.length ≤ maxLen) := by show _ ≤ maxLen; unfold maxLen; omega
  have n0 : ((R.length : Int) == 0) = false := by rw [beq_eq_false_iff_ne]; omega
  have HVR := Lib.hid hvr
  have HNS := Lib.hid hns
  have HOF := Lib.hid hof
  have HAG := Lib.hid hag
  have HV := Lib.hid hv
  clear hR hvr hns hof hag hv
  go_wp2_with fail
  refine (merge_as HR.out _ _ _ w1 O1.out.ls rfl hmx.out).mono ?_
  rintro e w2 ⟨g2, c2, rfl, ho2, hb2⟩
  have hB2 : Below w.heap.size w w2 := hb1.trans (hb2.mono hb1.size)
  have R2 := Lib.hid ho2
  have O2 := Lib.hid (O1.out.keepB hb2 (Nat.le_refl _))
  clear ho2
  go_wp2_with fail
  refine (smerge_as HR.out _ _ _ w2 O2.out.ls rfl hmx.out).mono ?_
  rintro e w3 ⟨g3, c3, rfl, ho3, hb3⟩
  have hB3 : Below w.heap.size w w3 := hB2.trans (hb3.mono hB2.size)
  have S3 := Lib.hid ho3
  have R3 := Lib.hid (R2.out.keepB hb3 (Nat.le_refl _))
  have O3 := Lib.hid (O2.out.keepB hb3 (Nat.le_refl _))
  clear ho3
  go_wp2_with fail
  refine (sameLs_same _ _ _ _ _ R w3 R3.out.ls S3.out.ls rfl hsm.out).mono ?_
  rintro e w4 ⟨rfl, hs4⟩
  have hB4 : Below w.heap.size w w4 := hB3.trans (hs4.below _)
  have R4 := Lib.hid (R3.out.keepB (hs4.below _) (Nat.le_refl _))
  have O4 := Lib.hid (O3.out.keepB (hs4.below _) (Nat.le_refl _))
  have S4 := Lib.hid (S3.out.keepB (hs4.below _) (Nat.le_refl _))
  go_wp2
  go_loopw [6] (fun q wr => ∃ k : Nat, k ≤ 64 ∧ q = .int .i64 k ∧ Below w4.heap.size w4 wr) (fun q _ => 64 - (intOf q).toNat)
  case atStart => exact ⟨0, by omega, rfl, Below.refl _ _⟩
  case round =>
    obtain ⟨k, hk, rfl, hbel⟩ := hrel
    have hBr : Below w.heap.size w wr := hB4.trans (hbel.mono hB4.size)
    by_cases hlt : k < 64
    · have hpt : ptB (k : Int) = true := (ptB_iff _).2 ⟨by omega, by omega⟩
      obtain ⟨y, hy⟩ : ∃ y, ofL L k = y := ⟨_, rfl⟩
      obtain ⟨m, hm'⟩ : ∃ m, ofL R k = m := ⟨_, rfl⟩
      have HK : Hid (ofR L k = (y, true)) := by show _ = _; rw [ofR_yes HV.out hpt, hy]
      have HM : Hid (ofR R k = (m, true)) := by show _ = _; rw [ofR_yes HVR.out hpt, hm']
      obtain ⟨q1, q2⟩ := HOF.out k
      rw [hy, hm'] at q1 q2
      have d1 : (y.o != m.o) = false := by simp [q1]
      have d2 : (y.u != m.u) = false := by simp [q2]
      clear q1 q2 hy hm' hpt
      go_wp2_with fail
      refine (mholder_any _ _ _ L k wr (O4.out.keepB hbel (Nat.le_refl _)).ls rfl hmx.out).mono ?_
      rintro e w6 ⟨rfl, hb6⟩
      rw [HK.out]
      have hC6 : Below w4.heap.size w4 w6 := hbel.trans (hb6.mono hbel.size)
      go_wp2_with fail
      refine (mholder_any _ _ _ R k w6 (R4.out.keepB hC6 (Nat.le_refl _)).ls rfl hmr.out).mono ?_
      rintro e w7 ⟨rfl, hb7⟩
      rw [HM.out]
      have hC7 : Below w4.heap.size w4 w7 := hC6.trans (hb7.mono hC6.size)
      go_wp2
      go_roundw
      case rel => exact ⟨k + 1, by omega, by go_num, hC7⟩
      case measure => simp [intOf]; omega
    · obtain rfl : k = 64 := by omega
      obtain ⟨w5, hw5⟩ : ∃ x, x = wr := ⟨_, rfl⟩
      have hC5 : Below w4.heap.size w4 w5 := by rw [hw5]; exact hbel
      have hB5 : Below w.heap.size w w5 := by rw [hw5]; exact hBr
      subst hw5
      have R5 := Lib.hid (R4.out.keepB hC5 (Nat.le_refl _))
      go_wp2
      go_loopw [11] (fun q wr => ∃ j : Nat, j + 1 ≤ R.length ∧ q = .int .i64 (j + 1 : Nat) ∧ Below w5.heap.size w5 wr) (fun q _ => R.length - (intOf q).toNat)
      case atStart => exact ⟨0, by omega, rfl, Below.refl _ _⟩
      case round =>
        obtain ⟨j, hj, rfl, hbl⟩ := hrel
        obtain ⟨n, hn⟩ : ∃ n, n = R.length := ⟨_, rfl⟩
        rw [← hn] at hj
        by_cases hlt2 : j + 1 < n
        · have hR6 := R5.out.keepB hbl (Nat.le_refl _)
          obtain ⟨x0, x1, x2⟩ := hR6.cells (i := j) (by omega)
          obtain ⟨y0, y1, y2⟩ := hR6.cells (i := j + 1) (by omega)
          have hq := HNS.out j (by omega)
          have m1 : (((j + 1 : Nat) : Int) - 1).toNat = j := by omega
          have m2 : (0 : Int) ≤ ((j + 1 : Nat) : Int) - 1 := by omega
          have m3 : ((j + 1 : Nat) : Int) - 1 < (R.length : Int) := by omega
          have m4 : ((j + 1 : Nat) : Int) < (R.length : Int) := by omega
          clear hR6 hn
          cases c1 : ((gl R j).o == (gl R (j + 1)).o)
          · clear hq
            go_wp2
            go_quiet (fail)
            go_wp2
            go_roundw
            case rel => exact ⟨j + 1, by omega, by go_num, bel_dN hbl _⟩
            case measure => simp [intOf]; omega
          · have c2 : ((gl R j).u == (gl R (j + 1)).u) = false := by
              have h1 := c1; simp at h1; simp [sameLs, h1] at hq; simpa using hq
            clear hq
            go_wp2
            go_quiet (fail)
            go_wp2
            go_roundw
            case rel => exact ⟨j + 1, by omega, by go_num, bel_dN hbl _⟩
            case measure => simp [intOf]; omega
        · have hjn : j + 1 = R.length := by omega
          have hlast : ¬ ((j + 1 : Nat) : Int) < (R.length : Int) := by omega
          have c9 : decide ((R.length : Int) ≤ (L.length : Int)) = true := by simp; omega
          have HJ := Lib.hid hjn
          clear hjn hn
          go_wp2_with fail
          refine (lvs_any _ _ _ R _ (R5.out.keepB hbl (Nat.le_refl _)).ls rfl hmr.out).mono ?_
          rintro e w7 ⟨rfl, hb7⟩
          rw [HVR.out]
          go_wp2
          go_ret
          exact ⟨rfl, (hB5.trans (hbl.mono hB5.size)).trans (hb7.mono (by have := hB5.size; have := hbl.size; omega))⟩
end Go.Proofs.Ytoaamamconcieab
