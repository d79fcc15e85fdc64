/- The walks of the laws of renewing. -/
import Derived.Test.YtoaamamconcieabLsDraw2
namespace Go.Proofs.Ytoaamamconcieab
open Go.RowKit
set_option linter.unusedVariables false

theorem renR_len (L : List Ls) (ow now ut : Int) : (renR L ow now ut).1.length ≤ 12 := by
  unfold renR
  split
  · rename_i h
    have := lv_len ((renOk_iff _ _ _ _).1 h).1
    simp; omega
  · simp

set_option maxHeartbeats 2000000 in
theorem renewTwice (s : Option Addr) (len cap : Nat) (z : List Int) (w : World) (h : RowIn .u8 w s len cap z) :
    Calls Try.prog 4 #[.slice s len cap] w fun e w' => e = .returned (.bool true) ∧ Below w.heap.size w w' := by
  have hb := bytes_of_row h
  have hm : len ≤ maxLen := Nat.le_trans hb.1 hb.2.1
  unfold maxLen at hm
  clear h
  by_cases hl : 1048576 < len
  · go_enter Try.func4, Try.ntmps4
    go_wp2
    go_ret
    exact ⟨rfl, Below.refl _ _⟩
  have hlB : decide ((1048576 : Int) < (len : Int)) = false := by simp; omega
  have HBY := Lib.hid hb
  clear hb
  go_enter Try.func4, Try.ntmps4
  go_wp2_with fail
  refine (drawLeaseRenew s len cap w HBY.out).mono ?_
  rintro e w1 ⟨g, c, L, ow, now, ut, rfl, hl12, ho, hb1⟩
  have O1 := Lib.hid ho
  have hmx : Hid (L.length ≤ maxLen) := by show _ ≤ maxLen; unfold maxLen; omega
  clear ho
  go_wp2_with fail
  refine (renew_any _ _ _ L ow now ut w1 O1.out.ls rfl hmx.out).mono ?_
  rintro e w2 ⟨g2, c2, rfl, ho2, hb2⟩
  have hB2 : Below w.heap.size w w2 := hb1.trans (hb2.mono hb1.size)
  have R2 := Lib.hid ho2
  have O2 := Lib.hid (O1.out.keepB hb2 (Nat.le_refl _))
  clear ho2
  go_wp2_with fail
  refine (srenew_any _ _ _ L ow now ut w2 O2.out.ls rfl hmx.out).mono ?_
  rintro e w3 ⟨g3, c3, rfl, ho3, hb3⟩
  have hB3 : Below w.heap.size w w3 := hB2.trans (hb3.mono hB2.size)
  have S3 := Lib.hid ho3
  have R3 := Lib.hid (R2.out.keepB hb3 (Nat.le_refl _))
  have O3 := Lib.hid (O2.out.keepB hb3 (Nat.le_refl _))
  clear ho3
  have hsm : Hid ((renR L ow now ut).1.length ≤ 1048576) := by show _ ≤ 1048576; have := renR_len L ow now ut; omega
  have q1 : ((renR L ow now ut).2 != (renR L ow now ut).2) = false := by simp
  cases hok : renOk L ow now ut
  · have HR := Lib.hid (renR_no hok)
    have q2 : decide ((renR L ow now ut).2 < 0) = true := by rw [HR.out]; rfl
    go_wp2_with fail
    refine (sameLs_same _ _ _ _ _ (renR L ow now ut).1 w3 R3.out.ls S3.out.ls rfl hsm.out).mono ?_
    rintro e w4 ⟨rfl, hs4⟩
    have hB4 : Below w.heap.size w w4 := hB3.trans (hs4.below _)
    have R4 := Lib.hid (R3.out.keepB (hs4.below _) (Nat.le_refl _))
    have S4 := Lib.hid (S3.out.keepB (hs4.below _) (Nat.le_refl _))
    go_wp2_with fail
    refine (sameLs_same _ _ _ _ _ (renR L ow now ut).1 w4 R4.out.ls S4.out.ls rfl hsm.out).mono ?_
    rintro e w5 ⟨rfl, hs5⟩
    go_wp2
    go_ret
    exact ⟨rfl, hB4.trans (hs5.below _)⟩
  have HR := Lib.hid (renR_yes hok)
  have HOK := Lib.hid hok
  have hnl := renN_le L ow now ut L.length
  have q2 : decide ((renR L ow now ut).2 < 0) = false := by rw [HR.out, decide_eq_false_iff_not]; show ¬ ((renN L ow now ut L.length : Nat) : Int) < 0; omega
  go_wp2_with fail
  refine (sameLs_same _ _ _ _ _ (renR L ow now ut).1 w3 R3.out.ls S3.out.ls rfl hsm.out).mono ?_
  rintro e w4 ⟨rfl, hs4⟩
  have hB4 : Below w.heap.size w w4 := hB3.trans (hs4.below _)
  have R4 := Lib.hid (R3.out.keepB (hs4.below _) (Nat.le_refl _))
  have O4 := Lib.hid (O3.out.keepB (hs4.below _) (Nat.le_refl _))
  have hM : (renR L ow now ut).1 = L.map (rnL ow now ut) := by rw [HR.out]
  have hN : (renR L ow now ut).2 = (renN L ow now ut L.length : Nat) := by rw [HR.out]
  have R4' : Hid (OwnS w4 w1.heap.size g2 c2 (L.map (rnL ow now ut))) := by have := R4.out; rwa [hM] at this
  have HMl : Hid ((renR L ow now ut).1.length = L.length) := by show _ = _; rw [hM]; simp
  have HN := Lib.hid hN
  have hlen : (L.map (rnL ow now ut)).length = L.length := by simp
  have HLE := Lib.hid hlen
  clear hM hN hlen q1 q2 hok
  rw [HMl.out, HN.out]
  have hmx2 : Hid ((L.map (rnL ow now ut)).length ≤ maxLen) := by show _ ≤ maxLen; rw [HLE.out]; exact hmx.out
  have hok2 : renOk (L.map (rnL ow now ut)) ow now ut = true := by
    obtain ⟨_, h1, h2, h3⟩ := (renOk_iff _ _ _ _).1 HOK.out
    exact (renOk_iff _ _ _ _).2 ⟨ren_lv HOK.out, h1, h2, h3⟩
  have H2 : Hid (renR (L.map (rnL ow now ut)) ow now ut = (L.map (rnL ow now ut), 0)) := by
    show renR _ _ _ _ = _
    rw [renR_yes hok2, ren_again, renN_again _ (by simp)]; rfl
  clear hok2
  have hcall := renew_any _ _ c2 (L.map (rnL ow now ut)) ow now ut w4 R4'.out.ls rfl hmx2.out
  rw [HLE.out] at hcall
  have HC := Lib.hid hcall
  clear hcall
  go_wp2_with fail
  refine HC.out.mono ?_
  rintro e w5 ⟨g5, c5, rfl, ho5, hb5⟩
  rw [H2.out] at ho5 ⊢
  have hB5 : Below w.heap.size w w5 := hB4.trans (hb5.mono hB4.size)
  have X5 := Lib.hid ho5
  have R5 := Lib.hid (R4'.out.keepB hb5 (Nat.le_refl _))
  clear ho5
  simp only [HLE.out]
  go_wp2_with fail
  refine (sameLs_same _ _ _ _ _ (L.map (rnL ow now ut)) w5 X5.out.ls R5.out.ls HLE.out (by omega)).mono ?_
  rintro e w6 ⟨rfl, hs6⟩
  go_wp2
  go_ret
  exact ⟨rfl, hB5.trans (hs6.below _)⟩

set_option maxHeartbeats 2000000 in
theorem renewLater (s : Option Addr) (len cap : Nat) (z : List Int) (w : World) (h : RowIn .u8 w s len cap z) :
    Calls Try.prog 5 #[.slice s len cap] w fun e w' => e = .returned (.bool true) ∧ Below w.heap.size w w' := by
  have hb := bytes_of_row h
  have hm : len ≤ maxLen := Nat.le_trans hb.1 hb.2.1
  unfold maxLen at hm
  clear h
  by_cases hl : 1048576 < len
  · go_enter Try.func5, Try.ntmps5
    go_wp2
    go_ret
    exact ⟨rfl, Below.refl _ _⟩
  have hlB : decide ((1048576 : Int) < (len : Int)) = false := by simp; omega
  have HBY := Lib.hid hb
  clear hb
  go_enter Try.func5, Try.ntmps5
  go_wp2_with fail
  refine (drawLeaseRenew s len cap w HBY.out).mono ?_
  rintro e w1 ⟨g, c, L, ow, now, ut, rfl, hl12, ho, hb1⟩
  have O1 := Lib.hid ho
  have hmx : Hid (L.length ≤ maxLen) := by show _ ≤ maxLen; unfold maxLen; omega
  clear ho
  go_wp2_with fail
  refine (renew_any _ _ _ L ow now ut w1 O1.out.ls rfl hmx.out).mono ?_
  rintro e w2 ⟨g2, c2, rfl, ho2, hb2⟩
  have hB2 : Below w.heap.size w w2 := hb1.trans (hb2.mono hb1.size)
  have R2 := Lib.hid ho2
  have O2 := Lib.hid (O1.out.keepB hb2 (Nat.le_refl _))
  clear ho2
  go_wp2_with fail
  refine (srenew_any _ _ _ L ow now ut w2 O2.out.ls rfl hmx.out).mono ?_
  rintro e w3 ⟨g3, c3, rfl, ho3, hb3⟩
  have hB3 : Below w.heap.size w w3 := hB2.trans (hb3.mono hB2.size)
  have S3 := Lib.hid ho3
  have R3 := Lib.hid (R2.out.keepB hb3 (Nat.le_refl _))
  have O3 := Lib.hid (O2.out.keepB hb3 (Nat.le_refl _))
  clear ho3
  have hsm : Hid ((renR L ow now ut).1.length ≤ 1048576) := by show _ ≤ 1048576; have := renR_len L ow now ut; omega
  have q1 : ((renR L ow now ut).2 != (renR L ow now ut).2) = false := by simp
  cases hok : renOk L ow now ut
  · have HR := Lib.hid (renR_no hok)
    have q2 : decide ((renR L ow now ut).2 < 0) = true := by rw [HR.out]; rfl
    go_wp2_with fail
    refine (sameLs_same _ _ _ _ _ (renR L ow now ut).1 w3 R3.out.ls S3.out.ls rfl hsm.out).mono ?_
    rintro e w4 ⟨rfl, hs4⟩
    have hB4 : Below w.heap.size w w4 := hB3.trans (hs4.below _)
    have R4 := Lib.hid (R3.out.keepB (hs4.below _) (Nat.le_refl _))
    have S4 := Lib.hid (S3.out.keepB (hs4.below _) (Nat.le_refl _))
    go_wp2_with fail
    refine (sameLs_same _ _ _ _ _ (renR L ow now ut).1 w4 R4.out.ls S4.out.ls rfl hsm.out).mono ?_
    rintro e w5 ⟨rfl, hs5⟩
    go_wp2
    go_ret
    exact ⟨rfl, hB4.trans (hs5.below _)⟩
  have HR := Lib.hid (renR_yes hok)
  have HOK := Lib.hid hok
  have hnl := renN_le L ow now ut L.length
  have q2 : decide ((renR L ow now ut).2 < 0) = false := by rw [HR.out, decide_eq_false_iff_not]; show ¬ ((renN L ow now ut L.length : Nat) : Int) < 0; omega
  go_wp2_with fail
  refine (sameLs_same _ _ _ _ _ (renR L ow now ut).1 w3 R3.out.ls S3.out.ls rfl hsm.out).mono ?_
  rintro e w4 ⟨rfl, hs4⟩
  have hB4 : Below w.heap.size w w4 := hB3.trans (hs4.below _)
  have R4 := Lib.hid (R3.out.keepB (hs4.below _) (Nat.le_refl _))
  have O4 := Lib.hid (O3.out.keepB (hs4.below _) (Nat.le_refl _))
  have hM : (renR L ow now ut).1 = L.map (rnL ow now ut) := by rw [HR.out]
  have hN : (renR L ow now ut).2 = (renN L ow now ut L.length : Nat) := by rw [HR.out]
  have R4' : Hid (OwnS w4 w1.heap.size g2 c2 (L.map (rnL ow now ut))) := by have := R4.out; rwa [hM] at this
  have HMl : Hid ((renR L ow now ut).1.length = L.length) := by show _ = _; rw [hM]; simp
  have HN := Lib.hid hN
  have hlen : (L.map (rnL ow now ut)).length = L.length := by simp
  have HLE := Lib.hid hlen
  clear hM hN hlen q1 q2 hok
  rw [HMl.out, HN.out]
  obtain ⟨n, hn⟩ : ∃ n, n = L.length := ⟨_, rfl⟩
  rw [← hn]
  have hn12 : n ≤ 12 := by rw [hn]; exact hl12
  have HNL := Lib.hid hn
  clear hn hnl hl12
  go_wp2
  go_loopw [11] (fun i wr => ∃ k : Nat, k ≤ n ∧ i = .int .i64 k ∧ Same w4 wr) (fun i _ => n - (intOf i).toNat)
  case atStart => exact ⟨0, by omega, rfl, Same.refl _⟩
  case round =>
    obtain ⟨k, hk, rfl, hs⟩ := hrel
    obtain ⟨wo, rfl⟩ : ∃ x, x = wr := ⟨_, rfl⟩
    by_cases hlt : k < n
    · have hkL : Hid (k < L.length) := by show k < L.length; rw [← HNL.out]; exact hlt
      obtain ⟨x0, x1, x2⟩ := (O4.out.keepB (hs.below _) (Nat.le_refl _)).cells (i := k) hkL.out
      obtain ⟨y0, y1, y2⟩ := (R4'.out.keepB (hs.below _) (Nat.le_refl _)).cells (i := k) (by rw [HLE.out]; exact hkL.out)
      rw [ren_gl hkL.out, rnL_o] at y1
      rw [ren_gl hkL.out] at y2
      clear y0
      have hu := rnL_u ow now ut (gl L k)
      generalize (rnL ow now ut (gl L k)).u = u2 at *
      have d0 : decide (u2 < (gl L k).u) = false := by simp; omega
      have i0 : (0 : Int) ≤ (k : Int) := by omega
      have i1 : (k : Int) < (n : Int) := by omega
      go_wp2
      go_quiet (fail)
      go_wp2
      go_roundw
      case rel => exact ⟨k + 1, by omega, by go_num, hs.drewN _⟩
      case measure => simp [intOf]; omega
    · go_wp2
      go_ret
      exact ⟨rfl, hB4.trans (hs.below _)⟩

set_option maxHeartbeats 2000000 in
theorem renewLaw (s : Option Addr) (len cap : Nat) (z : List Int) (w : World) (h : RowIn .u8 w s len cap z) :
    Calls Try.prog 3 #[.slice s len cap] w fun e w' => e = .returned (.bool true) ∧ Below w.heap.size w w' := by
  have hb := bytes_of_row h
  have hm : len ≤ maxLen := Nat.le_trans hb.1 hb.2.1
  unfold maxLen at hm
  clear h
  by_cases hl : 1048576 < len
  · go_enter Try.func3, Try.ntmps3
    go_wp2
    go_ret
    exact ⟨rfl, Below.refl _ _⟩
  have hlB : decide ((1048576 : Int) < (len : Int)) = false := by simp; omega
  have HBY := Lib.hid hb
  clear hb
  go_enter Try.func3, Try.ntmps3
  go_wp2_with fail
  refine (drawLeaseRenew s len cap w HBY.out).mono ?_
  rintro e w1 ⟨g, c, L, ow, now, ut, rfl, hl12, ho, hb1⟩
  have O1 := Lib.hid ho
  have hmx : Hid (L.length ≤ maxLen) := by show _ ≤ maxLen; unfold maxLen; omega
  clear ho
  go_wp2_with fail
  refine (renew_any _ _ _ L ow now ut w1 O1.out.ls rfl hmx.out).mono ?_
  rintro e w2 ⟨g2, c2, rfl, ho2, hb2⟩
  have hB2 : Below w.heap.size w w2 := hb1.trans (hb2.mono hb1.size)
  have R2 := Lib.hid ho2
  have O2 := Lib.hid (O1.out.keepB hb2 (Nat.le_refl _))
  clear ho2
  go_wp2_with fail
  refine (srenew_any _ _ _ L ow now ut w2 O2.out.ls rfl hmx.out).mono ?_
  rintro e w3 ⟨g3, c3, rfl, ho3, hb3⟩
  have hB3 : Below w.heap.size w w3 := hB2.trans (hb3.mono hB2.size)
  have S3 := Lib.hid ho3
  have R3 := Lib.hid (R2.out.keepB hb3 (Nat.le_refl _))
  have O3 := Lib.hid (O2.out.keepB hb3 (Nat.le_refl _))
  clear ho3
  have hsm : Hid ((renR L ow now ut).1.length ≤ 1048576) := by show _ ≤ 1048576; have := renR_len L ow now ut; omega
  have q1 : ((renR L ow now ut).2 != (renR L ow now ut).2) = false := by simp
  cases hok : renOk L ow now ut
  · have HR := Lib.hid (renR_no hok)
    have q2 : decide ((renR L ow now ut).2 < 0) = true := by rw [HR.out]; rfl
    go_wp2_with fail
    refine (sameLs_same _ _ _ _ _ (renR L ow now ut).1 w3 R3.out.ls S3.out.ls rfl hsm.out).mono ?_
    rintro e w4 ⟨rfl, hs4⟩
    have hB4 : Below w.heap.size w w4 := hB3.trans (hs4.below _)
    have R4 := Lib.hid (R3.out.keepB (hs4.below _) (Nat.le_refl _))
    have S4 := Lib.hid (S3.out.keepB (hs4.below _) (Nat.le_refl _))
    go_wp2_with fail
    refine (sameLs_same _ _ _ _ _ (renR L ow now ut).1 w4 R4.out.ls S4.out.ls rfl hsm.out).mono ?_
    rintro e w5 ⟨rfl, hs5⟩
    go_wp2
    go_ret
    exact ⟨rfl, hB4.trans (hs5.below _)⟩
  have HR := Lib.hid (renR_yes hok)
  have HOK := Lib.hid hok
  have hnl := renN_le L ow now ut L.length
  have q2 : decide ((renR L ow now ut).2 < 0) = false := by rw [HR.out, decide_eq_false_iff_not]; show ¬ ((renN L ow now ut L.length : Nat) : Int) < 0; omega
  go_wp2_with fail
  refine (sameLs_same _ _ _ _ _ (renR L ow now ut).1 w3 R3.out.ls S3.out.ls rfl hsm.out).mono ?_
  rintro e w4 ⟨rfl, hs4⟩
  have hB4 : Below w.heap.size w w4 := hB3.trans (hs4.below _)
  have R4 := Lib.hid (R3.out.keepB (hs4.below _) (Nat.le_refl _))
  have O4 := Lib.hid (O3.out.keepB (hs4.below _) (Nat.le_refl _))
  have hM : (renR L ow now ut).1 = L.map (rnL ow now ut) := by rw [HR.out]
  have hN : (renR L ow now ut).2 = (renN L ow now ut L.length : Nat) := by rw [HR.out]
  have R4' : Hid (OwnS w4 w1.heap.size g2 c2 (L.map (rnL ow now ut))) := by have := R4.out; rwa [hM] at this
  have HMl : Hid ((renR L ow now ut).1.length = L.length) := by show _ = _; rw [hM]; simp
  have HN := Lib.hid hN
  have hlen : (L.map (rnL ow now ut)).length = L.length := by simp
  have HLE := Lib.hid hlen
  clear hM hN hlen q1 q2 hok
  rw [HMl.out, HN.out]
  obtain ⟨n, hn⟩ : ∃ n, n = L.length := ⟨_, rfl⟩
  rw [← hn] at hnl ⊢
  have hn12 : n ≤ 12 := by rw [hn]; exact hl12
  have HNL := Lib.hid hn
  clear hn hl12
  have hgd : Try.prog.eqGuardType Try.prog.depth 30 = false := by kernel_rfl
  go_wp2
  go_loopw [11, 12] (fun q i wr => ∃ k : Nat, k ≤ n ∧ i = .int .i64 k ∧ q = .int .i64 (renN L ow now ut k : Nat) ∧ Below w4.heap.size w4 wr) (fun _ i _ => n - (intOf i).toNat)
  case atStart => exact ⟨0, by omega, rfl, rfl, Below.refl _ _⟩
  case round =>
    obtain ⟨k, hk, rfl, rfl, hbel⟩ := hrel
    obtain ⟨wo, rfl⟩ : ∃ x, x = wr := ⟨_, rfl⟩
    have hnk := renN_le L ow now ut k
    by_cases hlt : k < n
    · have hkL : Hid (k < L.length) := by show k < L.length; rw [← HNL.out]; exact hlt
      have X := O4.out.keepB hbel (Nat.le_refl _)
      have Y := R4'.out.keepB hbel (Nat.le_refl _)
      have hgl2 : g2 < wo.heap.size := Y.blk.2.1
      obtain ⟨x0, x1, x2⟩ := X.cells (i := k) hkL.out
      obtain ⟨y0, y1, y2⟩ := Y.cells (i := k) (by rw [HLE.out]; exact hkL.out)
      rw [ren_gl hkL.out, rnL_e] at y0
      rw [ren_gl hkL.out, rnL_o] at y1
      rw [ren_gl hkL.out] at y2
      clear X Y
      have hne : ¬ g2 = wo.heap.size := by omega
      have i0 : (0 : Int) ≤ (k : Int) := by omega
      have i1 : (k : Int) < (n : Int) := by omega
      cases hr : rnB ow now ut (gl L k)
      · have HRN := Lib.hid (renN_no hr)
        have hu : (rnL ow now ut (gl L k)).u = (gl L k).u := by unfold rnL; rw [if_neg (by rw [hr]; decide)]
        rw [hu] at y2
        have hr' := hr
        simp only [rnB, decide_eq_false_iff_not] at hr'
        clear hu hr
        cases c1 : ((gl L k).o == ow)
        · clear hr'
          go_wp2
          go_quiet (fail)
          go_wp2
          go_roundw
          case rel => exact ⟨k + 1, by omega, by go_num, by rw [HRN.out], bel_dN (hbel.trans ((alB _ _).mono hbel.size)) _⟩
          case measure => simp [intOf]; omega
        · have ho : (gl L k).o = ow := by simpa using c1
          rcases Int.lt_or_le (gl L k).u now with c2 | c2
          · clear hr' ho
            have c2' : ¬ now ≤ (gl L k).u := by omega
            go_wp2
            go_quiet (fail)
            go_wp2
            go_roundw
            case rel => exact ⟨k + 1, by omega, by go_num, by rw [HRN.out], bel_dN (hbel.trans ((alB _ _).mono hbel.size)) _⟩
            case measure => simp [intOf]; omega
          · have c3 : ¬ (gl L k).u < ut := fun hh => hr' ⟨ho, c2, hh⟩
            have c3' : ut ≤ (gl L k).u := by omega
            clear hr' ho
            go_wp2
            go_quiet (fail)
            go_wp2
            go_roundw
            case rel => exact ⟨k + 1, by omega, by go_num, by rw [HRN.out], bel_dN (hbel.trans ((alB _ _).mono hbel.size)) _⟩
            case measure => simp [intOf]; omega
      · have HRN := Lib.hid (renN_yes hr)
        have hu : (rnL ow now ut (gl L k)).u = ut := by unfold rnL; rw [if_pos hr]
        rw [hu] at y2
        have hr' := hr
        simp only [rnB, decide_eq_true_eq] at hr'
        obtain ⟨r1, r2, r3⟩ := hr'
        have c1 : ((gl L k).o == ow) = true := by simp [r1]
        clear hu hr r1
        go_wp2
        go_quiet (fail)
        go_wp2
        go_roundw
        case rel => exact ⟨k + 1, by omega, by go_num, by rw [HRN.out]; go_num, bel_dN (hbel.trans ((alB _ _).mono hbel.size)) _⟩
        case measure => simp [intOf]; omega
    · obtain rfl : k = n := by omega
      have HK := Lib.hid HNL.out
      go_wp2
      go_ret
      exact ⟨rfl, hB4.trans (hbel.mono hB4.size)⟩

end Go.Proofs.Ytoaamamconcieab
