/- The walks of the laws of placement, on. -/
import Derived.Test.YtidabcdaodlfeaaPlDraw4
import Derived.Test.YtidabcdaodlfeaaPlSame
import Derived.Test.YtidabcdaodlfeaaDrawL
import Derived.Test.YtidabcdaodlfeaaAppS
import Derived.Test.YtidabcdaodlfeaaPlR
import Derived.Test.YtidabcdaodlfeaaPlP
import Derived.Test.YtidabcdaodlfeaaLawsPlA
import Derived.Deep.RegionHeld3
namespace Go.Proofs.Ytidabcdaodlfeaa
open Go.RowKit
set_option linter.unusedVariables false
attribute [local go_sem ↓] Go.wp_at_zero Go.wp_at_succ

set_option maxRecDepth 20000 in
set_option maxHeartbeats 4000000 in
theorem tokensOf (s : Option Addr) (len cap : Nat) (z : List Int) (s2 : Option Addr) (len2 cap2 : Nat) (z2 : List Int) (w : World) (h : RowIn .u8 w s len cap z) (h2 : RowIn .u8 w s2 len2 cap2 z2) :
    Calls Try.prog 3 #[.slice s len cap, .slice s2 len2 cap2] w fun e w' => e = .returned (.bool true) ∧ Below w.heap.size w w' := by
  have hb := bytes_of_row h
  have hb2 := bytes_of_row h2
  have hm : len ≤ maxLen := Nat.le_trans hb.1 hb.2.1
  have hm2 : len2 ≤ maxLen := Nat.le_trans hb2.1 hb2.2.1
  unfold maxLen at hm hm2
  clear h h2 hb2
  by_cases hllen : 1048576 < len
  · go_enter Try.func3, Try.ntmps3
    go_wp2
    go_ret
    exact ⟨rfl, Below.refl _ _⟩
  have hBlen : decide ((1048576 : Int) < (len : Int)) = false := by simp; omega
  by_cases hllen2 : 1048576 < len2
  · go_enter Try.func3, Try.ntmps3
    go_wp2
    go_ret
    exact ⟨rfl, Below.refl _ _⟩
  have hBlen2 : decide ((1048576 : Int) < (len2 : Int)) = false := by simp; omega
  have HY := Lib.hid hb
  clear hb
  go_enter Try.func3, Try.ntmps3
  go_wp2_with fail
  refine (drawTokensOf s len cap w HY.out).mono ?_
  rintro e w1 ⟨x, y, rfl, hx0, hx1, hy0, hy1, hb1⟩
  have B1 : Hid (Below w.heap.size w w1) := hb1
  clear hb1
  obtain ⟨L, hL⟩ : ∃ L, tkR x y = L := ⟨_, rfl⟩
  have HL := Lib.hid hL
  have hl5 : L.length ≤ 64 := by rw [← hL]; have := tkR_len x y; omega
  have HLM := Lib.hid (mil64 hl5)
  clear hx0 hx1 hl5
  cases hok : tkOk x y
  · obtain rfl : L = [] := by rw [← hL, tkR_bad hok]
    clear hL hok
    go_wp2_with fail
    refine (ptoks_as [] x y w1 HL.out).mono ?_
    rintro e w2 ⟨a2, d2, rfl, ho, hb2⟩
    have B2 : Hid (Below w.heap.size w w2) := B1.out.trans (hb2.mono B1.out.size)
    have O2 := Lib.hid ho
    clear hb2 ho
    go_wp2_with fail
    refine (stoks_as [] x y w2 HL.out).mono ?_
    rintro e w3 ⟨a3, d3, rfl, ho, hb3⟩
    have B3 : Hid (Below w.heap.size w w3) := B2.out.trans (hb3.mono B2.out.size)
    have O3 := Lib.hid (O2.out.keepB hb3 (Nat.le_refl _))
    have S3 := Lib.hid ho
    clear hb3 ho
    go_wp2_with fail
    refine (sameI_any a2 a3 _ d2 d3 [] w3 O3.out.ints S3.out.ints rfl HLM.out).mono ?_
    rintro e w4 ⟨rfl, hs4⟩
    have hb4 := hs4.below w3.heap.size
    have B4 : Hid (Below w.heap.size w w4) := B3.out.trans (hb4.mono B3.out.size)
    have O4 := Lib.hid (O3.out.keepB hb4 (Nat.le_refl _))
    have S4 := Lib.hid (S3.out.keepB hb4 (Nat.le_refl _))
    clear hs4 hb4
    go_wp2_with fail
    refine (sameI_any a2 a3 _ d2 d3 [] w4 O4.out.ints S4.out.ints rfl HLM.out).mono ?_
    rintro e w5 ⟨rfl, hs5⟩
    have hb5 := hs5.below w4.heap.size
    have B5 : Hid (Below w.heap.size w w5) := B4.out.trans (hb5.mono B4.out.size)
    have O5 := Lib.hid (O4.out.keepB hb5 (Nat.le_refl _))
    have S5 := Lib.hid (S4.out.keepB hb5 (Nat.le_refl _))
    clear hs5 hb5
    go_wp2
    go_ret
    exact ⟨rfl, B5.out⟩
  · have hp := (tkOk_iff _ _).1 hok
    obtain ⟨m, hm3⟩ : ∃ m : Nat, y = (m : Int) := ⟨y.toNat, by omega⟩
    subst hm3
    have hm5 : m ≤ 5 := by omega
    have hLt : L = tkL x m := by rw [← hL, tkR_ok hok]; rfl
    have hLm : L.length = m := by rw [hLt, tkL_len]
    have HLL := Lib.hid hLm
    have m0 : ((m : Int) == 0) = false := by rw [beq_eq_false_iff_ne]; omega
    have m0' : ¬ (m : Int) = 0 := by omega
    have m0'' : ¬ m = 0 := by omega
    obtain ⟨j, hj, hjm⟩ := remP len2 m (by omega)
    have hjt : (len2 : Int).tmod (m : Int) = (j : Int) := by rw [Int.tmod_eq_emod_of_nonneg (by omega)]; exact hj
    have HK : Hid (tkR x ((1 : Int) + (j : Int)) = L.take (j + 1)) := by
      show _ = _
      rw [hLt, tkL_take x (by omega), tkR_ok ((tkOk_iff _ _).2 ⟨hp.1, by omega, by omega⟩)]
      congr 1; omega
    have HT : Hid ((L.take (j + 1)).length = j + 1) := by show _ = _; rw [List.length_take]; omega
    have HTM2 := Lib.hid (show j + 1 ≤ 1048576 by omega)
    have mm : ((m : Int) == (m : Int)) = true := by simp
    clear hL hok hLt hLm hp
    go_wp2_with fail
    refine (ptoks_as L x (m : Int) w1 HL.out).mono ?_
    rintro e w2 ⟨a2, d2, rfl, ho, hb2⟩
    have B2 : Hid (Below w.heap.size w w2) := B1.out.trans (hb2.mono B1.out.size)
    have O2 := Lib.hid ho
    clear hb2 ho
    go_wp2_with fail
    refine (stoks_as L x (m : Int) w2 HL.out).mono ?_
    rintro e w3 ⟨a3, d3, rfl, ho, hb3⟩
    have B3 : Hid (Below w.heap.size w w3) := B2.out.trans (hb3.mono B2.out.size)
    have O3 := Lib.hid (O2.out.keepB hb3 (Nat.le_refl _))
    have S3 := Lib.hid ho
    clear hb3 ho
    go_wp2_with fail
    refine (sameI_any a2 a3 _ d2 d3 L w3 O3.out.ints S3.out.ints rfl HLM.out).mono ?_
    rintro e w4 ⟨rfl, hs4⟩
    have hb4 := hs4.below w3.heap.size
    have B4 : Hid (Below w.heap.size w w4) := B3.out.trans (hb4.mono B3.out.size)
    have O4 := Lib.hid (O3.out.keepB hb4 (Nat.le_refl _))
    have S4 := Lib.hid (S3.out.keepB hb4 (Nat.le_refl _))
    clear hs4 hb4
    rw [HLL.out]
    have q0 : (0 : Int) ≤ (1 : Int) + (j : Int) := by omega
    have q1 : (1 : Int) + (j : Int) ≤ (m : Int) := by omega
    have q3 : ((1 : Int) + (j : Int)).toNat = j + 1 := by omega
    obtain ⟨g2, ha2, hc2, _, ho2⟩ := O4.out.some (by rw [HLL.out]; omega)
    subst ha2
    rw [HLL.out] at hc2
    have q4 : (1 : Int) + (j : Int) ≤ (d2 : Int) := by omega
    have HI4 := Lib.hid ho2.ints
    have HLC : Hid (j + 1 ≤ L.length) := by show _ ≤ _; rw [HLL.out]; omega
    clear ho2 m0 m0' m0''
    go_wp2_with fail
    go_region_held3 (fun _ => True) (trivial) (first | (go_at_call 20; refine (sameI_any a5 (some ⟨g2, 0, none⟩) (j + 1) d5 _ (L.take (j + 1)) w5 HO5.out.ints HI5.out HT.out HTM2.out).mono ?_; rintro e w6 ⟨rfl, hs6⟩; have B6 : Hid (Below w.heap.size w w6) := (B5.out.trans (hs6.below _)); clear hs6) | (go_at_call 18; refine (ptoks_at (j + 1) (L.take (j + 1)) x _ _ HK.out HT.out).mono ?_; rintro e w5 ⟨a5, d5, rfl, ho5, hb5⟩; have HO5 := Lib.hid ho5; have HI5 : Hid (IntsAt w5 (some ⟨g2, 0, none⟩) (L.take (j + 1))) := ((HI4.out.keepB ((Below.refl _ _).drew.trans hb5) (Nat.le_refl _)).takeP _ HLC.out); have B5 : Hid (Below w.heap.size w w5) := (B4.out.drew.trans (hb5.mono B4.out.size)); clear ho5 hb5))
    all_goals
      go_wp2
      go_ret
      exact ⟨rfl, B6.out⟩

theorem OwnI.capP {w : World} {base g cap : Nat} {zs : List Int} (h : OwnI w base (some ⟨g, 0, none⟩) cap zs) : zs.length ≤ cap := by
  rcases h.2 with ⟨hn, _⟩ | ⟨g', cap', cur, hv, hb, hg, hnc, hcm, _⟩
  · cases hn
  · injection hv with _ _ hc; rw [hc]; exact hnc
theorem take_one {zs : List Int} (h : 0 < zs.length) : zs.take 1 = [gt zs 0] := by
  cases zs with
  | nil => simp at h
  | cons z zs => rfl
theorem plOk_one {zs ws : List Int} (h : plOk zs ws = true) : plOk (zs.take 1) (ws.take 1) = true := by
  obtain ⟨h1, h2, h3⟩ := (plOk_iff _ _).1 h
  have hl := vld_len h1
  have hz := take_one (zs := zs) (by omega)
  have hw := take_one (zs := ws) (by omega)
  have hp := asc_pt h1 (i := 0) (by omega)
  have hq := (wsB_iff ws).1 h3 0 (by omega)
  refine (plOk_iff _ _).2 ⟨?_, by rw [hz, hw]; rfl, ?_⟩
  · rw [hz]
    have : ptB (gt zs 0) = true := (ptB_iff _).2 hp
    refine vld_yes (by simp) (by simp) ?_
    simp [ascTo, okAt, gt] at this ⊢
    exact this
  · rw [hw]; simp [wsB]; omega

set_option maxRecDepth 20000 in
set_option maxHeartbeats 4000000 in
theorem placeSingle (s : Option Addr) (len cap : Nat) (z : List Int) (w : World) (h : RowIn .u8 w s len cap z) :
    Calls Try.prog 10 #[.slice s len cap] w fun e w' => e = .returned (.bool true) ∧ Below w.heap.size w w' := by
  have hb := bytes_of_row h
  have hm : len ≤ maxLen := Nat.le_trans hb.1 hb.2.1
  unfold maxLen at hm
  clear h
  by_cases hllen : 1048576 < len
  · go_enter Try.func10, Try.ntmps10
    go_wp2
    go_ret
    exact ⟨rfl, Below.refl _ _⟩
  have HY := Lib.hid hb
  clear hb
  go_enter Try.func10, Try.ntmps10
  go_wp2_with fail
  refine (drawPlaceTable s len cap w HY.out).mono ?_
  rintro e w1 ⟨a, c, zs, g, cw, ws, rfl, h20, h21, hcc, hi, ho, hb1⟩
  have B1 : Hid (Below w.heap.size w w1) := hb1
  have I1 := Lib.hid hi.ints
  have V1 := Lib.hid ho
  clear hb1 hi ho
  have HMZ := Lib.hid (small64 (show zs.length ≤ 64 by omega))
  have HMW := Lib.hid (small64 (show ws.length ≤ 64 by omega))
  have HCC := Lib.hid hcc
  obtain ⟨T, hT⟩ : ∃ T, plR zs ws = T := ⟨_, rfl⟩
  have HT := Lib.hid hT
  have ht64 : T.length ≤ 64 := by rw [← hT]; exact plR_len zs ws
  have HTL := Lib.hid (mil64 ht64)
  have HTM := Lib.hid (small64 ht64)
  clear hcc
  cases hok : plOk zs ws
  · obtain rfl : T = [] := by rw [← hT, plR_bad hok]
    clear hT hok
    go_wp2_with fail
    refine (pplace_as [] _ _ _ _ c cw zs ws w1 I1.out V1.out.ints rfl rfl HMZ.out HMW.out HT.out).mono ?_
    rintro e w2 ⟨a2, d2, rfl, ho, hb2⟩
    have B2 : Hid (Below w.heap.size w w2) := B1.out.trans (hb2.mono B1.out.size)
    have I2 := Lib.hid (I1.out.keepB hb2 (Nat.le_refl _))
    have V2 := Lib.hid (V1.out.keepB hb2 (Nat.le_refl _))
    have O2 := Lib.hid ho
    clear hb2 ho
    go_wp2_with fail
    refine (splace_as [] _ _ _ _ c cw zs ws w2 I2.out V2.out.ints rfl rfl HMZ.out HMW.out HT.out).mono ?_
    rintro e w3 ⟨a3, d3, rfl, ho, hb3⟩
    have B3 : Hid (Below w.heap.size w w3) := B2.out.trans (hb3.mono B2.out.size)
    have I3 := Lib.hid (I2.out.keepB hb3 (Nat.le_refl _))
    have V3 := Lib.hid (V2.out.keepB hb3 (Nat.le_refl _))
    have O3 := Lib.hid (O2.out.keepB hb3 (Nat.le_refl _))
    have S3 := Lib.hid ho
    clear hb3 ho
    go_wp2_with fail
    refine (sameTk_same a2 a3 _ d2 d3 [] w3 O3.out.tk S3.out.tk rfl HTL.out).mono ?_
    rintro e w4 ⟨rfl, hs4⟩
    have hb4 := hs4.below w3.heap.size
    have B4 : Hid (Below w.heap.size w w4) := B3.out.trans (hb4.mono B3.out.size)
    have I4 := Lib.hid (I3.out.keepB hb4 (Nat.le_refl _))
    have V4 := Lib.hid (V3.out.keepB hb4 (Nat.le_refl _))
    have O4 := Lib.hid (O3.out.keepB hb4 (Nat.le_refl _))
    have S4 := Lib.hid (S3.out.keepB hb4 (Nat.le_refl _))
    clear hs4 hb4
    go_wp2_with fail
    refine (sameTk_same a2 a3 _ d2 d3 [] w4 O4.out.tk S4.out.tk rfl HTL.out).mono ?_
    rintro e w5 ⟨rfl, hs5⟩
    have hb5 := hs5.below w4.heap.size
    have B5 : Hid (Below w.heap.size w w5) := B4.out.trans (hb5.mono B4.out.size)
    have I5 := Lib.hid (I4.out.keepB hb5 (Nat.le_refl _))
    have V5 := Lib.hid (V4.out.keepB hb5 (Nat.le_refl _))
    have O5 := Lib.hid (O4.out.keepB hb5 (Nat.le_refl _))
    clear hs5 hb5
    go_wp2
    go_ret
    exact ⟨rfl, B5.out⟩
  · have HOK := Lib.hid hok
    have hTT : T = tabTo zs ws 64 := by rw [← hT, plR_ok hok]
    have HTT := Lib.hid hTT
    have HTB : Hid (tbB T = true) := by show _ = true; rw [hTT]; exact tab_valid hok
    have htl := tb_len HTB.out
    have HTP := Lib.hid htl
    have t0 : ((T.length : Int) == 0) = false := by rw [beq_eq_false_iff_ne]; omega
    have hzl := vld_len ((plOk_iff _ _).1 hok).1
    have HWL := Lib.hid ((plOk_iff _ _).1 hok).2.1
    have hwl1 : zs.length ≤ ws.length := Nat.le_of_eq HWL.out.symm
    have hwl2 : ws.length ≤ 10 := by rw [HWL.out]; exact hzl.2
    clear hT hok hTT
    go_wp2_with fail
    refine (pplace_as T _ _ _ _ c cw zs ws w1 I1.out V1.out.ints rfl rfl HMZ.out HMW.out HT.out).mono ?_
    rintro e w2 ⟨a2, d2, rfl, ho, hb2⟩
    have B2 : Hid (Below w.heap.size w w2) := B1.out.trans (hb2.mono B1.out.size)
    have I2 := Lib.hid (I1.out.keepB hb2 (Nat.le_refl _))
    have V2 := Lib.hid (V1.out.keepB hb2 (Nat.le_refl _))
    have O2 := Lib.hid ho
    clear hb2 ho
    go_wp2_with fail
    refine (splace_as T _ _ _ _ c cw zs ws w2 I2.out V2.out.ints rfl rfl HMZ.out HMW.out HT.out).mono ?_
    rintro e w3 ⟨a3, d3, rfl, ho, hb3⟩
    have B3 : Hid (Below w.heap.size w w3) := B2.out.trans (hb3.mono B2.out.size)
    have I3 := Lib.hid (I2.out.keepB hb3 (Nat.le_refl _))
    have V3 := Lib.hid (V2.out.keepB hb3 (Nat.le_refl _))
    have O3 := Lib.hid (O2.out.keepB hb3 (Nat.le_refl _))
    have S3 := Lib.hid ho
    clear hb3 ho
    go_wp2_with fail
    refine (sameTk_same a2 a3 _ d2 d3 T w3 O3.out.tk S3.out.tk rfl HTL.out).mono ?_
    rintro e w4 ⟨rfl, hs4⟩
    have hb4 := hs4.below w3.heap.size
    have B4 : Hid (Below w.heap.size w w4) := B3.out.trans (hb4.mono B3.out.size)
    have I4 := Lib.hid (I3.out.keepB hb4 (Nat.le_refl _))
    have V4 := Lib.hid (V3.out.keepB hb4 (Nat.le_refl _))
    have O4 := Lib.hid (O3.out.keepB hb4 (Nat.le_refl _))
    have S4 := Lib.hid (S3.out.keepB hb4 (Nat.le_refl _))
    clear hs4 hb4
    obtain ⟨b, off, hab, hb0, hcells⟩ := I4.out.cellP (by omega)
    subst hab
    have hcell := hcells 0 (by omega)
    rw [Nat.add_zero] at hcell
    obtain ⟨z0, hz0⟩ : ∃ z0, z0 = gt zs 0 := ⟨_, rfl⟩
    rw [← hz0] at hcell
    have c1 : (1 : Int) ≤ (c : Int) := by have := HCC.out; omega
    have c2 : (1 : Int) ≤ (cw : Int) := by have := (OwnI.capP V4.out); omega
    have c3 : (0 : Int) < (zs.length : Int) := by omega
    have HI4 := Lib.hid (I4.out.takeP 1 (by omega))
    have HV4 := Lib.hid (V4.out.ints.takeP 1 (by omega))
    have HZ1 : Hid ((zs.take 1).length = 1) := by show _ = _; rw [List.length_take]; omega
    have HW1 : Hid ((ws.take 1).length = 1) := by show _ = _; rw [List.length_take]; omega
    obtain ⟨u0, hu0⟩ : ∃ u0, ws.take 1 = [u0] := ⟨gt ws 0, take_one (by omega)⟩
    have hzt : zs.take 1 = [z0] := by rw [hz0]; exact take_one (by omega)
    have HP1 : Hid (plOk [z0] [u0] = true) := by show _ = true; rw [← hzt, ← hu0]; exact plOk_one HOK.out
    obtain ⟨T1, hT1⟩ : ∃ T1, tabTo [z0] [u0] 64 = T1 := ⟨_, rfl⟩
    have HT1 : Hid (plR (zs.take 1) (ws.take 1) = T1) := by show _ = _; rw [hzt, hu0, plR_ok HP1.out, hT1]
    have h164 : T1.length ≤ 64 := by rw [← hT1]; exact tabTo_len _ _ _
    have HM1 := Lib.hid (small64 h164)
    have HB1 : Hid (tbB T1 = true) := by show _ = true; rw [← hT1]; exact tab_valid HP1.out
    have HLD : Hid (ldR T1 z0 = 64) := by
      have hzp : 0 ≤ z0 ∧ z0 < 64 := by rw [hz0]; exact asc_pt ((plOk_iff _ _).1 HOK.out).1 (by omega)
      show _ = _
      rw [ldR_ok ((ownOk_iff _ _).2 ⟨HB1.out, hzp⟩), ← hT1, single_ld HP1.out]; rfl
    have HMV : Hid (mvR T1 T1 = []) := by show _ = _; rw [mvR_ok HB1.out HB1.out, mv_self]
    clear hcells hz0 hu0 hzt hT1 h164 t0
    go_wp2_with fail
    go_region_held3 (fun _ => True) (trivial) ((go_at_call 22; refine (pplace_as T1 (some ⟨b, off, none⟩) (some ⟨g, 0, none⟩) 1 1 _ _ (zs.take 1) (ws.take 1) w4.drew HI4.out HV4.out HZ1.out HW1.out (small64 (by omega)) (small64 (by omega)) HT1.out).mono ?_; rintro e w5 ⟨a5, d5, rfl, ho5, hb5⟩; have HO5 := Lib.hid ho5; have HB5 : Hid (Below w4.heap.size w4 w5) := ((Below.refl _ _).drew.trans hb5); clear ho5 hb5))
    all_goals
      have B5 : Hid (Below w.heap.size w w5) := B4.out.trans (HB5.out.mono B4.out.size)
      have hcell5 := (HB5.out.cell (p := ⟨b, off, none⟩) hb0).trans hcell
      clear hcell
      go_wp2_with fail
      refine (pload_as 64 _ _ d5 T1 z0 w5 HO5.out.tk rfl HM1.out HLD.out).mono ?_
      rintro e w6 ⟨rfl, hb6⟩
      have HO6 := Lib.hid (HO5.out.keepB hb6 (Nat.le_refl _))
      have B6 : Hid (Below w.heap.size w w6) := B5.out.trans (hb6.mono B5.out.size)
      clear hb6 hcell5
      go_wp2_with fail
      refine (pmoved_as [] _ _ _ _ d5 d5 T1 T1 w6 HO6.out.tk HO6.out.tk rfl rfl HM1.out HM1.out HMV.out).mono ?_
      rintro e w7 ⟨a7, d7, rfl, ho7, hb7⟩
      have B7 : Hid (Below w.heap.size w w7) := B6.out.trans (hb7.mono B6.out.size)
      clear ho7 hb7
      go_wp2
      go_ret
      exact ⟨rfl, B7.out⟩

end Go.Proofs.Ytidabcdaodlfeaa
