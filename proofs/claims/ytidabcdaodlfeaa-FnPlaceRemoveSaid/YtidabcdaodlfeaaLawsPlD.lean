/- The walks of the laws of placement: a node less, more weight. -/
import Derived.Test.YtidabcdaodlfeaaPlDraw4
import Derived.Test.YtidabcdaodlfeaaPlSame
import Derived.Test.YtidabcdaodlfeaaDrawL
import Derived.Test.YtidabcdaodlfeaaAppS
import Derived.Test.YtidabcdaodlfeaaPlR
import Derived.Test.YtidabcdaodlfeaaPlP
import Derived.Test.YtidabcdaodlfeaaLawsPlC
namespace Go.Proofs.Ytidabcdaodlfeaa
open Go.RowKit
set_option linter.unusedVariables false
attribute [local go_sem ↓] Go.wp_at_zero Go.wp_at_succ

theorem valsP (a b : List Int) : vals (a ++ b) = vals a ++ vals b := by simp [vals]
theorem eraseP (zs : List Int) (k : Nat) : zs.eraseIdx k = zs.take k ++ zs.drop (k + 1) := List.eraseIdx_eq_take_drop_succ _ _
theorem IntsAt.dropP {w : World} {b off : Nat} {zs : List Int} (hlt : b < w.heap.size) (hc : ∀ i, i < zs.length → w.cell? ⟨b, off + i, none⟩ = some (.int .i64 (gt zs i))) (k : Nat) : IntsAt w (some ⟨b, off + k, none⟩) (zs.drop k) := by
  refine .inr ⟨b, off + k, rfl, hlt, fun i hi => ?_⟩
  rw [List.length_drop] at hi
  rw [show off + k + i = off + (k + i) by omega, hc (k + i) (by omega)]
  congr 2
  rw [gt_get (by omega), gt_get (by rw [List.length_drop]; omega), List.getElem_drop]

set_option maxRecDepth 20000 in
set_option maxHeartbeats 2000000 in
theorem without_any (b off c k r : Nat) (zs : List Int) (w : World) (h : IntsAt w (some ⟨b, off, none⟩) zs) (hr : zs.length = r + 1) (hk : k ≤ r) (hc : r + 1 ≤ c) (hm : r ≤ 64) :
    Calls Try.prog 32 #[.slice (some ⟨b, off, none⟩) (r + 1) c, .int .i64 k] w fun e w' => ∃ g cap, e = .returned (.slice (some ⟨g, 0, none⟩) r cap) ∧ OwnI w' w.heap.size (some ⟨g, 0, none⟩) cap (zs.eraseIdx k) ∧ Below w.heap.size w w' := by
  obtain ⟨_, _, hab, hb0, hcells⟩ := h.cellP (by omega)
  injection hab with hab
  injection hab with hab1 hab2
  subst hab1 hab2
  have HT : Hid (IntsAt w (some ⟨b, off, none⟩) (zs.take k)) := h.takeP k (by omega)
  have HD : Hid (IntsAt w (some ⟨b, off + (k + 1), none⟩) (zs.drop (k + 1))) := IntsAt.dropP hb0 hcells (k + 1)
  have HTL : Hid ((zs.take k).length = k) := by show _ = _; rw [List.length_take]; omega
  have HDL : Hid ((zs.drop (k + 1)).length = r - k) := by show _ = _; rw [List.length_drop]; omega
  have HE : Hid (∀ o : Obj, Below w.heap.size w (w.alloc o)) := fun o => (Below.refl _ _).alloc (Nat.le_refl _) _
  have HE2 : Hid (∀ o : Obj, Below w.heap.size w (w.drew.alloc o)) := fun o => (Below.refl _ _).drew.alloc (Nat.le_refl _) _
  have HER : Hid (zs.eraseIdx k = zs.take k ++ zs.drop (k + 1)) := eraseP zs k
  have HEL : Hid ((zs.eraseIdx k).length = r) := by show _ = _; rw [eraseP, List.length_append, HTL.out, HDL.out]; omega
  have i0 : (0 : Int) ≤ (k : Int) := by omega
  have i1 : (k : Int) ≤ (c : Int) := by omega
  have i2 : (0 : Int) ≤ (k : Int) + 1 := by omega
  have i3 : (k : Int) + 1 ≤ (r : Int) + 1 := by omega
  have i4 : (r : Int) + 1 ≤ (c : Int) := by omega
  have e2 : r + 1 - (k + 1) = r - k := by omega
  have r0 : IntKind.i64.wrap ((k : Int) + 1) = ((k + 1 : Nat) : Int) := by rw [IntKind.wrap_i64]; omega
  have r1 : ((k + 1 : Nat) : Int) ≤ (r : Int) + 1 := by omega
  have r5 : (0 : Int) ≤ ((k + 1 : Nat) : Int) := by omega
  clear h hcells hr
  by_cases hck : c = k + 1
  · obtain rfl : k = r := by omega
    subst hck
    have hemp : zs.drop (k + 1) = [] := List.eq_nil_of_length_eq_zero (by rw [HDL.out]; omega)
    have HD0 : Hid (∀ w' : World, IntsAt w' (some ⟨b, off, none⟩) (zs.drop (k + 1))) := fun w' => .inl hemp
    have HDL0 : Hid ((zs.drop (k + 1)).length = 0) := by show _ = _; rw [hemp]; rfl
    have r6 : (k : Int) ≤ (k : Int) + 1 := by omega
    have r7 : ((k + 1 : Nat) : Int) ≤ (k : Int) + 1 := by omega
    clear hemp
    go_enter Try.func32, Try.ntmps32
    go_wp2_with fail
    go_region_law ((first | (refine step_appS (o := ⟨some 9, _, _, _, _, _⟩) _ (by rfl) (.tmp 5) (.tmp 8) (by rfl) w.heap.size w.heap.size 0 0 [] (by rfl) (own_empty (heap_alloc_new _ _) (Nat.le_refl _)) (some ⟨b, off, none⟩) k _ (zs.take k) (by rfl) HTL.out (by first | exact HT.out.keepB (HE.out _) (Nat.le_refl _) | exact HT.out.keepB (HE2.out _) (Nat.le_refl _)) k (by omega) (by omega) (by simp) ?_; intro g1 cap1 w1 hown1 hg1 hat1; have HB1 : Hid (Below w.heap.size w w1) := (by first | exact (HE.out _).grown hg1 (by simp) (fun q hq => by injection hq with hq; omega) | exact (HE2.out _).grown hg1 (by simp) (fun q hq => by injection hq with hq; omega))) | (refine step_appS (o := ⟨some 14, _, _, _, _, _⟩) _ (by rfl) (.tmp 9) (.tmp 13) (by rfl) w.heap.size g1 k cap1 ([] ++ vals (zs.take k)) (by rfl) hown1 (some ⟨b, off, none⟩) 0 0 (zs.drop (k + 1)) (by rfl) HDL0.out (HD0.out _) k (by omega) (by omega) HB1.out.size ?_; intro g2 cap2 w2 hown2 hg2 hat2; have HO2 := Lib.hid hown2; have HB2 : Hid (Below w.heap.size w w2) := (HB1.out.grown hg2 HB1.out.size (fun q hq => by injection hq with hq; have := OwnI.lt (zs := zs.take k) (by unfold OwnI; rw [HTL.out]; exact hown1); omega)); clear hown2 hg2 hat2)))
    all_goals
      go_wp2
      go_ret
      refine ⟨g2, cap2, rfl, ?_, HB2.out⟩
      unfold OwnI
      rw [HEL.out, HER.out, valsP]
      exact HO2.out
  · go_enter Try.func32, Try.ntmps32
    go_wp2_with fail
    go_region_law ((first | (refine step_appS (o := ⟨some 9, _, _, _, _, _⟩) _ (by rfl) (.tmp 5) (.tmp 8) (by rfl) w.heap.size w.heap.size 0 0 [] (by rfl) (own_empty (heap_alloc_new _ _) (Nat.le_refl _)) (some ⟨b, off, none⟩) k _ (zs.take k) (by rfl) HTL.out (by first | exact HT.out.keepB (HE.out _) (Nat.le_refl _) | exact HT.out.keepB (HE2.out _) (Nat.le_refl _)) k (by omega) (by omega) (by simp) ?_; intro g1 cap1 w1 hown1 hg1 hat1; have HB1 : Hid (Below w.heap.size w w1) := (by first | exact (HE.out _).grown hg1 (by simp) (fun q hq => by injection hq with hq; omega) | exact (HE2.out _).grown hg1 (by simp) (fun q hq => by injection hq with hq; omega))) | (refine step_appS (o := ⟨some 14, _, _, _, _, _⟩) _ (by rfl) (.tmp 9) (.tmp 13) (by rfl) w.heap.size g1 k cap1 ([] ++ vals (zs.take k)) (by rfl) hown1 (some ⟨b, off + (k + 1), none⟩) (r - k) _ (zs.drop (k + 1)) (by rfl) HDL.out (HD.out.keepB HB1.out (Nat.le_refl _)) r (by omega) (by omega) HB1.out.size ?_; intro g2 cap2 w2 hown2 hg2 hat2; have HO2 := Lib.hid hown2; have HB2 : Hid (Below w.heap.size w w2) := (HB1.out.grown hg2 HB1.out.size (fun q hq => by injection hq with hq; have := OwnI.lt (zs := zs.take k) (by unfold OwnI; rw [HTL.out]; exact hown1); omega)); clear hown2 hg2 hat2)))
    all_goals
      go_wp2
      go_ret
      refine ⟨g2, cap2, rfl, ?_, HB2.out⟩
      unfold OwnI
      rw [HEL.out, HER.out, valsP]
      exact HO2.out

theorem without_at (b off c k r : Nat) (zs : List Int) (w : World) (h : IntsAt w (some ⟨b, off, none⟩) zs) (hr : zs.length = r + 1) (hk : k ≤ r) (hc : r + 1 ≤ c) (hm : r ≤ 64) :
    Calls Try.prog 32 #[.slice (some ⟨b, off, none⟩) zs.length c, .int .i64 k] w fun e w' => ∃ g cap, e = .returned (.slice (some ⟨g, 0, none⟩) r cap) ∧ OwnI w' w.heap.size (some ⟨g, 0, none⟩) cap (zs.eraseIdx k) ∧ Below w.heap.size w w' := by
  rw [hr]; exact without_any b off c k r zs w h hr hk hc hm

set_option maxRecDepth 20000 in
set_option maxHeartbeats 1500000 in
theorem placeRemove (s : Option Addr) (len cap : Nat) (z : List Int) (s2 : Option Addr) (len2 cap2 : Nat) (z2 : List Int) (w : World) (h : RowIn .u8 w s len cap z) (h2 : RowIn .u8 w s2 len2 cap2 z2) :
    Calls Try.prog 7 #[.slice s len cap, .slice s2 len2 cap2] w fun e w' => e = .returned (.bool true) ∧ Below w.heap.size w w' := by
  have hb := bytes_of_row h
  have hb2 := bytes_of_row h2
  have hm : len ≤ maxLen := Nat.le_trans hb.1 hb.2.1
  have hm2 : len2 ≤ maxLen := Nat.le_trans hb2.1 hb2.2.1
  unfold maxLen at hm hm2
  clear h h2 hb2
  by_cases hllen : 1048576 < len
  · go_enter Try.func7, Try.ntmps7
    go_wp2
    go_ret
    exact ⟨rfl, Below.refl _ _⟩
  have hBlen : decide ((1048576 : Int) < (len : Int)) = false := by simp; omega
  by_cases hllen2 : 1048576 < len2
  · go_enter Try.func7, Try.ntmps7
    go_wp2
    go_ret
    exact ⟨rfl, Below.refl _ _⟩
  have hBlen2 : decide ((1048576 : Int) < (len2 : Int)) = false := by simp; omega
  have HY := Lib.hid hb
  clear hb
  go_enter Try.func7, Try.ntmps7
  go_wp2_with fail
  refine (drawPlaceTable s len cap w HY.out).mono ?_
  rintro e w1 ⟨a, c, zs, g, cw, ws, rfl, h20, h21, hcc, hi, ho, hb1⟩
  have B1 : Hid (Below w.heap.size w w1) := hb1
  have I1 := Lib.hid hi.ints
  have V1 := Lib.hid ho
  clear hb1 hi ho
  have HMZ := Lib.hid (small64 (show zs.length ≤ 64 by omega))
  have HMW := Lib.hid (small64 (show ws.length ≤ 64 by omega))
  have HCC := Lib.hid hcc
  obtain ⟨T, hT⟩ : ∃ T, plR zs ws = T := ⟨_, rfl⟩
  have HT := Lib.hid hT
  have ht64 : T.length ≤ 64 := by rw [← hT]; exact plR_len zs ws
  have HTL := Lib.hid (mil64 ht64)
  have HTM := Lib.hid (small64 ht64)
  clear hcc
  cases hok : plOk zs ws
  · obtain rfl : T = [] := by rw [← hT, plR_bad hok]
    clear hT hok
    go_wp2_with fail
    refine (pplace_as [] _ _ _ _ c cw zs ws w1 I1.out V1.out.ints rfl rfl HMZ.out HMW.out HT.out).mono ?_
    rintro e w2 ⟨a2, d2, rfl, ho, hb2⟩
    have B2 : Hid (Below w.heap.size w w2) := B1.out.trans (hb2.mono B1.out.size)
    have I2 := Lib.hid (I1.out.keepB hb2 (Nat.le_refl _))
    have V2 := Lib.hid (V1.out.keepB hb2 (Nat.le_refl _))
    have O2 := Lib.hid ho
    clear hb2 ho
    go_wp2_with fail
    refine (splace_as [] _ _ _ _ c cw zs ws w2 I2.out V2.out.ints rfl rfl HMZ.out HMW.out HT.out).mono ?_
    rintro e w3 ⟨a3, d3, rfl, ho, hb3⟩
    have B3 : Hid (Below w.heap.size w w3) := B2.out.trans (hb3.mono B2.out.size)
    have I3 := Lib.hid (I2.out.keepB hb3 (Nat.le_refl _))
    have V3 := Lib.hid (V2.out.keepB hb3 (Nat.le_refl _))
    have O3 := Lib.hid (O2.out.keepB hb3 (Nat.le_refl _))
    have S3 := Lib.hid ho
    clear hb3 ho
    go_wp2_with fail
    refine (sameTk_same a2 a3 _ d2 d3 [] w3 O3.out.tk S3.out.tk rfl HTL.out).mono ?_
    rintro e w4 ⟨rfl, hs4⟩
    have hb4 := hs4.below w3.heap.size
    have B4 : Hid (Below w.heap.size w w4) := B3.out.trans (hb4.mono B3.out.size)
    have I4 := Lib.hid (I3.out.keepB hb4 (Nat.le_refl _))
    have V4 := Lib.hid (V3.out.keepB hb4 (Nat.le_refl _))
    have O4 := Lib.hid (O3.out.keepB hb4 (Nat.le_refl _))
    have S4 := Lib.hid (S3.out.keepB hb4 (Nat.le_refl _))
    clear hs4 hb4
    go_wp2_with fail
    refine (sameTk_same a2 a3 _ d2 d3 [] w4 O4.out.tk S4.out.tk rfl HTL.out).mono ?_
    rintro e w5 ⟨rfl, hs5⟩
    have hb5 := hs5.below w4.heap.size
    have B5 : Hid (Below w.heap.size w w5) := B4.out.trans (hb5.mono B4.out.size)
    have I5 := Lib.hid (I4.out.keepB hb5 (Nat.le_refl _))
    have V5 := Lib.hid (V4.out.keepB hb5 (Nat.le_refl _))
    have O5 := Lib.hid (O4.out.keepB hb5 (Nat.le_refl _))
    clear hs5 hb5
    go_wp2
    go_ret
    exact ⟨rfl, B5.out⟩
  · have HOK := Lib.hid hok
    have hTT : T = tabTo zs ws 64 := by rw [← hT, plR_ok hok]
    have HTT := Lib.hid hTT
    have HTB : Hid (tbB T = true) := by show _ = true; rw [hTT]; exact tab_valid hok
    have htl := tb_len HTB.out
    have HTP := Lib.hid htl
    have t0 : ((T.length : Int) == 0) = false := by rw [beq_eq_false_iff_ne]; omega
    have hzl := vld_len ((plOk_iff _ _).1 hok).1
    have HWL := Lib.hid ((plOk_iff _ _).1 hok).2.1
    have hwl1 : zs.length ≤ ws.length := Nat.le_of_eq HWL.out.symm
    have hwl2 : ws.length ≤ 10 := by rw [HWL.out]; exact hzl.2
    clear hT hok hTT
    by_cases hz2 : zs.length < 2
    · have hz3 : (zs.length : Int) < 2 := by omega
      go_wp2_with fail
      refine (pplace_as T _ _ _ _ c cw zs ws w1 I1.out V1.out.ints rfl rfl HMZ.out HMW.out HT.out).mono ?_
      rintro e w2 ⟨a2, d2, rfl, ho, hb2⟩
      have B2 : Hid (Below w.heap.size w w2) := B1.out.trans (hb2.mono B1.out.size)
      have I2 := Lib.hid (I1.out.keepB hb2 (Nat.le_refl _))
      have V2 := Lib.hid (V1.out.keepB hb2 (Nat.le_refl _))
      have O2 := Lib.hid ho
      clear hb2 ho
      go_wp2_with fail
      refine (splace_as T _ _ _ _ c cw zs ws w2 I2.out V2.out.ints rfl rfl HMZ.out HMW.out HT.out).mono ?_
      rintro e w3 ⟨a3, d3, rfl, ho, hb3⟩
      have B3 : Hid (Below w.heap.size w w3) := B2.out.trans (hb3.mono B2.out.size)
      have I3 := Lib.hid (I2.out.keepB hb3 (Nat.le_refl _))
      have V3 := Lib.hid (V2.out.keepB hb3 (Nat.le_refl _))
      have O3 := Lib.hid (O2.out.keepB hb3 (Nat.le_refl _))
      have S3 := Lib.hid ho
      clear hb3 ho
      go_wp2_with fail
      refine (sameTk_same a2 a3 _ d2 d3 T w3 O3.out.tk S3.out.tk rfl HTL.out).mono ?_
      rintro e w4 ⟨rfl, hs4⟩
      have hb4 := hs4.below w3.heap.size
      have B4 : Hid (Below w.heap.size w w4) := B3.out.trans (hb4.mono B3.out.size)
      have I4 := Lib.hid (I3.out.keepB hb4 (Nat.le_refl _))
      have V4 := Lib.hid (V3.out.keepB hb4 (Nat.le_refl _))
      have O4 := Lib.hid (O3.out.keepB hb4 (Nat.le_refl _))
      have S4 := Lib.hid (S3.out.keepB hb4 (Nat.le_refl _))
      clear hs4 hb4
      go_wp2_with fail
      refine (sameTk_same a2 a3 _ d2 d3 T w4 O4.out.tk S4.out.tk rfl HTL.out).mono ?_
      rintro e w5 ⟨rfl, hs5⟩
      have hb5 := hs5.below w4.heap.size
      have B5 : Hid (Below w.heap.size w w5) := B4.out.trans (hb5.mono B4.out.size)
      have I5 := Lib.hid (I4.out.keepB hb5 (Nat.le_refl _))
      have V5 := Lib.hid (V4.out.keepB hb5 (Nat.le_refl _))
      have O5 := Lib.hid (O4.out.keepB hb5 (Nat.le_refl _))
      clear hs5 hb5
      go_wp2
      go_ret
      exact ⟨rfl, B5.out⟩
    have hz3 : ¬ (zs.length : Int) < 2 := by omega
    go_wp2_with fail
    refine (pplace_as T _ _ _ _ c cw zs ws w1 I1.out V1.out.ints rfl rfl HMZ.out HMW.out HT.out).mono ?_
    rintro e w2 ⟨a2, d2, rfl, ho, hb2⟩
    have B2 : Hid (Below w.heap.size w w2) := B1.out.trans (hb2.mono B1.out.size)
    have I2 := Lib.hid (I1.out.keepB hb2 (Nat.le_refl _))
    have V2 := Lib.hid (V1.out.keepB hb2 (Nat.le_refl _))
    have O2 := Lib.hid ho
    clear hb2 ho
    go_wp2_with fail
    refine (splace_as T _ _ _ _ c cw zs ws w2 I2.out V2.out.ints rfl rfl HMZ.out HMW.out HT.out).mono ?_
    rintro e w3 ⟨a3, d3, rfl, ho, hb3⟩
    have B3 : Hid (Below w.heap.size w w3) := B2.out.trans (hb3.mono B2.out.size)
    have I3 := Lib.hid (I2.out.keepB hb3 (Nat.le_refl _))
    have V3 := Lib.hid (V2.out.keepB hb3 (Nat.le_refl _))
    have O3 := Lib.hid (O2.out.keepB hb3 (Nat.le_refl _))
    have S3 := Lib.hid ho
    clear hb3 ho
    go_wp2_with fail
    refine (sameTk_same a2 a3 _ d2 d3 T w3 O3.out.tk S3.out.tk rfl HTL.out).mono ?_
    rintro e w4 ⟨rfl, hs4⟩
    have hb4 := hs4.below w3.heap.size
    have B4 : Hid (Below w.heap.size w w4) := B3.out.trans (hb4.mono B3.out.size)
    have I4 := Lib.hid (I3.out.keepB hb4 (Nat.le_refl _))
    have V4 := Lib.hid (V3.out.keepB hb4 (Nat.le_refl _))
    have O4 := Lib.hid (O3.out.keepB hb4 (Nat.le_refl _))
    have S4 := Lib.hid (S3.out.keepB hb4 (Nat.le_refl _))
    clear hs4 hb4
    obtain ⟨b, off, hab, _, _⟩ := I4.out.cellP (by omega)
    subst hab
    obtain ⟨g2, ha2, ho2⟩ := O4.out.some HTP.out
    subst ha2
    have K4 := Lib.hid ho2
    clear ho2
    obtain ⟨j, hj, hjm⟩ := remP len2 zs.length (by omega)
    have hjt : (len2 : Int).tmod (zs.length : Int) = (j : Int) := by rw [Int.tmod_eq_emod_of_nonneg (by omega)]; exact hj
    have m0 : ((zs.length : Int) == 0) = false := by rw [beq_eq_false_iff_ne]; omega
    have m0' : ¬ (zs.length : Int) = 0 := by omega
    have m0'' : ¬ zs.length = 0 := by omega
    have HJM := Lib.hid hjm
    obtain ⟨z0, hz0⟩ : ∃ z0, z0 = gt zs j := ⟨_, rfl⟩
    have HZ0 := Lib.hid hz0
    have hzp : 0 ≤ z0 ∧ z0 < 64 := by rw [hz0]; exact asc_pt ((plOk_iff _ _).1 HOK.out).1 hjm
    have HZP := Lib.hid hzp
    have j0 : (0 : Int) ≤ (j : Int) := by omega
    have j1 : (j : Int) < (zs.length : Int) := by omega
    have j2 : (j : Int) < (ws.length : Int) := by omega
    clear hz0 hzp
    obtain ⟨r, hr⟩ : ∃ r, zs.length = r + 1 := ⟨zs.length - 1, by omega⟩
    have HRZ := Lib.hid hr
    have HRW : Hid (ws.length = r + 1) := by show _ = _; rw [HWL.out, hr]
    have HOK2 := Lib.hid (erase_ok HOK.out hjm (by omega))
    have HPR := Lib.hid (erase_moved HOK.out hjm (by omega))
    obtain ⟨X, hX⟩ : ∃ X, tabTo (zs.eraseIdx j) (ws.eraseIdx j) 64 = X := ⟨_, rfl⟩
    have HPX : Hid (plR (zs.eraseIdx j) (ws.eraseIdx j) = X) := by show _ = _; rw [plR_ok HOK2.out, hX]
    have HXB : Hid (tbB X = true) := by show _ = true; rw [← hX]; exact tab_valid HOK2.out
    have hx64 : X.length ≤ 64 := by rw [← hX]; exact tabTo_len _ _ _
    have HXM := Lib.hid (small64 hx64)
    have HXP := Lib.hid (tb_len HXB.out)
    rw [hX, ← HTT.out, ← HZ0.out] at HPR
    obtain ⟨Z, hZ⟩ : ∃ Z, mvTo T X 64 = Z := ⟨_, rfl⟩
    have HZR : Hid (mvR T X = Z) := by show _ = _; rw [mvR_ok HTB.out HXB.out, hZ]
    have hz64 : Z.length ≤ 64 := by rw [← hZ]; exact mvTo_len _ _ _
    have HMV : Hid (∀ k, k < Z.length → ownR T (gt Z k) = z0) := fun k hk => by
      have hm : gt Z k ∈ mvTo T X 64 := by rw [hZ, gt_get hk]; exact List.getElem_mem _
      obtain ⟨q, hq, he, hne⟩ := (mem_mv T X 64 _).1 hm
      rw [ownR_ok ((ownOk_iff _ _).2 ⟨HTB.out, by omega, by omega⟩), he]
      exact (HPR.out q).1 hne
    have HLD : Hid (ldR T z0 = (Z.length : Int)) := by
      show _ = _
      rw [ldR_ok ((ownOk_iff _ _).2 ⟨HTB.out, HZP.out⟩), ← hZ, mv_count T X z0 64 (fun q _ => HPR.out q)]
    have HEZ : Hid ((zs.eraseIdx j).length = r) := by show _ = _; rw [List.length_eraseIdx, if_pos hjm]; omega
    have HEW : Hid ((ws.eraseIdx j).length = r) := by show _ = _; rw [List.length_eraseIdx, if_pos (by rw [HWL.out]; exact hjm)]; rw [HRW.out]; omega
    have hr10 : r ≤ 10 := by omega
    have hjr : j ≤ r := by omega
    have hrc : r + 1 ≤ c := by have := HCC.out; omega
    have hrw : r + 1 ≤ cw := by have := V4.out.capP; rw [HRW.out] at this; exact this
    have HRM := Lib.hid (small64 (show r ≤ 64 by omega))
    clear hX hx64 hZ hr
    go_wp2_with fail
    refine (without_at b off c j r zs w4 I4.out HRZ.out hjr hrc (by omega)).mono ?_
    rintro e w5 ⟨ga, ca, rfl, ho, hb5⟩
    have B5 : Hid (Below w.heap.size w w5) := B4.out.trans (hb5.mono B4.out.size)
    have I5 := Lib.hid (I4.out.keepB hb5 (Nat.le_refl _))
    have V5 := Lib.hid (V4.out.keepB hb5 (Nat.le_refl _))
    have O5 := Lib.hid (O4.out.keepB hb5 (Nat.le_refl _))
    have K5 := Lib.hid (K4.out.keepB hb5 (Nat.le_refl _))
    have M5 := Lib.hid ho
    clear hb5 ho
    clear hj hjt m0 m0' m0''
    go_wp2_with fail
    refine (without_at g 0 cw j r ws w5 V5.out.ints HRW.out hjr hrw (by omega)).mono ?_
    rintro e w6 ⟨gb, cb, rfl, ho, hb6⟩
    have B6 : Hid (Below w.heap.size w w6) := B5.out.trans (hb6.mono B5.out.size)
    have I6 := Lib.hid (I5.out.keepB hb6 (Nat.le_refl _))
    have V6 := Lib.hid (V5.out.keepB hb6 (Nat.le_refl _))
    have O6 := Lib.hid (O5.out.keepB hb6 (Nat.le_refl _))
    have K6 := Lib.hid (K5.out.keepB hb6 (Nat.le_refl _))
    have M6 := Lib.hid (M5.out.keepB hb6 (Nat.le_refl _))
    have N6 := Lib.hid ho
    clear hb6 ho
    go_wp2_with fail
    refine (pplace_as X _ _ r r ca cb (zs.eraseIdx j) (ws.eraseIdx j) w6 M6.out.ints N6.out.ints HEZ.out HEW.out HRM.out HRM.out HPX.out).mono ?_
    rintro e w7 ⟨a7, d7, rfl, ho, hb7⟩
    have B7 : Hid (Below w.heap.size w w7) := B6.out.trans (hb7.mono B6.out.size)
    have I7 := Lib.hid (I6.out.keepB hb7 (Nat.le_refl _))
    have V7 := Lib.hid (V6.out.keepB hb7 (Nat.le_refl _))
    have O7 := Lib.hid (O6.out.keepB hb7 (Nat.le_refl _))
    have K7 := Lib.hid (K6.out.keepB hb7 (Nat.le_refl _))
    have M7 := Lib.hid (M6.out.keepB hb7 (Nat.le_refl _))
    have N7 := Lib.hid (N6.out.keepB hb7 (Nat.le_refl _))
    have X7 := Lib.hid ho
    clear hb7 ho
    go_wp2_with fail
    refine (pmoved_as Z _ _ _ _ d2 d7 T X w7 K7.out.tk X7.out.tk rfl rfl HTM.out HXM.out HZR.out).mono ?_
    rintro e w8 ⟨a8, d8, rfl, ho, hb8⟩
    have B8 : Hid (Below w.heap.size w w8) := B7.out.trans (hb8.mono B7.out.size)
    have I8 := Lib.hid (I7.out.keepB hb8 (Nat.le_refl _))
    have V8 := Lib.hid (V7.out.keepB hb8 (Nat.le_refl _))
    have O8 := Lib.hid (O7.out.keepB hb8 (Nat.le_refl _))
    have K8 := Lib.hid (K7.out.keepB hb8 (Nat.le_refl _))
    have M8 := Lib.hid (M7.out.keepB hb8 (Nat.le_refl _))
    have N8 := Lib.hid (N7.out.keepB hb8 (Nat.le_refl _))
    have X8 := Lib.hid (X7.out.keepB hb8 (Nat.le_refl _))
    have Z8 := Lib.hid ho
    clear hb8 ho
    clear t0 hz3
    go_wp2
    go_loopw [12] (fun i wr => ∃ k : Nat, k ≤ Z.length ∧ i = .int .i64 k ∧ Below w8.heap.size w8 wr) (fun i _ => Z.length - (intOf i).toNat)
    case atStart => exact ⟨0, by omega, rfl, Below.refl _ _⟩
    case round =>
      obtain ⟨k, hk, rfl, hbel⟩ := hrel
      obtain ⟨w9, rfl⟩ : ∃ x, x = wr := ⟨_, rfl⟩
      have HB9 : Hid (Below w.heap.size w w9) := B8.out.trans (hbel.mono B8.out.size)
      have HX9 := Lib.hid (K8.out.keepB hbel (Nat.le_refl _))
      have HZ9 := Lib.hid (Z8.out.keepB hbel (Nat.le_refl _))
      have HI9 := Lib.hid (I8.out.keepB hbel (Nat.le_refl _))
      by_cases hlt : k < Z.length
      · obtain ⟨gz, haz, _, _, hoz⟩ := HZ9.out.some (by omega)
        subst haz
        obtain ⟨_, hag, _, hgz, hcz, _⟩ := hoz.at_ (by omega)
        injection hag with hag
        injection hag with hag
        subst hag
        have hc0 := hcz k hlt
        obtain ⟨_, _, hab, hb9, hcn⟩ := HI9.out.cellP (by omega)
        injection hab with hab
        injection hab with hab1 hab2
        subst hab1 hab2
        have hc1 := hcn j HJM.out
        rw [← HZ0.out] at hc1
        have hmv := HMV.out k hlt
        obtain ⟨x, hx⟩ : ∃ x, x = gt Z k := ⟨_, rfl⟩
        rw [← hx] at hc0 hmv
        have HMX := Lib.hid hmv
        have X0 := fun y : Cls (Below w9.heap.size w9) => (y.ok.cell (p := ⟨gz, k, none⟩) hgz).trans hc0
        have X1 := fun y : Cls (Below w9.heap.size w9) => (y.ok.cell (p := ⟨b, off + j, none⟩) hb9).trans hc1
        have k0 : (0 : Int) ≤ (k : Int) := by omega
        have k1 : (k : Int) < (Z.length : Int) := by omega
        have q1 : (z0 != z0) = false := by simp
        clear hmv hx hc0 hc1 hcz hcn hoz
        go_wp2_with fail
        refine wp_region_cls (Below w9.heap.size w9) (by kernel_rfl) (by kernel_rfl) below_drawn ?_
        repeat (go_big_quiet_step ((go_at_call 27; rename_i y; exact cls_below (pown_as z0 (some ⟨g2, 0, none⟩) _ d2 T x _ (HX9.out.keepB y.ok (Nat.le_refl _)).tk rfl HTM.out HMX.out) y.ok (Nat.le_refl _))))
        refine wpQuiet_nil ?_
        intro w10 hw'
        have hb10 := cls_out hw'
        clear hw' X0 X1 q1
        go_wp2
        go_roundw
        case rel => exact ⟨k + 1, by omega, by go_num, hbel.trans (hb10.mono hbel.size)⟩
        case measure => simp [intOf]; omega
      · obtain rfl : k = Z.length := by omega
        obtain ⟨_, _, hab, hb9, hcn⟩ := HI9.out.cellP (by omega)
        injection hab with hab
        injection hab with hab1 hab2
        subst hab1 hab2
        have hc1 := hcn j HJM.out
        rw [← HZ0.out] at hc1
        have hx0 : (0 : Int) < (X.length : Int) := by have := HXP.out; omega
        have qz : ((Z.length : Int) == (Z.length : Int)) = true := by simp
        clear hcn
        go_wp2_with fail
        refine (pload_as (Z.length : Int) (some ⟨g2, 0, none⟩) _ d2 T z0 w9 HX9.out.tk rfl HTM.out HLD.out).mono ?_
        rintro e w10 ⟨rfl, hb10⟩
        clear hc1
        go_wp2
        go_ret
        exact ⟨rfl, HB9.out.trans (hb10.mono HB9.out.size)⟩

set_option maxRecDepth 20000 in
set_option maxHeartbeats 1500000 in
theorem placeWeight (s : Option Addr) (len cap : Nat) (z : List Int) (s2 : Option Addr) (len2 cap2 : Nat) (z2 : List Int) (w : World) (h : RowIn .u8 w s len cap z) (h2 : RowIn .u8 w s2 len2 cap2 z2) :
    Calls Try.prog 8 #[.slice s len cap, .slice s2 len2 cap2] w fun e w' => e = .returned (.bool true) ∧ Below w.heap.size w w' := by
  have hb := bytes_of_row h
  have hb2 := bytes_of_row h2
  have hm : len ≤ maxLen := Nat.le_trans hb.1 hb.2.1
  have hm2 : len2 ≤ maxLen := Nat.le_trans hb2.1 hb2.2.1
  unfold maxLen at hm hm2
  clear h h2 hb2
  by_cases hllen : 1048576 < len
  · go_enter Try.func8, Try.ntmps8
    go_wp2
    go_ret
    exact ⟨rfl, Below.refl _ _⟩
  have hBlen : decide ((1048576 : Int) < (len : Int)) = false := by simp; omega
  by_cases hllen2 : 1048576 < len2
  · go_enter Try.func8, Try.ntmps8
    go_wp2
    go_ret
    exact ⟨rfl, Below.refl _ _⟩
  have hBlen2 : decide ((1048576 : Int) < (len2 : Int)) = false := by simp; omega
  have HY := Lib.hid hb
  clear hb
  go_enter Try.func8, Try.ntmps8
  go_wp2_with fail
  refine (drawPlaceTable s len cap w HY.out).mono ?_
  rintro e w1 ⟨a, c, zs, g, cw, ws, rfl, h20, h21, hcc, hi, ho, hb1⟩
  have B1 : Hid (Below w.heap.size w w1) := hb1
  have I1 := Lib.hid hi.ints
  have V1 := Lib.hid ho
  clear hb1 hi ho
  have HMZ := Lib.hid (small64 (show zs.length ≤ 64 by omega))
  have HMW := Lib.hid (small64 (show ws.length ≤ 64 by omega))
  have HCC := Lib.hid hcc
  obtain ⟨T, hT⟩ : ∃ T, plR zs ws = T := ⟨_, rfl⟩
  have HT := Lib.hid hT
  have ht64 : T.length ≤ 64 := by rw [← hT]; exact plR_len zs ws
  have HTL := Lib.hid (mil64 ht64)
  have HTM := Lib.hid (small64 ht64)
  clear hcc
  cases hok : plOk zs ws
  · obtain rfl : T = [] := by rw [← hT, plR_bad hok]
    clear hT hok
    go_wp2_with fail
    refine (pplace_as [] _ _ _ _ c cw zs ws w1 I1.out V1.out.ints rfl rfl HMZ.out HMW.out HT.out).mono ?_
    rintro e w2 ⟨a2, d2, rfl, ho, hb2⟩
    have B2 : Hid (Below w.heap.size w w2) := B1.out.trans (hb2.mono B1.out.size)
    have I2 := Lib.hid (I1.out.keepB hb2 (Nat.le_refl _))
    have V2 := Lib.hid (V1.out.keepB hb2 (Nat.le_refl _))
    have O2 := Lib.hid ho
    clear hb2 ho
    go_wp2_with fail
    refine (splace_as [] _ _ _ _ c cw zs ws w2 I2.out V2.out.ints rfl rfl HMZ.out HMW.out HT.out).mono ?_
    rintro e w3 ⟨a3, d3, rfl, ho, hb3⟩
    have B3 : Hid (Below w.heap.size w w3) := B2.out.trans (hb3.mono B2.out.size)
    have I3 := Lib.hid (I2.out.keepB hb3 (Nat.le_refl _))
    have V3 := Lib.hid (V2.out.keepB hb3 (Nat.le_refl _))
    have O3 := Lib.hid (O2.out.keepB hb3 (Nat.le_refl _))
    have S3 := Lib.hid ho
    clear hb3 ho
    go_wp2_with fail
    refine (sameTk_same a2 a3 _ d2 d3 [] w3 O3.out.tk S3.out.tk rfl HTL.out).mono ?_
    rintro e w4 ⟨rfl, hs4⟩
    have hb4 := hs4.below w3.heap.size
    have B4 : Hid (Below w.heap.size w w4) := B3.out.trans (hb4.mono B3.out.size)
    have I4 := Lib.hid (I3.out.keepB hb4 (Nat.le_refl _))
    have V4 := Lib.hid (V3.out.keepB hb4 (Nat.le_refl _))
    have O4 := Lib.hid (O3.out.keepB hb4 (Nat.le_refl _))
    have S4 := Lib.hid (S3.out.keepB hb4 (Nat.le_refl _))
    clear hs4 hb4
    go_wp2_with fail
    refine (sameTk_same a2 a3 _ d2 d3 [] w4 O4.out.tk S4.out.tk rfl HTL.out).mono ?_
    rintro e w5 ⟨rfl, hs5⟩
    have hb5 := hs5.below w4.heap.size
    have B5 : Hid (Below w.heap.size w w5) := B4.out.trans (hb5.mono B4.out.size)
    have I5 := Lib.hid (I4.out.keepB hb5 (Nat.le_refl _))
    have V5 := Lib.hid (V4.out.keepB hb5 (Nat.le_refl _))
    have O5 := Lib.hid (O4.out.keepB hb5 (Nat.le_refl _))
    clear hs5 hb5
    go_wp2
    go_ret
    exact ⟨rfl, B5.out⟩
  · have HOK := Lib.hid hok
    have hTT : T = tabTo zs ws 64 := by rw [← hT, plR_ok hok]
    have HTT := Lib.hid hTT
    have HTB : Hid (tbB T = true) := by show _ = true; rw [hTT]; exact tab_valid hok
    have htl := tb_len HTB.out
    have HTP := Lib.hid htl
    have t0 : ((T.length : Int) == 0) = false := by rw [beq_eq_false_iff_ne]; omega
    have hzl := vld_len ((plOk_iff _ _).1 hok).1
    have HWL := Lib.hid ((plOk_iff _ _).1 hok).2.1
    have hwl1 : zs.length ≤ ws.length := Nat.le_of_eq HWL.out.symm
    have hwl2 : ws.length ≤ 10 := by rw [HWL.out]; exact hzl.2
    clear hT hok hTT
    go_wp2_with fail
    refine (pplace_as T _ _ _ _ c cw zs ws w1 I1.out V1.out.ints rfl rfl HMZ.out HMW.out HT.out).mono ?_
    rintro e w2 ⟨a2, d2, rfl, ho, hb2⟩
    have B2 : Hid (Below w.heap.size w w2) := B1.out.trans (hb2.mono B1.out.size)
    have I2 := Lib.hid (I1.out.keepB hb2 (Nat.le_refl _))
    have V2 := Lib.hid (V1.out.keepB hb2 (Nat.le_refl _))
    have O2 := Lib.hid ho
    clear hb2 ho
    go_wp2_with fail
    refine (splace_as T _ _ _ _ c cw zs ws w2 I2.out V2.out.ints rfl rfl HMZ.out HMW.out HT.out).mono ?_
    rintro e w3 ⟨a3, d3, rfl, ho, hb3⟩
    have B3 : Hid (Below w.heap.size w w3) := B2.out.trans (hb3.mono B2.out.size)
    have I3 := Lib.hid (I2.out.keepB hb3 (Nat.le_refl _))
    have V3 := Lib.hid (V2.out.keepB hb3 (Nat.le_refl _))
    have O3 := Lib.hid (O2.out.keepB hb3 (Nat.le_refl _))
    have S3 := Lib.hid ho
    clear hb3 ho
    go_wp2_with fail
    refine (sameTk_same a2 a3 _ d2 d3 T w3 O3.out.tk S3.out.tk rfl HTL.out).mono ?_
    rintro e w4 ⟨rfl, hs4⟩
    have hb4 := hs4.below w3.heap.size
    have B4 : Hid (Below w.heap.size w w4) := B3.out.trans (hb4.mono B3.out.size)
    have I4 := Lib.hid (I3.out.keepB hb4 (Nat.le_refl _))
    have V4 := Lib.hid (V3.out.keepB hb4 (Nat.le_refl _))
    have O4 := Lib.hid (O3.out.keepB hb4 (Nat.le_refl _))
    have S4 := Lib.hid (S3.out.keepB hb4 (Nat.le_refl _))
    clear hs4 hb4
    obtain ⟨b, off, hab, _, _⟩ := I4.out.cellP (by omega)
    subst hab
    obtain ⟨g2, ha2, ho2⟩ := O4.out.some HTP.out
    subst ha2
    have K4 := Lib.hid ho2
    clear ho2
    obtain ⟨j, hj, hjm⟩ := remP len2 zs.length (by omega)
    have hjt : (len2 : Int).tmod (zs.length : Int) = (j : Int) := by rw [Int.tmod_eq_emod_of_nonneg (by omega)]; exact hj
    have m0 : ((zs.length : Int) == 0) = false := by rw [beq_eq_false_iff_ne]; omega
    have m0' : ¬ (zs.length : Int) = 0 := by omega
    have m0'' : ¬ zs.length = 0 := by omega
    have HJM := Lib.hid hjm
    obtain ⟨z0, hz0⟩ : ∃ z0, z0 = gt zs j := ⟨_, rfl⟩
    have HZ0 := Lib.hid hz0
    have hzp : 0 ≤ z0 ∧ z0 < 64 := by rw [hz0]; exact asc_pt ((plOk_iff _ _).1 HOK.out).1 hjm
    have HZP := Lib.hid hzp
    have j0 : (0 : Int) ≤ (j : Int) := by omega
    have j1 : (j : Int) < (zs.length : Int) := by omega
    have j2 : (j : Int) < (ws.length : Int) := by omega
    clear hz0 hzp
    obtain ⟨_, hag, _, hgl, hcw, _⟩ := V4.out.at_ (by omega)
    injection hag with hag
    injection hag with hag
    subst hag
    have hcv := hcw j (by omega)
    obtain ⟨y, hy⟩ : ∃ y, y = gt ws j := ⟨_, rfl⟩
    rw [← hy] at hcv
    have hyp := (wsB_iff ws).1 ((plOk_iff _ _).1 HOK.out).2.2 j (by omega)
    rw [← hy] at hyp
    have HJ2 : Hid (j < ws.length) := by show _ < _; omega
    clear hcw
    by_cases hy5 : y = 5
    · subst hy5
      clear hy hyp
      go_wp2
      go_ret
      exact ⟨rfl, B4.out⟩
    have hyb : (y == 5) = false := by rw [beq_eq_false_iff_ne]; exact hy5
    have hy5' : gt ws j ≠ 5 := by rw [← hy]; exact hy5
    have HOK2 := Lib.hid (grow_ok HOK.out hjm hy5')
    have HPR := Lib.hid (fun q => grow_moved HOK.out hjm hy5' q)
    rw [← hy] at HOK2 HPR
    obtain ⟨X, hX⟩ : ∃ X, tabTo zs (ws.set j (y + 1)) 64 = X := ⟨_, rfl⟩
    have HPX : Hid (plR zs (ws.set j (y + 1)) = X) := by show _ = _; rw [plR_ok HOK2.out, hX]
    have HXB : Hid (tbB X = true) := by show _ = true; rw [← hX]; exact tab_valid HOK2.out
    have hx64 : X.length ≤ 64 := by rw [← hX]; exact tabTo_len _ _ _
    have HXM := Lib.hid (small64 hx64)
    have HXP := Lib.hid (tb_len HXB.out)
    rw [hX, ← HTT.out, ← HZ0.out] at HPR
    obtain ⟨Z, hZ⟩ : ∃ Z, mvTo T X 64 = Z := ⟨_, rfl⟩
    have HZR : Hid (mvR T X = Z) := by show _ = _; rw [mvR_ok HTB.out HXB.out, hZ]
    have hz64 : Z.length ≤ 64 := by rw [← hZ]; exact mvTo_len _ _ _
    have HMV : Hid (∀ k, k < Z.length → ownR X (gt Z k) = z0) := fun k hk => by
      have hm : gt Z k ∈ mvTo T X 64 := by rw [hZ, gt_get hk]; exact List.getElem_mem _
      obtain ⟨q, hq, he, hne⟩ := (mem_mv T X 64 _).1 hm
      rw [ownR_ok ((ownOk_iff _ _).2 ⟨HXB.out, by omega, by omega⟩), he]
      exact Decidable.byContradiction fun hh => hne (HPR.out q hh)
    obtain ⟨vx, hvx⟩ : ∃ v, ldR X z0 = v := ⟨_, rfl⟩
    obtain ⟨vt, hvt⟩ : ∃ v, ldR T z0 = v := ⟨_, rfl⟩
    have HVX := Lib.hid hvx
    have HVT := Lib.hid hvt
    have hvs : vx = vt + (Z.length : Int) ∧ 0 ≤ vt ∧ vt ≤ 64 := by
      rw [← hvx, ← hvt, ldR_ok ((ownOk_iff _ _).2 ⟨HXB.out, HZP.out⟩), ldR_ok ((ownOk_iff _ _).2 ⟨HTB.out, HZP.out⟩), ← hZ, ld_more T X z0 64 (fun q _ hne => HPR.out q hne)]
      have := ldN_le T z0 64
      exact ⟨by omega, by omega, by omega⟩
    have HVS := Lib.hid hvs
    have HSL : Hid ((ws.set j (y + 1)).length = ws.length) := List.length_set
    have HAB : Hid (∀ o : Obj, Below w4.heap.size w4 (w4.alloc o)) := fun o => (Below.refl _ _).alloc (Nat.le_refl _) _
    have HVI := Lib.hid V4.out.ints
    have hw16 : ws.length ≤ 1000000 := by omega
    have HYG := Lib.hid hy
    clear hX hx64 hZ hvx hvt hvs hy5 hy5' hy
    go_wp2_with (at_builtin; refine wl_appS _ (by rfl) _ _ (by rfl) w4.heap.size w4.heap.size 0 0 [] (by rfl) (own_empty (heap_alloc_new w4 _) (Nat.le_refl _)) (some ⟨g, 0, none⟩) ws.length cw ws (by rfl) rfl (HVI.out.keepB (HAB.out _) (Nat.le_refl _)) ws.length (by omega) (by omega) (by simp) ?_; intro g5 cap5 w5 hown hgr hat; have HB5 : Hid (Below w4.heap.size w4 w5) := ((HAB.out _).grown hgr (by simp) (fun q hq => by injection hq with hq; omega)); have HO5 := Lib.hid (own_whole hown rfl); clear hown hgr hat; obtain ⟨_, hag5, hg5, hgl5, hcw5, hfz5⟩ := HO5.out.at_ (by omega); injection hag5 with hag5; injection hag5 with hag5; subst hag5; have hc5 := hcw5 j HJ2.out; have hf5 := hfz5 j; rw [← HYG.out] at hc5; clear hcw5 hfz5 hcv)
    obtain ⟨w6, hw6⟩ : ∃ x, x = w5.setCell ⟨g5, j, none⟩ (.int .i64 (y + 1)) := ⟨_, rfl⟩
    have hb6 : Below w4.heap.size w4 w6 := by rw [hw6]; exact HB5.out.setCell hg5 _
    have N6 : Hid (OwnI w6 w4.heap.size (some ⟨g5, 0, none⟩) cap5 (ws.set j (y + 1))) := by show OwnI _ _ _ _ _; rw [hw6]; exact HO5.out.set HJ2.out _
    rw [← hw6]
    have B6 : Hid (Below w.heap.size w w6) := B4.out.trans (hb6.mono B4.out.size)
    have I6 := Lib.hid (I4.out.keepB hb6 (Nat.le_refl _))
    have K6 := Lib.hid (K4.out.keepB hb6 (Nat.le_refl _))
    clear hw6 hb6 hc5 hf5 hyb hyp hj hjt m0 m0' m0''
    refine (pplace_as X (some ⟨b, off, none⟩) (some ⟨g5, 0, none⟩) zs.length ws.length c cap5 zs (ws.set j (y + 1)) w6 I6.out N6.out.ints rfl HSL.out HMZ.out HMW.out HPX.out).mono ?_
    rintro e w7 ⟨a7, d7, rfl, ho, hb7⟩
    have B7 : Hid (Below w.heap.size w w7) := B6.out.trans (hb7.mono B6.out.size)
    have I7 := Lib.hid (I6.out.keepB hb7 (Nat.le_refl _))
    have K7 := Lib.hid (K6.out.keepB hb7 (Nat.le_refl _))
    have N7 := Lib.hid (N6.out.keepB hb7 (Nat.le_refl _))
    have X7 := Lib.hid ho
    clear hb7 ho
    obtain ⟨g7, ha7, hx7⟩ := X7.out.some HXP.out
    subst ha7
    have Y7 := Lib.hid hx7
    clear hx7
    go_wp2_with fail
    refine (pmoved_as Z _ _ _ _ d2 d7 T X w7 K7.out.tk Y7.out.tk rfl rfl HTM.out HXM.out HZR.out).mono ?_
    rintro e w8 ⟨a8, d8, rfl, ho, hb8⟩
    have B8 : Hid (Below w.heap.size w w8) := B7.out.trans (hb8.mono B7.out.size)
    have I8 := Lib.hid (I7.out.keepB hb8 (Nat.le_refl _))
    have K8 := Lib.hid (K7.out.keepB hb8 (Nat.le_refl _))
    have Y8 := Lib.hid (Y7.out.keepB hb8 (Nat.le_refl _))
    have Z8 := Lib.hid ho
    clear hb8 ho
    clear t0
    go_wp2
    go_loopw [13] (fun i wr => ∃ k : Nat, k ≤ Z.length ∧ i = .int .i64 k ∧ Below w8.heap.size w8 wr) (fun i _ => Z.length - (intOf i).toNat)
    case atStart => exact ⟨0, by omega, rfl, Below.refl _ _⟩
    case round =>
      obtain ⟨k, hk, rfl, hbel⟩ := hrel
      obtain ⟨w9, rfl⟩ : ∃ x, x = wr := ⟨_, rfl⟩
      have HB9 : Hid (Below w.heap.size w w9) := B8.out.trans (hbel.mono B8.out.size)
      have HX9 := Lib.hid (Y8.out.keepB hbel (Nat.le_refl _))
      have HZ9 := Lib.hid (Z8.out.keepB hbel (Nat.le_refl _))
      have HI9 := Lib.hid (I8.out.keepB hbel (Nat.le_refl _))
      by_cases hlt : k < Z.length
      · obtain ⟨gz, haz, _, _, hoz⟩ := HZ9.out.some (by omega)
        subst haz
        obtain ⟨_, hag, _, hgz, hcz, _⟩ := hoz.at_ (by omega)
        injection hag with hag
        injection hag with hag
        subst hag
        have hc0 := hcz k hlt
        obtain ⟨_, _, hab, hb9, hcn⟩ := HI9.out.cellP (by omega)
        injection hab with hab
        injection hab with hab1 hab2
        subst hab1 hab2
        have hc1 := hcn j HJM.out
        rw [← HZ0.out] at hc1
        have hmv := HMV.out k hlt
        obtain ⟨x, hx⟩ : ∃ x, x = gt Z k := ⟨_, rfl⟩
        rw [← hx] at hc0 hmv
        have HMX := Lib.hid hmv
        have X0 := fun y : Cls (Below w9.heap.size w9) => (y.ok.cell (p := ⟨gz, k, none⟩) hgz).trans hc0
        have X1 := fun y : Cls (Below w9.heap.size w9) => (y.ok.cell (p := ⟨b, off + j, none⟩) hb9).trans hc1
        have k0 : (0 : Int) ≤ (k : Int) := by omega
        have k1 : (k : Int) < (Z.length : Int) := by omega
        have q1 : (z0 != z0) = false := by simp
        clear hmv hx hc0 hc1 hcz hcn hoz
        go_wp2_with fail
        refine wp_region_cls (Below w9.heap.size w9) (by kernel_rfl) (by kernel_rfl) below_drawn ?_
        repeat (go_big_quiet_step ((go_at_call 27; rename_i y; exact cls_below (pown_as z0 (some ⟨g7, 0, none⟩) _ d7 X x _ (HX9.out.keepB y.ok (Nat.le_refl _)).tk rfl HXM.out HMX.out) y.ok (Nat.le_refl _))))
        refine wpQuiet_nil ?_
        intro w10 hw'
        have hb10 := cls_out hw'
        clear hw' X0 X1 q1
        go_wp2
        go_roundw
        case rel => exact ⟨k + 1, by omega, by go_num, hbel.trans (hb10.mono hbel.size)⟩
        case measure => simp [intOf]; omega
      · obtain rfl : k = Z.length := by omega
        have HK9 := Lib.hid (K8.out.keepB hbel (Nat.le_refl _))
        obtain ⟨_, _, hab, hb9, hcn⟩ := HI9.out.cellP (by omega)
        injection hab with hab
        injection hab with hab1 hab2
        subst hab1 hab2
        have hc1 := hcn j HJM.out
        rw [← HZ0.out] at hc1
        obtain ⟨hv1, hv2, hv3⟩ := HVS.out
        have X1 := fun y : Cls (Below w9.heap.size w9) => (y.ok.cell (p := ⟨b, off + j, none⟩) hb9).trans hc1
        have hwr : IntKind.i64.wrap (vt + (Z.length : Int)) = vx := by rw [IntKind.wrap_i64]; omega
        have qz : (vx == vx) = true := by simp
        clear hcn hc1 hv1
        go_wp2_with fail
        refine wp_region_cls (Below w9.heap.size w9) (by kernel_rfl) (by kernel_rfl) below_drawn ?_
        repeat (go_big_quiet_step ((go_at_call 30; rename_i y; first | (with_reducible exact cls_below (pload_as vx (some ⟨g7, 0, none⟩) _ d7 X z0 _ (HX9.out.keepB y.ok (Nat.le_refl _)).tk rfl HXM.out HVX.out) y.ok (Nat.le_refl _)) | (with_reducible exact cls_below (pload_as vt (some ⟨g2, 0, none⟩) _ d2 T z0 _ (HK9.out.keepB y.ok (Nat.le_refl _)).tk rfl HTM.out HVT.out) y.ok (Nat.le_refl _)))))
        refine wpQuiet_nil ?_
        intro w10 hw'
        have hb10 := cls_out hw'
        clear hw' X1
        go_wp2
        go_ret
        exact ⟨rfl, HB9.out.trans (hb10.mono HB9.out.size)⟩

end Go.Proofs.Ytidabcdaodlfeaa
