/- The laws of writing to some replicas. -/
import Derived.Test.YtcjlohikfjafiaaRgDraw3
namespace Go.Proofs.Ytcjlohikfjafiaa
open Go.RowKit
set_option linter.unusedVariables false
attribute [local go_sem ↓] Go.wp_at_zero Go.wp_at_succ

theorem partR_twice {L : List Ls} {zs : List Int} {x : Ls} (h : (partR L zs x).2 = true) : partR (partR L zs x).1 zs x = ((partR L zs x).1, true) := by
  obtain ⟨h1, h2, h3, h4, h5⟩ := partR_ok h
  rw [h5]
  have := partR_yes (L := putL L x zs) (zs := zs) (x := x) h4 (by rw [putL_len]; exact h2) h3 (by rw [putL_twice h2]; exact h4)
  rw [this, putL_twice h2]

set_option maxHeartbeats 4000000 in
theorem partTwice (s : Option Addr) (len cap : Nat) (z : List Int) (w : World) (h : RowIn .u8 w s len cap z) :
    Calls Try.prog 4 #[.slice s len cap] w fun e w' => e = .returned (.bool true) ∧ Below w.heap.size w w' := by
  have hb := bytes_of_row h
  have hm : len ≤ maxLen := Nat.le_trans hb.1 hb.2.1
  unfold maxLen at hm
  clear h
  by_cases hl : 1048576 < len
  · go_enter Try.func4, Try.ntmps4
    go_wp2
    go_ret
    exact ⟨rfl, Below.refl _ _⟩
  have hlB : decide ((1048576 : Int) < (len : Int)) = false := by simp; omega
  have HBY := Lib.hid hb
  clear hb
  go_enter Try.func4, Try.ntmps4
  go_wp2_with fail
  refine (drawRegisterPart s len cap w HBY.out).mono ?_
  rintro e w1 ⟨g, c, L, g2, c2, zs, x, rfl, hl1, hl10, hlz, ho, hi, hb1⟩
  have hmx : Hid (L.length ≤ maxLen) := by show _ ≤ maxLen; unfold maxLen; omega
  have hzm : Hid (zs.length ≤ maxLen) := by show _ ≤ maxLen; unfold maxLen; omega
  have hlc : Hid (L.length ≤ c) := ho.blk.2.2.choose_spec.2.1
  obtain ⟨W, hW⟩ : ∃ W, W = w1.alloc (.cells #[.int .i64 x.e, .int .i64 x.o, .int .i64 x.u] 26) := ⟨_, rfl⟩
  have hWb : Below w1.heap.size w1 W := by rw [hW]; exact alB _ _
  have HXW : Hid (W.heap[w1.heap.size]? = some (.cells #[.int .i64 x.e, .int .i64 x.o, .int .i64 x.u] 26 (0, 0))) := by show _ = _; rw [hW]; exact heap_alloc_new w1 _
  have hWs : w1.heap.size < W.heap.size := by rw [hW]; simp
  have HW := Lib.hid hW
  have LW := Lib.hid (ho.keepB hWb (Nat.le_refl _))
  have IW := Lib.hid (hi.keepB hWb (Nat.le_refl _))
  have hBW : Below w.heap.size w W := hb1.trans (hWb.mono hb1.size)
  clear hW ho hi hb1 hWb
  obtain ⟨R, hR⟩ : ∃ R, R = partR L zs x := ⟨_, rfl⟩
  have hsm : Hid (R.1.length ≤ 1048576) := by show _ ≤ 1048576; have := partR_len L zs x; rw [hR]; omega
  have HR := Lib.hid hR
  clear hR
  go_wp2_with fail
  rw [← HW.out]
  refine (part_any _ _ _ _ _ _ L zs x W LW.out.ls rfl hmx.out hlc.out IW.out rfl hzm.out).mono ?_
  rw [← HR.out]
  rintro e w2 ⟨gm, cm, rfl, hom, hb2⟩
  have hB2 : Below w.heap.size w w2 := hBW.trans (hb2.mono hBW.size)
  have L2 := Lib.hid (LW.out.keepB hb2 (Nat.le_refl _))
  have I2 := Lib.hid (IW.out.keepB hb2 (Nat.le_refl _))
  have M2 := Lib.hid hom
  have HX2 := Lib.hid ((hb2.block _ hWs).trans HXW.out)
  have x0 := cell_of_cells HX2.out 0
  have x1 := cell_of_cells HX2.out 1
  have x2 := cell_of_cells HX2.out 2
  clear hom
  go_wp2_with fail
  refine (spart_any _ _ _ _ _ _ L zs x w2 L2.out.ls rfl hmx.out hlc.out I2.out rfl hzm.out).mono ?_
  rw [← HR.out]
  rintro e w3 ⟨gn, cn, rfl, hon, hb3⟩
  have hB3 : Below w.heap.size w w3 := hB2.trans (hb3.mono hB2.size)
  have L3 := Lib.hid (L2.out.keepB hb3 (Nat.le_refl _))
  have I3 := Lib.hid (I2.out.keepB hb3 (Nat.le_refl _))
  have M3 := Lib.hid (M2.out.keepB hb3 (Nat.le_refl _))
  have N3 := Lib.hid hon
  have HX3 := Lib.hid ((hb3.block _ (heap_lt HX2.out)).trans HX2.out)
  have hWl3 : w1.heap.size < w3.heap.size := heap_lt HX3.out
  clear hon x0 x1 x2 hb2 hb3 hBW hB2
  cases hok : (partR L zs x).2
  case false =>
    have hR2 : R.2 = false := by rw [HR.out]; exact hok
    clear hok
    go_wp2_with fail
    refine (sameLs_same _ _ _ _ _ R.1 w3 M3.out.ls N3.out.ls rfl hsm.out).mono ?_
    rintro e w4 ⟨rfl, hs4⟩
    go_wp2_with fail
    refine (sameLs_same _ _ _ _ _ R.1 w4 (M3.out.keepB (hs4.below _) (Nat.le_refl _)).ls (N3.out.keepB (hs4.below _) (Nat.le_refl _)).ls rfl hsm.out).mono ?_
    rintro e w5 ⟨rfl, hs5⟩
    go_wp2
    go_ret
    exact ⟨rfl, hB3.trans ((hs4.below _).trans (hs5.below _))⟩
  have hR2 : R.2 = true := by rw [HR.out]; exact hok
  have HT := Lib.hid (partR_twice hok)
  rw [← HR.out] at HT
  clear hok
  go_wp2_with fail
  refine (sameLs_same _ _ _ _ _ R.1 w3 M3.out.ls N3.out.ls rfl hsm.out).mono ?_
  rintro e w5 ⟨rfl, hs5⟩
  have hb5' := hs5.below w3.heap.size
  have hB5 : Below w.heap.size w w5 := hB3.trans (hs5.below _)
  clear hs5
  have HX5 := Lib.hid ((hb5'.block _ hWl3).trans HX3.out)
  have y0 := cell_of_cells HX5.out 0
  have y1 := cell_of_cells HX5.out 1
  have y2 := cell_of_cells HX5.out 2
  have M5 := Lib.hid (M3.out.keepB hb5' (Nat.le_refl _))
  have I5 := Lib.hid (I3.out.keepB hb5' (Nat.le_refl _))
  have HM5 : Hid (R.1.length ≤ maxLen ∧ R.1.length ≤ cm) := by
    refine ⟨?_, M5.out.blk.2.2.choose_spec.2.1⟩
    unfold maxLen; have := hsm.out; omega
  go_wp2_with fail
  refine (part_any _ _ _ _ _ _ R.1 zs x w5 M5.out.ls rfl HM5.out.1 HM5.out.2 I5.out rfl hzm.out).mono ?_
  rw [HT.out]
  rintro e w6 ⟨g6, c6, rfl, ho6, hb6⟩
  have hB6 : Below w.heap.size w w6 := hB5.trans (hb6.mono hB5.size)
  have M6 := Lib.hid (M5.out.keepB hb6 (Nat.le_refl _))
  have N6 := Lib.hid ho6
  clear ho6 hb6 y0 y1 y2
  go_wp2_with fail
  refine (sameLs_same _ _ _ _ _ R.1 w6 N6.out.ls M6.out.ls rfl hsm.out).mono ?_
  rintro e w7 ⟨rfl, hs7⟩
  go_wp2
  go_ret
  exact ⟨rfl, hB6.trans (hs7.below _)⟩

set_option maxHeartbeats 4000000 in
theorem partOlder (s : Option Addr) (len cap : Nat) (z : List Int) (w : World) (h : RowIn .u8 w s len cap z) :
    Calls Try.prog 3 #[.slice s len cap] w fun e w' => e = .returned (.bool true) ∧ Below w.heap.size w w' := by
  have hb := bytes_of_row h
  have hm : len ≤ maxLen := Nat.le_trans hb.1 hb.2.1
  unfold maxLen at hm
  clear h
  by_cases hl : 1048576 < len
  · go_enter Try.func3, Try.ntmps3
    go_wp2
    go_ret
    exact ⟨rfl, Below.refl _ _⟩
  have hlB : decide ((1048576 : Int) < (len : Int)) = false := by simp; omega
  have HBY := Lib.hid hb
  have hgd := Try.eqReplica
  clear hb
  go_enter Try.func3, Try.ntmps3
  go_wp2_with fail
  refine (drawRegisterPart s len cap w HBY.out).mono ?_
  rintro e w1 ⟨g, c, L, g2, c2, zs, x, rfl, hl1, hl10, hlz, ho, hi, hb1⟩
  have hmx : Hid (L.length ≤ maxLen) := by show _ ≤ maxLen; unfold maxLen; omega
  have hzm : Hid (zs.length ≤ maxLen) := by show _ ≤ maxLen; unfold maxLen; omega
  have hlc : Hid (L.length ≤ c) := ho.blk.2.2.choose_spec.2.1
  obtain ⟨W, hW⟩ : ∃ W, W = w1.alloc (.cells #[.int .i64 x.e, .int .i64 x.o, .int .i64 x.u] 26) := ⟨_, rfl⟩
  have hWb : Below w1.heap.size w1 W := by rw [hW]; exact alB _ _
  have HXW : Hid (W.heap[w1.heap.size]? = some (.cells #[.int .i64 x.e, .int .i64 x.o, .int .i64 x.u] 26 (0, 0))) := by show _ = _; rw [hW]; exact heap_alloc_new w1 _
  have hWs : w1.heap.size < W.heap.size := by rw [hW]; simp
  have HW := Lib.hid hW
  have LW := Lib.hid (ho.keepB hWb (Nat.le_refl _))
  have IW := Lib.hid (hi.keepB hWb (Nat.le_refl _))
  have hBW : Below w.heap.size w W := hb1.trans (hWb.mono hb1.size)
  clear hW ho hi hb1 hWb
  obtain ⟨R, hR⟩ : ∃ R, R = partR L zs x := ⟨_, rfl⟩
  have hsm : Hid (R.1.length ≤ 1048576) := by show _ ≤ 1048576; have := partR_len L zs x; rw [hR]; omega
  have HR := Lib.hid hR
  clear hR
  go_wp2_with fail
  rw [← HW.out]
  refine (part_any _ _ _ _ _ _ L zs x W LW.out.ls rfl hmx.out hlc.out IW.out rfl hzm.out).mono ?_
  rw [← HR.out]
  rintro e w2 ⟨gm, cm, rfl, hom, hb2⟩
  have hB2 : Below w.heap.size w w2 := hBW.trans (hb2.mono hBW.size)
  have L2 := Lib.hid (LW.out.keepB hb2 (Nat.le_refl _))
  have I2 := Lib.hid (IW.out.keepB hb2 (Nat.le_refl _))
  have M2 := Lib.hid hom
  have HX2 := Lib.hid ((hb2.block _ hWs).trans HXW.out)
  have x0 := cell_of_cells HX2.out 0
  have x1 := cell_of_cells HX2.out 1
  have x2 := cell_of_cells HX2.out 2
  clear hom
  go_wp2_with fail
  refine (spart_any _ _ _ _ _ _ L zs x w2 L2.out.ls rfl hmx.out hlc.out I2.out rfl hzm.out).mono ?_
  rw [← HR.out]
  rintro e w3 ⟨gn, cn, rfl, hon, hb3⟩
  have hB3 : Below w.heap.size w w3 := hB2.trans (hb3.mono hB2.size)
  have L3 := Lib.hid (L2.out.keepB hb3 (Nat.le_refl _))
  have I3 := Lib.hid (I2.out.keepB hb3 (Nat.le_refl _))
  have M3 := Lib.hid (M2.out.keepB hb3 (Nat.le_refl _))
  have N3 := Lib.hid hon
  have HX3 := Lib.hid ((hb3.block _ (heap_lt HX2.out)).trans HX2.out)
  have hWl3 : w1.heap.size < w3.heap.size := heap_lt HX3.out
  clear hon x0 x1 x2 hb2 hb3 hBW hB2
  cases hok : (partR L zs x).2
  case false =>
    have hR2 : R.2 = false := by rw [HR.out]; exact hok
    clear hok
    go_wp2_with fail
    refine (sameLs_same _ _ _ _ _ R.1 w3 M3.out.ls N3.out.ls rfl hsm.out).mono ?_
    rintro e w4 ⟨rfl, hs4⟩
    go_wp2_with fail
    refine (sameLs_same _ _ _ _ _ R.1 w4 (M3.out.keepB (hs4.below _) (Nat.le_refl _)).ls (N3.out.keepB (hs4.below _) (Nat.le_refl _)).ls rfl hsm.out).mono ?_
    rintro e w5 ⟨rfl, hs5⟩
    go_wp2
    go_ret
    exact ⟨rfl, hB3.trans ((hs4.below _).trans (hs5.below _))⟩
  have hR2 : R.2 = true := by rw [HR.out]; exact hok
  obtain ⟨k1, k2, k3, k4, k5⟩ := partR_ok hok
  rw [← HR.out] at k5
  have HV := Lib.hid k4
  have HSB := Lib.hid k2
  have HM := Lib.hid k5
  have hml : Hid (R.1.length = L.length) := by show _ = _; rw [k5, putL_len]
  clear k1 k2 k3 k4 k5 hok
  go_wp2_with fail
  refine (sameLs_same _ _ _ _ _ R.1 w3 M3.out.ls N3.out.ls rfl hsm.out).mono ?_
  rintro e w5 ⟨rfl, hs5⟩
  have hb5' := hs5.below w3.heap.size
  have hB5 : Below w.heap.size w w5 := hB3.trans (hs5.below _)
  clear hs5
  have HX5 := Lib.hid ((hb5'.block _ hWl3).trans HX3.out)
  have M5 := Lib.hid (M3.out.keepB hb5' (Nat.le_refl _))
  have I5 := Lib.hid (I3.out.keepB hb5' (Nat.le_refl _))
  have L5 := Lib.hid (L3.out.keepB hb5' (Nat.le_refl _))
  have hWl5 : w1.heap.size < w5.heap.size := heap_lt HX5.out
  have hgL5 : g < w5.heap.size := L5.out.blk.2.1
  have hgM5 : gm < w5.heap.size := M5.out.blk.2.1
  go_wp2
  go_loopw [10] (fun i wr => ∃ k : Nat, k ≤ L.length ∧ i = .int .i64 k ∧ Below w5.heap.size w5 wr) (fun i _ => L.length - (intOf i).toNat)
  case atStart => exact ⟨0, by omega, rfl, Below.refl _ _⟩
  case round =>
    obtain ⟨k, hk, rfl, hbr⟩ := hrel
    by_cases hlt : k < L.length
    · obtain ⟨c0, c1, c2⟩ := L5.out.cells hlt
      obtain ⟨d0, d1, d2⟩ := M5.out.cells (i := k) (by rw [hml.out]; exact hlt)
      have hMk := putL_at (x := x) HSB.out hlt
      rw [← HM.out] at hMk
      have hbs := hbr.size
      have kc : ∀ (b o : Nat), b < w5.heap.size → ∀ q : Cls (Below wr.heap.size wr), q.to.cell? ⟨b, o, none⟩ = w5.cell? ⟨b, o, none⟩ := fun b o hb q => (q.ok.cell (p := ⟨b, o, none⟩) (show b < wr.heap.size by omega)).trans (hbr.cell (p := ⟨b, o, none⟩) hb)
      have e0 : ∀ q : Cls (Below wr.heap.size wr), q.to.cell? ⟨g, k * 3, none⟩ = some (.int .i64 (gl L k).e) := fun q => (kc _ _ hgL5 q).trans c0
      have e1 : ∀ q : Cls (Below wr.heap.size wr), q.to.cell? ⟨g, k * 3 + 1, none⟩ = some (.int .i64 (gl L k).o) := fun q => (kc _ _ hgL5 q).trans c1
      have e2 : ∀ q : Cls (Below wr.heap.size wr), q.to.cell? ⟨g, k * 3 + 2, none⟩ = some (.int .i64 (gl L k).u) := fun q => (kc _ _ hgL5 q).trans c2
      have x0 := cell_of_cells HX5.out 0
      have x1 := cell_of_cells HX5.out 1
      have x2 := cell_of_cells HX5.out 2
      have e3 : ∀ q : Cls (Below wr.heap.size wr), q.to.cell? ⟨w1.heap.size, 0, none⟩ = some (.int .i64 x.e) := fun q => (kc _ _ hWl5 q).trans x0
      have e4 : ∀ q : Cls (Below wr.heap.size wr), q.to.cell? ⟨w1.heap.size, 1, none⟩ = some (.int .i64 x.o) := fun q => (kc _ _ hWl5 q).trans x1
      have e5 : ∀ q : Cls (Below wr.heap.size wr), q.to.cell? ⟨w1.heap.size, 2, none⟩ = some (.int .i64 x.u) := fun q => (kc _ _ hWl5 q).trans x2
      have HIr : Hid (∀ q : Cls (Below wr.heap.size wr), IntsAt q.to (some ⟨g2, 0, none⟩) zs) := fun q => (I5.out.keepB hbr (Nat.le_refl _)).keepB q.ok (Nat.le_refl _)
      have HKC := Lib.hid (fun (b o : Nat) (hb : b < w5.heap.size) (w' : World) (hw : Below wr.heap.size wr w') => (hw.cell (p := ⟨b, o, none⟩) (show b < wr.heap.size by omega)).trans (hbr.cell (p := ⟨b, o, none⟩) hb))
      have HD := Lib.hid (And.intro d0 (And.intro d1 d2))
      have HC := Lib.hid (And.intro c0 (And.intro c1 c2))
      have HXC := Lib.hid (And.intro x0 (And.intro x1 x2))
      have HMK := Lib.hid hMk
      clear kc c0 c1 c2 d0 d1 d2 x0 x1 x2 hMk
      have i0 : (0 : Int) ≤ (k : Int) := by omega
      have i1 : (k : Int) < (L.length : Int) := by omega
      cases hin : inTo zs (k : Int) zs.length
      · have HIN := Lib.hid hin
        have HMV : Hid (gl R.1 k = gl L k) := by show _ = _; have := HMK.out; rw [hin] at this; simpa using this
        clear hin
        go_wp2
        refine wp_region_cls (Below wr.heap.size wr) (by kernel_rfl) (by kernel_rfl) below_drawn ?_
        repeat (go_big_quiet_step ((go_at_call 12; rename_i q; exact cls_same (lhas_as false _ _ _ zs _ _ (HIr.out q) rfl hzm.out HIN.out) q.ok)))
        refine wpQuiet_nil ?_
        intro w6 hw'
        have hb6 := cls_out hw'
        clear hw' e0 e1 e2 e3 e4 e5
        have hb56 : Below w5.heap.size w5 w6 := hbr.trans (hb6.mono hbr.size)
        have d0 := (HKC.out gm (k * 3) hgM5 w6 hb6).trans HD.out.1
        have d1 := (HKC.out gm (k * 3 + 1) hgM5 w6 hb6).trans HD.out.2.1
        have d2 := (HKC.out gm (k * 3 + 2) hgM5 w6 hb6).trans HD.out.2.2
        rw [HMV.out] at d0 d1 d2
        have c0 := (HKC.out g (k * 3) hgL5 w6 hb6).trans HC.out.1
        have c1 := (HKC.out g (k * 3 + 1) hgL5 w6 hb6).trans HC.out.2.1
        have c2 := (HKC.out g (k * 3 + 2) hgL5 w6 hb6).trans HC.out.2.2
        have r0 : (k : Int) < (R.1.length : Int) := by rw [hml.out]; exact i1
        have r1 : k < R.1.length := by rw [hml.out]; exact hlt
        clear hb6
        go_wp2
        go_quiet (fail)
        go_wp2
        go_roundw
        case rel => exact ⟨k + 1, by omega, by go_num, hb56.trans (((Same.refl _).drewN _).below _)⟩
        case measure => simp [intOf]; omega
      cases hlo : ltB (gl L k) x
      · have HIN := Lib.hid hin
        have HLO := Lib.hid hlo
        have HMV : Hid (gl R.1 k = gl L k) := by show _ = _; have := HMK.out; rw [hin, hlo] at this; simpa using this
        clear hin hlo
        go_wp2
        refine wp_region_cls (Below wr.heap.size wr) (by kernel_rfl) (by kernel_rfl) below_drawn ?_
        repeat (go_big_quiet_step ((first | (go_at_call 12; rename_i q; exact cls_same (lhas_as true _ _ _ zs _ _ (HIr.out q) rfl hzm.out HIN.out) q.ok) | (go_at_call 13; rename_i q; exact cls_below (lold_as false (gl L k) x _ HLO.out) q.ok (Nat.le_refl _)))))
        refine wpQuiet_nil ?_
        intro w6 hw'
        have hb6 := cls_out hw'
        clear hw' e0 e1 e2 e3 e4 e5
        have hb56 : Below w5.heap.size w5 w6 := hbr.trans (hb6.mono hbr.size)
        have d0 := (HKC.out gm (k * 3) hgM5 w6 hb6).trans HD.out.1
        have d1 := (HKC.out gm (k * 3 + 1) hgM5 w6 hb6).trans HD.out.2.1
        have d2 := (HKC.out gm (k * 3 + 2) hgM5 w6 hb6).trans HD.out.2.2
        rw [HMV.out] at d0 d1 d2
        have c0 := (HKC.out g (k * 3) hgL5 w6 hb6).trans HC.out.1
        have c1 := (HKC.out g (k * 3 + 1) hgL5 w6 hb6).trans HC.out.2.1
        have c2 := (HKC.out g (k * 3 + 2) hgL5 w6 hb6).trans HC.out.2.2
        have r0 : (k : Int) < (R.1.length : Int) := by rw [hml.out]; exact i1
        have r1 : k < R.1.length := by rw [hml.out]; exact hlt
        clear hb6
        go_wp2
        go_quiet (fail)
        go_wp2
        go_roundw
        case rel => exact ⟨k + 1, by omega, by go_num, hb56.trans (((Same.refl _).drewN _).below _)⟩
        case measure => simp [intOf]; omega
      · have HIN := Lib.hid hin
        have HLO := Lib.hid hlo
        have HMV : Hid (gl R.1 k = x) := by show _ = _; have := HMK.out; rw [hin, hlo] at this; simpa using this
        clear hin hlo
        go_wp2
        refine wp_region_cls (Below wr.heap.size wr) (by kernel_rfl) (by kernel_rfl) below_drawn ?_
        repeat (go_big_quiet_step ((first | (go_at_call 12; rename_i q; exact cls_same (lhas_as true _ _ _ zs _ _ (HIr.out q) rfl hzm.out HIN.out) q.ok) | (go_at_call 13; rename_i q; exact cls_below (lold_as true (gl L k) x _ HLO.out) q.ok (Nat.le_refl _)))))
        refine wpQuiet_nil ?_
        intro w6 hw'
        have hb6 := cls_out hw'
        clear hw' e0 e1 e2 e3 e4 e5
        have hb56 : Below w5.heap.size w5 w6 := hbr.trans (hb6.mono hbr.size)
        have d0 := (HKC.out gm (k * 3) hgM5 w6 hb6).trans HD.out.1
        have d1 := (HKC.out gm (k * 3 + 1) hgM5 w6 hb6).trans HD.out.2.1
        have d2 := (HKC.out gm (k * 3 + 2) hgM5 w6 hb6).trans HD.out.2.2
        rw [HMV.out] at d0 d1 d2
        have x0 := (HKC.out w1.heap.size 0 hWl5 w6 hb6).trans HXC.out.1
        have x1 := (HKC.out w1.heap.size 1 hWl5 w6 hb6).trans HXC.out.2.1
        have x2 := (HKC.out w1.heap.size 2 hWl5 w6 hb6).trans HXC.out.2.2
        have r0 : (k : Int) < (R.1.length : Int) := by rw [hml.out]; exact i1
        have r1 : k < R.1.length := by rw [hml.out]; exact hlt
        clear hb6
        go_wp2
        go_quiet (fail)
        go_wp2
        go_roundw
        case rel => exact ⟨k + 1, by omega, by go_num, hb56.trans (((Same.refl _).drewN _).below _)⟩
        case measure => simp [intOf]; omega
    · have HB6 := Lib.hid (hB5.trans (hbr.mono hB5.size))
      have HM6 : Hid (R.1.length ≤ maxLen ∧ R.1.length ≤ cm) := by
        refine ⟨?_, M5.out.blk.2.2.choose_spec.2.1⟩
        unfold maxLen; have := hsm.out; omega
      have HVR : Hid (lvB R.1 = true) := by show _ = _; rw [HM.out]; exact HV.out
      go_wp2_with fail
      refine (lvs_any _ _ _ R.1 wr (M5.out.keepB hbr (Nat.le_refl _)).ls rfl HM6.out.1 HM6.out.2).mono ?_
      rw [HVR.out]
      rintro e w7 ⟨rfl, hb7⟩
      go_wp2
      go_ret
      exact ⟨rfl, HB6.out.trans (hb7.mono HB6.out.size)⟩
end Go.Proofs.Ytcjlohikfjafiaa
