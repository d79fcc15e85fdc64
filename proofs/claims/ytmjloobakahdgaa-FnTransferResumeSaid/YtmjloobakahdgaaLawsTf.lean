/- The walks of the laws of transfers: new, acknowledged, resumed, valid. -/
import Derived.Test.YtmjloobakahdgaaTfDraw5
import Derived.Test.YtmjloobakahdgaaExactTf
import Derived.Test.YtmjloobakahdgaaTfMath2
namespace Go.Proofs.Ytmjloobakahdgaa
open Go.RowKit
set_option linter.unusedVariables false

attribute [local go_sem ↓] Go.wp_at_zero Go.wp_at_succ
attribute [local go_sem ↓] run_max2p

set_option maxHeartbeats 2000000 in
theorem transferNew (s : Option Addr) (len cap : Nat) (z : List Int) (w : World) (h : RowIn .u8 w s len cap z) :
    Calls Try.prog 8 #[.slice s len cap] w fun e w' => e = .returned (.bool true) ∧ Below w.heap.size w w' := by
  have hb := bytes_of_row h
  have hm : len ≤ maxLen := Nat.le_trans hb.1 hb.2.1
  unfold maxLen at hm
  clear h
  by_cases hl : 1048576 < len
  · go_enter Try.func8, Try.ntmps8
    go_wp2
    go_ret
    exact ⟨rfl, Below.refl _ _⟩
  have HY := Lib.hid hb
  clear hb
  go_enter Try.func8, Try.ntmps8
  go_wp2_with fail
  refine (drawTransferNew s len cap w HY.out).mono ?_
  rintro e w1 ⟨a, ca, zs, rfl, hi, hzl, hzc, hb1⟩
  have HI := Lib.hid hi.ints
  have HB1 := Lib.hid hb1
  have hmx : zs.length ≤ maxLen := by unfold maxLen; omega
  have HMX := Lib.hid hmx
  clear hi hb1 hmx
  obtain ⟨R, hR⟩ : ∃ R, R = newT zs := ⟨_, rfl⟩
  obtain ⟨V, hV⟩ : ∃ V, V = itemsB zs := ⟨_, rfl⟩
  have hRl : R.items.length ≤ 20 := by rw [hR]; exact new_len zs
  have HP : Hid (∀ w, IntsAt w a zs → Calls Try.prog 17 #[.slice a zs.length ca] w (NewTfB R V w)) := fun w h => by rw [hR, hV]; exact pnew_any a _ ca zs w h rfl HMX.out
  have HQ : Hid (∀ w, IntsAt w a zs → Calls Try.prog 15 #[.slice a zs.length ca] w (NewTfB R V w)) := fun w h => by rw [hR, hV]; exact snew_any a _ ca zs w h rfl HMX.out
  have HY2 : Hid (V = true → R = ⟨zs, 0, 0⟩ ∧ tfB R = true) := fun h => by
    rw [hV] at h
    have e := newT_yes h
    rw [hR, e]
    exact ⟨rfl, by rw [tfB_iff]; exact ⟨h, ⟨Int.le_refl _, by show (0 : Int) ≤ _; omega⟩, Int.le_refl _, Int.le_refl _⟩⟩
  clear hR hV
  go_wp2_with fail
  refine (HP.out w1 HI.out).mono ?_
  rintro e w2 ⟨ag, cg, rfl, hog, hb2⟩
  have HG := Lib.hid (own_ints hog)
  have HB2 := Lib.hid (HB1.out.trans (hb2.mono HB1.out.size))
  have HI2 : Hid (∀ o, IntsAt (w2.alloc o) a zs) := fun o => HI.out.keepB (hb2.alloc hb2.size o) (Nat.le_refl _)
  have HB12 := Lib.hid hb2
  clear hog hb2
  go_wp2_with fail
  refine (HQ.out _ (HI2.out _)).mono ?_
  rintro e w3 ⟨aw, cw, rfl, how, hb3⟩
  have hst : ∀ o, StTf (w3.alloc o) w2.heap.size ag cg R := fun o => st_keep st_new ((hb3.alloc hb3.size o).block _ (by simp))
  have HW := Lib.hid (own_ints how)
  have HX : Hid (Below w2.heap.size w2 w3) := ((Below.refl _ _).alloc (Nat.le_refl _) _).trans (hb3.mono (by simp))
  have HLT : Hid (w2.heap.size < w3.heap.size) := by have := hb3.size; simp at this; show _ < _; omega
  have HST : Hid (∀ o w', Below (w3.alloc o).heap.size (w3.alloc o) w' → StTf w' w2.heap.size ag cg R) := fun o w' hb => st_keep (hst o) (hb.block _ (by simp; have := HLT.out; omega))
  have r0 : ∀ o, (w3.alloc o).cell? ⟨w2.heap.size, 0, none⟩ = some (.slice ag R.items.length cg) := fun o => (hst o).1
  have r1 : ∀ o, (w3.alloc o).cell? ⟨w2.heap.size, 1, none⟩ = some (.int .i64 R.nxt) := fun o => (hst o).2.1
  have r2 : ∀ o, (w3.alloc o).cell? ⟨w2.heap.size, 2, none⟩ = some (.int .i64 R.ack) := fun o => (hst o).2.2
  clear how hb3 hst
  cases V
  · have hVV : (false != false) = false := rfl
    have hVW : (false == false) = true := rfl
    go_wp2_with fail
    obtain ⟨S3, hS3⟩ : ∃ S3, S3 = w3.alloc (.cells #[.slice aw R.items.length cw, .int .i64 R.nxt, .int .i64 R.ack] 24) := ⟨_, rfl⟩
    rw [← hS3]
    have HA3 : Hid (Below w3.heap.size w3 S3) := by show Below _ _ _; rw [hS3]; exact (Below.refl _ _).alloc (Nat.le_refl _) _
    have HSA : Hid (∀ w', Below S3.heap.size S3 w' → StTf w' w2.heap.size ag cg R) := by show ∀ _, _ → _; rw [hS3]; exact HST.out _
    have hsw : StTf S3 w3.heap.size aw cw R := by rw [hS3]; exact st_new
    have HSW : Hid (∀ w', Below S3.heap.size S3 w' → StTf w' w3.heap.size aw cw R) := fun w' hb => st_keep hsw (hb.block _ (by rw [hS3]; simp))
    have HB3 : Hid (Below w.heap.size w S3) := HB2.out.trans ((HX.out.trans (HA3.out.mono HX.out.size)).mono HB2.out.size)
    have HG3 : Hid (IntsAt S3 ag R.items) := (HG.out.keepB HX.out (Nat.le_refl _)).keepB HA3.out (Nat.le_refl _)
    have HW3 : Hid (IntsAt S3 aw R.items) := HW.out.keepB HA3.out (Nat.le_refl _)
    clear hS3 hsw r0 r1 r2
    refine (sameTf_any ag aw cg cw R S3 HG3.out HW3.out (by omega)).mono ?_
    rintro e w4 ⟨rfl, hb4⟩
    have HB4 := Lib.hid hb4
    obtain ⟨x0, x1, x2⟩ := HSA.out w4 hb4
    obtain ⟨y0, y1, y2⟩ := HSW.out w4 hb4
    clear hb4
    go_wp2_with fail
    refine (sameTf_any ag aw cg cw R w4 (HG3.out.keepB HB4.out (Nat.le_refl _)) (HW3.out.keepB HB4.out (Nat.le_refl _)) (by omega)).mono ?_
    rintro e w5 ⟨rfl, hb5⟩
    have HB5 := Lib.hid (HB4.out.trans (hb5.mono HB4.out.size))
    clear hb5 x0 x1 x2 y0 y1 y2
    go_wp2
    go_ret
    exact ⟨rfl, HB3.out.trans (HB5.out.mono HB3.out.size)⟩
  · have hVV : (true != true) = false := rfl
    obtain ⟨rfl, ht⟩ := HY2.out rfl
    have HT := Lib.hid ht
    clear ht
    go_wp2_with fail
    obtain ⟨S3, hS3⟩ : ∃ S3, S3 = w3.alloc (.cells #[.slice aw zs.length cw, .int .i64 0, .int .i64 0] 24) := ⟨_, rfl⟩
    rw [← hS3]
    have HA3 : Hid (Below w3.heap.size w3 S3) := by show Below _ _ _; rw [hS3]; exact (Below.refl _ _).alloc (Nat.le_refl _) _
    have HSA : Hid (∀ w', Below S3.heap.size S3 w' → StTf w' w2.heap.size ag cg ⟨zs, 0, 0⟩) := by show ∀ _, _ → _; rw [hS3]; exact HST.out _
    have HB3 : Hid (Below w.heap.size w S3) := HB2.out.trans ((HX.out.trans (HA3.out.mono HX.out.size)).mono HB2.out.size)
    have HG3 : Hid (IntsAt S3 ag zs) := (HG.out.keepB HX.out (Nat.le_refl _)).keepB HA3.out (Nat.le_refl _)
    have HW3 : Hid (IntsAt S3 aw zs) := HW.out.keepB HA3.out (Nat.le_refl _)
    have HI3 : Hid (IntsAt S3 a zs) := HI.out.keepB (((show Below w1.heap.size w1 w2 from HB12.out).trans (HX.out.mono HB12.out.size)).trans (HA3.out.mono (Nat.le_trans HB12.out.size HX.out.size))) (Nat.le_refl _)
    clear hS3 r0 r1 r2
    refine (sameTf_any ag aw cg cw ⟨zs, 0, 0⟩ S3 HG3.out HW3.out (by show zs.length ≤ _; omega)).mono ?_
    rintro e w4 ⟨rfl, hb4⟩
    have HB4 := Lib.hid hb4
    obtain ⟨x0, x1, x2⟩ := HSA.out w4 hb4
    clear hb4
    go_wp2_with fail
    refine (ptv_as true ag cg ⟨zs, 0, 0⟩ w4 (HG3.out.keepB HB4.out (Nat.le_refl _)) HMX.out HT.out).mono ?_
    rintro e w5 ⟨rfl, hb5⟩
    have HB5 := Lib.hid (HB4.out.trans (hb5.mono HB4.out.size))
    clear hb5 x0 x1 x2
    obtain ⟨x0, x1, x2⟩ := HSA.out w5 HB5.out
    go_wp2_with fail
    refine (sameI_any ag a _ cg ca zs w5 (HG3.out.keepB HB5.out (Nat.le_refl _)) (HI3.out.keepB HB5.out (Nat.le_refl _)) rfl (by omega)).mono ?_
    rintro e w6 ⟨rfl, hs6⟩
    have HB6 : Hid (Below S3.heap.size S3 w6) := HB5.out.trans (hs6.below _)
    clear hs6 x0 x1 x2
    go_wp2
    go_ret
    exact ⟨rfl, HB3.out.trans (HB6.out.mono HB3.out.size)⟩

set_option maxHeartbeats 2000000 in
theorem transferValid (s : Option Addr) (len cap : Nat) (z : List Int) (w : World) (h : RowIn .u8 w s len cap z) :
    Calls Try.prog 14 #[.slice s len cap] w fun e w' => e = .returned (.bool true) ∧ Below w.heap.size w w' := by
  have hb := bytes_of_row h
  have hm : len ≤ maxLen := Nat.le_trans hb.1 hb.2.1
  unfold maxLen at hm
  clear h
  by_cases hl : 1048576 < len
  · go_enter Try.func14, Try.ntmps14
    go_wp2
    go_ret
    exact ⟨rfl, Below.refl _ _⟩
  have HY := Lib.hid hb
  clear hb
  go_enter Try.func14, Try.ntmps14
  go_wp2_with fail
  refine (drawTransferValid s len cap w HY.out).mono ?_
  rintro e w1 ⟨a, ca, t, rfl, hi, hzl, hzc, hn, hk, hb1⟩
  have hmx : t.items.length ≤ maxLen := by unfold maxLen; omega
  have HMX := Lib.hid hmx
  have HB1 := Lib.hid hb1
  have HI1 := Lib.hid hi.ints
  obtain ⟨n0, n1⟩ := hn
  obtain ⟨k0, k1⟩ := hk
  clear hi hb1 hmx
  go_wp2_with fail
  obtain ⟨S1, hS1⟩ : ∃ S1, S1 = w1.alloc (.cells #[.slice a t.items.length ca, .int .i64 t.nxt, .int .i64 t.ack] 24) := ⟨_, rfl⟩
  rw [← hS1]
  have HB2 : Hid (Below w.heap.size w S1) := by show Below _ _ _; rw [hS1]; exact HB1.out.alloc HB1.out.size _
  have hst : StTf S1 w1.heap.size a ca t := by rw [hS1]; exact st_new
  have HST : Hid (∀ w', Below S1.heap.size S1 w' → StTf w' w1.heap.size a ca t) := fun w' hb => st_keep hst (hb.block _ (by rw [hS1]; simp))
  have HI2 : Hid (IntsAt S1 a t.items) := by show IntsAt _ _ _; rw [hS1]; exact HI1.out.keepB ((Below.refl _ _).alloc (Nat.le_refl _) _) (Nat.le_refl _)
  clear hS1 hst
  cases hv : tfB t
  · have HV := Lib.hid hv
    clear hv
    refine (ptv_as false a ca t S1 HI2.out HMX.out HV.out).mono ?_
    rintro e w2 ⟨rfl, hb2⟩
    have HB3 := Lib.hid hb2
    obtain ⟨x0, x1, x2⟩ := HST.out w2 hb2
    clear hb2
    go_wp2_with fail
    refine (stv_as false a ca t w2 (HI2.out.keepB HB3.out (Nat.le_refl _)) HMX.out HV.out).mono ?_
    rintro e w3 ⟨rfl, hb3⟩
    have HB4 := Lib.hid (HB3.out.trans (hb3.mono HB3.out.size))
    have q1 : (false != false) = false := rfl
    have q2 : (false == false) = true := rfl
    clear hb3 x0 x1 x2
    go_wp2
    go_ret
    exact ⟨rfl, HB2.out.trans (HB4.out.mono HB2.out.size)⟩
  · have HV := Lib.hid hv
    obtain ⟨j1, ⟨j2, j3⟩, j4, j5⟩ := (tfB_iff t).1 hv
    have j6 : (t.items.length : Int) ≤ 20 := by have := items_len j1; omega
    clear hv j1
    refine (ptv_as true a ca t S1 HI2.out HMX.out HV.out).mono ?_
    rintro e w2 ⟨rfl, hb2⟩
    have HB3 := Lib.hid hb2
    obtain ⟨x0, x1, x2⟩ := HST.out w2 hb2
    clear hb2
    go_wp2_with fail
    refine (stv_as true a ca t w2 (HI2.out.keepB HB3.out (Nat.le_refl _)) HMX.out HV.out).mono ?_
    rintro e w3 ⟨rfl, hb3⟩
    have HB4 := Lib.hid (HB3.out.trans (hb3.mono HB3.out.size))
    have q1 : (true != true) = false := rfl
    clear hb3 x0 x1 x2
    obtain ⟨x0, x1, x2⟩ := HST.out w3 HB4.out
    go_wp2
    go_ret
    exact ⟨rfl, HB2.out.trans (HB4.out.mono HB2.out.size)⟩

set_option maxHeartbeats 2000000 in
theorem transferResume (s : Option Addr) (len cap : Nat) (z : List Int) (w : World) (h : RowIn .u8 w s len cap z) :
    Calls Try.prog 10 #[.slice s len cap] w fun e w' => e = .returned (.bool true) ∧ Below w.heap.size w w' := by
  have hb := bytes_of_row h
  have hm : len ≤ maxLen := Nat.le_trans hb.1 hb.2.1
  unfold maxLen at hm
  clear h
  by_cases hl : 1048576 < len
  · go_enter Try.func10, Try.ntmps10
    go_wp2
    go_ret
    exact ⟨rfl, Below.refl _ _⟩
  have HY := Lib.hid hb
  clear hb
  go_enter Try.func10, Try.ntmps10
  go_wp2_with fail
  refine (drawTransferResume s len cap w HY.out).mono ?_
  rintro e w1 ⟨a, ca, t, rfl, hi, hzl, hzc, hn, hk, hb1⟩
  have hmx : t.items.length ≤ maxLen := by unfold maxLen; omega
  have HMX := Lib.hid hmx
  have HB1 := Lib.hid hb1
  have HI1 := Lib.hid hi.ints
  clear hi hb1 hmx hn hk
  obtain ⟨R, hR⟩ : ∃ R, R = resT t := ⟨_, rfl⟩
  have hRl : R.items.length ≤ 20 := by rw [hR]; exact res_len t
  have HP : Hid (∀ w, IntsAt w a t.items → Calls Try.prog 30 #[.agg #[.slice a t.items.length ca, .int .i64 t.nxt, .int .i64 t.ack]] w (NewTf R w)) := fun w h => by rw [hR]; exact pres_any a ca t w h HMX.out
  have HQ : Hid (∀ w, IntsAt w a t.items → Calls Try.prog 29 #[.agg #[.slice a t.items.length ca, .int .i64 t.nxt, .int .i64 t.ack]] w (NewTf R w)) := fun w h => by rw [hR]; exact sres_any a ca t w h HMX.out
  have HY2 : Hid (tfB t = true → R = ⟨t.items, t.ack, t.ack⟩ ∧ resT R = R) := fun h => by
    obtain ⟨e, ht⟩ := res_mk h
    have e2 := (res_mk ht).1
    rw [hR]
    refine ⟨e, ?_⟩
    rw [e2, e]
  have HRS : Hid (∀ w x cx, IntsAt w x R.items → Calls Try.prog 30 #[.agg #[.slice x R.items.length cx, .int .i64 R.nxt, .int .i64 R.ack]] w (NewTf (resT R) w)) := fun w x cx h => pres_any x cx R w h (by unfold maxLen; omega)
  clear hR
  go_wp2_with fail
  obtain ⟨S1, hS1⟩ : ∃ S1, S1 = w1.alloc (.cells #[.slice a t.items.length ca, .int .i64 t.nxt, .int .i64 t.ack] 24) := ⟨_, rfl⟩
  rw [← hS1]
  have HB2 : Hid (Below w.heap.size w S1) := by show Below _ _ _; rw [hS1]; exact HB1.out.alloc HB1.out.size _
  have hst : StTf S1 w1.heap.size a ca t := by rw [hS1]; exact st_new
  have HST : Hid (∀ w', Below S1.heap.size S1 w' → StTf w' w1.heap.size a ca t) := fun w' hb => st_keep hst (hb.block _ (by rw [hS1]; simp))
  have HI2 : Hid (IntsAt S1 a t.items) := by show IntsAt _ _ _; rw [hS1]; exact HI1.out.keepB ((Below.refl _ _).alloc (Nat.le_refl _) _) (Nat.le_refl _)
  have HBZ : Hid (w1.heap.size < S1.heap.size) := by show _ < _; rw [hS1]; simp
  clear hS1 hst
  refine (HP.out S1 HI2.out).mono ?_
  rintro e w2 ⟨ag, cg, rfl, hog, hb2⟩
  have HG := Lib.hid (own_ints hog)
  have HB3 := Lib.hid hb2
  have HA2 : Hid (∀ o, Below S1.heap.size S1 (w2.alloc o)) := fun o => hb2.alloc hb2.size o
  have r0 : ∀ o, (w2.alloc o).cell? ⟨w1.heap.size, 0, none⟩ = some (.slice a t.items.length ca) := fun o => (HST.out _ (HA2.out o)).1
  have r1 : ∀ o, (w2.alloc o).cell? ⟨w1.heap.size, 1, none⟩ = some (.int .i64 t.nxt) := fun o => (HST.out _ (HA2.out o)).2.1
  have r2 : ∀ o, (w2.alloc o).cell? ⟨w1.heap.size, 2, none⟩ = some (.int .i64 t.ack) := fun o => (HST.out _ (HA2.out o)).2.2
  clear hog hb2
  go_wp2_with fail
  obtain ⟨S2, hS2⟩ : ∃ S2, S2 = w2.alloc (.cells #[.slice ag R.items.length cg, .int .i64 R.nxt, .int .i64 R.ack] 24) := ⟨_, rfl⟩
  rw [← hS2]
  have HK2 : Hid (Below S1.heap.size S1 S2) := by show Below _ _ _; rw [hS2]; exact HA2.out _
  have hsg : StTf S2 w2.heap.size ag cg R := by rw [hS2]; exact st_new
  have HSG : Hid (∀ w', Below S2.heap.size S2 w' → StTf w' w2.heap.size ag cg R) := fun w' hb => st_keep hsg (hb.block _ (by rw [hS2]; simp))
  have HG2 : Hid (IntsAt S2 ag R.items) := by show IntsAt _ _ _; rw [hS2]; exact HG.out.keepB ((Below.refl _ _).alloc (Nat.le_refl _) _) (Nat.le_refl _)
  clear hS2 hsg r0 r1 r2
  refine (HQ.out S2 (HI2.out.keepB HK2.out (Nat.le_refl _))).mono ?_
  rintro e w3 ⟨aw, cw, rfl, how, hb3⟩
  have HW := Lib.hid (own_ints how)
  have HA3 : Hid (∀ o, Below S2.heap.size S2 (w3.alloc o)) := fun o => hb3.alloc hb3.size o
  have r0 : ∀ o, (w3.alloc o).cell? ⟨w2.heap.size, 0, none⟩ = some (.slice ag R.items.length cg) := fun o => (HSG.out _ (HA3.out o)).1
  have r1 : ∀ o, (w3.alloc o).cell? ⟨w2.heap.size, 1, none⟩ = some (.int .i64 R.nxt) := fun o => (HSG.out _ (HA3.out o)).2.1
  have r2 : ∀ o, (w3.alloc o).cell? ⟨w2.heap.size, 2, none⟩ = some (.int .i64 R.ack) := fun o => (HSG.out _ (HA3.out o)).2.2
  clear how hb3
  go_wp2_with fail
  obtain ⟨S3, hS3⟩ : ∃ S3, S3 = w3.alloc (.cells #[.slice aw R.items.length cw, .int .i64 R.nxt, .int .i64 R.ack] 24) := ⟨_, rfl⟩
  rw [← hS3]
  have HK3 : Hid (Below S2.heap.size S2 S3) := by show Below _ _ _; rw [hS3]; exact HA3.out _
  have HZ3 : Hid (w3.heap.size < S3.heap.size) := by show _ < _; rw [hS3]; simp
  have hsw : StTf S3 w3.heap.size aw cw R := by rw [hS3]; exact st_new
  have HSW : Hid (∀ w', Below S3.heap.size S3 w' → StTf w' w3.heap.size aw cw R) := fun w' hb => st_keep hsw (hb.block _ HZ3.out)
  have HW3 : Hid (IntsAt S3 aw R.items) := by show IntsAt _ _ _; rw [hS3]; exact HW.out.keepB ((Below.refl _ _).alloc (Nat.le_refl _) _) (Nat.le_refl _)
  have HS13 : Hid (Below S1.heap.size S1 S3) := HK2.out.trans (HK3.out.mono HK2.out.size)
  clear hS3 hsw r0 r1 r2
  have HG3 : Hid (∀ w', Below S3.heap.size S3 w' → IntsAt w' ag R.items) := fun w' hb => (HG2.out.keepB HK3.out (Nat.le_refl _)).keepB hb (Nat.le_refl _)
  have HC1 : Hid (∀ w', Below S3.heap.size S3 w' → StTf w' w1.heap.size a ca t) := fun w' hb => HST.out w' (HS13.out.trans (hb.mono HS13.out.size))
  have HC2 : Hid (∀ w', Below S3.heap.size S3 w' → StTf w' w2.heap.size ag cg R) := fun w' hb => HSG.out w' (HK3.out.trans (hb.mono HK3.out.size))
  have HI3 : Hid (∀ w', Below S3.heap.size S3 w' → IntsAt w' a t.items) := fun w' hb => HI2.out.keepB (HS13.out.trans (hb.mono HS13.out.size)) (Nat.le_refl _)
  have HE : Hid (∀ w', Below S3.heap.size S3 w' → Below w.heap.size w w') := fun w' hb => HB2.out.trans ((HS13.out.trans (hb.mono HS13.out.size)).mono HB2.out.size)
  refine (sameTf_any ag aw cg cw R S3 (HG3.out S3 (Below.refl _ _)) HW3.out (by omega)).mono ?_
  rintro e w4 ⟨rfl, hb4⟩
  have HB4 := Lib.hid hb4
  obtain ⟨x0, x1, x2⟩ := HC1.out w4 hb4
  clear hb4
  cases hv : tfB t
  · have HV := Lib.hid hv
    clear hv
    go_wp2_with fail
    refine (stv_as false a ca t w4 (HI3.out w4 HB4.out) HMX.out HV.out).mono ?_
    rintro e w5 ⟨rfl, hb5⟩
    have HB5 := Lib.hid (HB4.out.trans (hb5.mono HB4.out.size))
    clear hb5 x0 x1 x2
    obtain ⟨x0, x1, x2⟩ := HC2.out w5 HB5.out
    obtain ⟨y0, y1, y2⟩ := HSW.out w5 HB5.out
    go_wp2_with fail
    refine (sameTf_any ag aw cg cw R w5 (HG3.out w5 HB5.out) (HW3.out.keepB HB5.out (Nat.le_refl _)) (by omega)).mono ?_
    rintro e w6 ⟨rfl, hb6⟩
    have HB6 := Lib.hid (HB5.out.trans (hb6.mono HB5.out.size))
    clear hb6 x0 x1 x2 y0 y1 y2
    go_wp2
    go_ret
    exact ⟨rfl, HE.out _ HB6.out⟩
  · have HV := Lib.hid hv
    obtain ⟨rfl, hRR⟩ := HY2.out hv
    have HRR := Lib.hid hRR
    clear hv hRR
    go_wp2_with fail
    refine (stv_as true a ca t w4 (HI3.out w4 HB4.out) HMX.out HV.out).mono ?_
    rintro e w5 ⟨rfl, hb5⟩
    have HB5 := Lib.hid (HB4.out.trans (hb5.mono HB4.out.size))
    clear hb5 x0 x1 x2
    obtain ⟨x0, x1, x2⟩ := HC1.out w5 HB5.out
    have HK5 : Hid (∀ o, Below S3.heap.size S3 (w5.alloc o)) := fun o => HB5.out.alloc HB5.out.size o
    have z5 : w1.heap.size < w5.heap.size := by
      have h1 := HB5.out.size; have h2 := HS13.out.size; have h3 := HBZ.out; omega
    have r0 : ∀ o, (w5.alloc o).cell? ⟨w1.heap.size, 0, none⟩ = some (.slice a t.items.length ca) := fun o => (HC1.out _ (HK5.out o)).1
    have r1 : ∀ o, (w5.alloc o).cell? ⟨w1.heap.size, 1, none⟩ = some (.int .i64 t.nxt) := fun o => (HC1.out _ (HK5.out o)).2.1
    have r2 : ∀ o, (w5.alloc o).cell? ⟨w1.heap.size, 2, none⟩ = some (.int .i64 t.ack) := fun o => (HC1.out _ (HK5.out o)).2.2
    go_wp2_with fail
    obtain ⟨S5, hS5⟩ : ∃ S5, S5 = w5.alloc (.cells #[.slice a t.items.length ca, .int .i64 t.ack, .int .i64 t.ack] 24) := ⟨_, rfl⟩
    rw [← hS5]
    have HL5 : Hid (Below S3.heap.size S3 S5) := by show Below _ _ _; rw [hS5]; exact HK5.out _
    have hz5 : w5.heap.size < S5.heap.size := by rw [hS5]; simp
    have hsx : StTf S5 w5.heap.size a ca ⟨t.items, t.ack, t.ack⟩ := by rw [hS5]; exact st_new (t := ⟨t.items, t.ack, t.ack⟩)
    have HT : Hid (∀ w', Below S5.heap.size S5 w' → Below S3.heap.size S3 w') := fun w' hb => HL5.out.trans (hb.mono HL5.out.size)
    have HSK : Hid (∀ w', Below S5.heap.size S5 w' → w'.cell? ⟨w2.heap.size, 0, none⟩ = some (.slice ag t.items.length cg) ∧ w'.cell? ⟨w2.heap.size, 1, none⟩ = some (.int .i64 t.ack) ∧ w'.cell? ⟨w2.heap.size, 2, none⟩ = some (.int .i64 t.ack) ∧ w'.cell? ⟨w5.heap.size, 0, none⟩ = some (.slice a t.items.length ca) ∧ w'.cell? ⟨w5.heap.size, 1, none⟩ = some (.int .i64 t.ack) ∧ w'.cell? ⟨w5.heap.size, 2, none⟩ = some (.int .i64 t.ack)) := fun w' hb => by
      have k1 := st_keep hsx (hb.block _ hz5)
      have k2 := HC2.out w' (HT.out w' hb)
      exact ⟨k2.1, k2.2.1, k2.2.2, k1.1, k1.2.1, k1.2.2⟩
    have HSA : Hid (∀ w', Below S5.heap.size S5 w' → Calls Try.prog 39 #[.agg #[.slice ag t.items.length cg, .int .i64 t.ack, .int .i64 t.ack], .agg #[.slice a t.items.length ca, .int .i64 t.ack, .int .i64 t.ack]] w' fun e w'' => e = .returned (.bool true) ∧ Below w'.heap.size w' w'') := fun w' hb =>
      sameTf_any ag a cg ca ⟨t.items, t.ack, t.ack⟩ w' (HG3.out w' (HT.out w' hb)) (HI3.out w' (HT.out w' hb)) (by show t.items.length ≤ _; omega)
    have HSB : Hid (∀ x cx w', Below S5.heap.size S5 w' → IntsAt w' x t.items → Calls Try.prog 39 #[.agg #[.slice x t.items.length cx, .int .i64 t.ack, .int .i64 t.ack], .agg #[.slice ag t.items.length cg, .int .i64 t.ack, .int .i64 t.ack]] w' fun e w'' => e = .returned (.bool true) ∧ Below w'.heap.size w' w'') := fun x cx w' hb hi =>
      sameTf_any x ag cx cg ⟨t.items, t.ack, t.ack⟩ w' hi (HG3.out w' (HT.out w' hb)) (by show t.items.length ≤ _; omega)
    have HSR : Hid (∀ w', Below S5.heap.size S5 w' → Calls Try.prog 30 #[.agg #[.slice ag t.items.length cg, .int .i64 t.ack, .int .i64 t.ack]] w' fun e w'' => ∃ x cx, e = .returned (.agg #[.slice x t.items.length cx, .int .i64 t.ack, .int .i64 t.ack]) ∧ IntsAt w'' x t.items ∧ Below w'.heap.size w' w'') := fun w' hb => by
      refine (HRS.out w' ag cg (HG3.out w' (HT.out w' hb))).mono ?_
      rw [HRR.out]
      rintro e w'' ⟨x, cx, he, ho, hb2⟩
      exact ⟨x, cx, he, own_ints ho, hb2⟩
    have HB0 : Hid (Below S5.heap.size S5 S5.drew) := (Below.refl _ _).drew
    have HE5 : Hid (∀ w', Below S5.heap.size S5 w' → Below w.heap.size w w') := fun w' hb => HE.out w' (HT.out w' hb)
    obtain ⟨d0, d1, d2, d3, d4, d5⟩ := HSK.out S5 (Below.refl _ _)
    clear hS5 hsx hz5 x0 x1 x2 r0 r1 r2 z5
    go_region_held3 (fun w' => w'.cell? ⟨w2.heap.size, 0, none⟩ = some (.slice ag t.items.length cg) ∧ w'.cell? ⟨w2.heap.size, 1, none⟩ = some (.int .i64 t.ack) ∧ w'.cell? ⟨w2.heap.size, 2, none⟩ = some (.int .i64 t.ack) ∧ w'.cell? ⟨w5.heap.size, 0, none⟩ = some (.slice a t.items.length ca) ∧ w'.cell? ⟨w5.heap.size, 1, none⟩ = some (.int .i64 t.ack) ∧ w'.cell? ⟨w5.heap.size, 2, none⟩ = some (.int .i64 t.ack)) (first | (with_reducible exact HSK.out _ (HB0.out)) | (with_reducible exact HSK.out _ (HB6.out)) | (with_reducible exact HSK.out _ (HB7.out)) | (with_reducible exact HSK.out _ (HB8.out))) (first | (go_at_call 39; ((with_reducible refine (HSA.out _ HB0.out).mono ?_); rintro e w6 ⟨rfl, hb6⟩); have HB6 := Lib.hid (HB0.out.trans (hb6.mono HB0.out.size)); clear hb6) | (go_at_call 30; ((with_reducible refine (HSR.out _ HB6.out).mono ?_); rintro e w7 ⟨x, cx, rfl, hx, hb7⟩); have HB7 := Lib.hid (HB6.out.trans (hb7.mono HB6.out.size)); have HXX := Lib.hid hx; clear hb7 hx) | (go_at_call 39; ((with_reducible refine (HSB.out _ _ _ HB7.out HXX.out).mono ?_); rintro e w8 ⟨rfl, hb8⟩); have HB8 := Lib.hid (HB7.out.trans (hb8.mono HB7.out.size)); clear hb8))
    clear d0 d1 d2 d3 d4 d5
    go_wp2
    go_ret
    exact ⟨rfl, HE5.out _ HB8.out⟩

set_option maxHeartbeats 2000000 in
theorem transferAck (s : Option Addr) (len cap : Nat) (z : List Int) (w : World) (h : RowIn .u8 w s len cap z) :
    Calls Try.prog 9 #[.slice s len cap] w fun e w' => e = .returned (.bool true) ∧ Below w.heap.size w w' := by
  have hb := bytes_of_row h
  have hm : len ≤ maxLen := Nat.le_trans hb.1 hb.2.1
  unfold maxLen at hm
  clear h
  by_cases hl : 1048576 < len
  · go_enter Try.func9, Try.ntmps9
    go_wp2
    go_ret
    exact ⟨rfl, Below.refl _ _⟩
  have HY := Lib.hid hb
  clear hb
  go_enter Try.func9, Try.ntmps9
  go_wp2_with fail
  refine (drawTransferAck s len cap w HY.out).mono ?_
  rintro e w1 ⟨a, ca, t, n, rfl, hi, hzl, hzc, hn, hk, hnn, hb1⟩
  have hmx : t.items.length ≤ maxLen := by unfold maxLen; omega
  have HMX := Lib.hid hmx
  have HB1 := Lib.hid hb1
  have HI1 := Lib.hid hi.ints
  clear hi hb1 hmx hn hk hnn
  obtain ⟨R, hR⟩ : ∃ R, R = ackT t n := ⟨_, rfl⟩
  obtain ⟨V, hV⟩ : ∃ V, V = ackB t n := ⟨_, rfl⟩
  have hVV : (V != V) = false := by cases V <;> rfl
  have hVW : (V == V) = true := by cases V <;> rfl
  have hRl : R.items.length ≤ 20 := by rw [hR]; exact ack_len t n
  have HP : Hid (∀ w, IntsAt w a t.items → Calls Try.prog 28 #[.agg #[.slice a t.items.length ca, .int .i64 t.nxt, .int .i64 t.ack], .int .i64 n] w (NewTfB R V w)) := fun w h => by rw [hR, hV]; exact pack_any a ca t n w h HMX.out
  have HQ : Hid (∀ w, IntsAt w a t.items → Calls Try.prog 27 #[.agg #[.slice a t.items.length ca, .int .i64 t.nxt, .int .i64 t.ack], .int .i64 n] w (NewTfB R V w)) := fun w h => by rw [hR, hV]; exact sack_any a ca t n w h HMX.out
  have HY2 : Hid (tfB t = true → 0 ≤ n → n ≤ t.nxt → R = ⟨t.items, t.nxt, max t.ack n⟩ ∧ tfB R = true ∧ (V == decide (t.ack ≤ n)) = true) := fun h h1 h2 => by
    obtain ⟨e, ht, hb⟩ := ack_mk h ⟨h1, h2⟩
    rw [hR, hV]
    refine ⟨e, ht, ?_⟩
    rw [hb]; cases decide (t.ack ≤ n) <;> rfl
  clear hR hV
  go_wp2_with fail
  obtain ⟨S1, hS1⟩ : ∃ S1, S1 = w1.alloc (.cells #[.slice a t.items.length ca, .int .i64 t.nxt, .int .i64 t.ack] 24) := ⟨_, rfl⟩
  rw [← hS1]
  have HB2 : Hid (Below w.heap.size w S1) := by show Below _ _ _; rw [hS1]; exact HB1.out.alloc HB1.out.size _
  have hst : StTf S1 w1.heap.size a ca t := by rw [hS1]; exact st_new
  have HST : Hid (∀ w', Below S1.heap.size S1 w' → StTf w' w1.heap.size a ca t) := fun w' hb => st_keep hst (hb.block _ (by rw [hS1]; simp))
  have HI2 : Hid (IntsAt S1 a t.items) := by show IntsAt _ _ _; rw [hS1]; exact HI1.out.keepB ((Below.refl _ _).alloc (Nat.le_refl _) _) (Nat.le_refl _)
  have HBZ : Hid (w1.heap.size < S1.heap.size) := by show _ < _; rw [hS1]; simp
  clear hS1 hst
  refine (HP.out S1 HI2.out).mono ?_
  rintro e w2 ⟨ag, cg, rfl, hog, hb2⟩
  have HG := Lib.hid (own_ints hog)
  have HB3 := Lib.hid hb2
  have HA2 : Hid (∀ o, Below S1.heap.size S1 (w2.alloc o)) := fun o => hb2.alloc hb2.size o
  have r0 : ∀ o, (w2.alloc o).cell? ⟨w1.heap.size, 0, none⟩ = some (.slice a t.items.length ca) := fun o => (HST.out _ (HA2.out o)).1
  have r1 : ∀ o, (w2.alloc o).cell? ⟨w1.heap.size, 1, none⟩ = some (.int .i64 t.nxt) := fun o => (HST.out _ (HA2.out o)).2.1
  have r2 : ∀ o, (w2.alloc o).cell? ⟨w1.heap.size, 2, none⟩ = some (.int .i64 t.ack) := fun o => (HST.out _ (HA2.out o)).2.2
  clear hog hb2
  go_wp2_with fail
  obtain ⟨S2, hS2⟩ : ∃ S2, S2 = w2.alloc (.cells #[.slice ag R.items.length cg, .int .i64 R.nxt, .int .i64 R.ack] 24) := ⟨_, rfl⟩
  rw [← hS2]
  have HK2 : Hid (Below S1.heap.size S1 S2) := by show Below _ _ _; rw [hS2]; exact HA2.out _
  have hsg : StTf S2 w2.heap.size ag cg R := by rw [hS2]; exact st_new
  have HSG : Hid (∀ w', Below S2.heap.size S2 w' → StTf w' w2.heap.size ag cg R) := fun w' hb => st_keep hsg (hb.block _ (by rw [hS2]; simp))
  have HG2 : Hid (IntsAt S2 ag R.items) := by show IntsAt _ _ _; rw [hS2]; exact HG.out.keepB ((Below.refl _ _).alloc (Nat.le_refl _) _) (Nat.le_refl _)
  have HBY : Hid (w2.heap.size < S2.heap.size) := by show _ < _; rw [hS2]; simp
  clear hS2 hsg r0 r1 r2
  refine (HQ.out S2 (HI2.out.keepB HK2.out (Nat.le_refl _))).mono ?_
  rintro e w3 ⟨aw, cw, rfl, how, hb3⟩
  have HW := Lib.hid (own_ints how)
  have HA3 : Hid (∀ o, Below S2.heap.size S2 (w3.alloc o)) := fun o => hb3.alloc hb3.size o
  have r0 : ∀ o, (w3.alloc o).cell? ⟨w2.heap.size, 0, none⟩ = some (.slice ag R.items.length cg) := fun o => (HSG.out _ (HA3.out o)).1
  have r1 : ∀ o, (w3.alloc o).cell? ⟨w2.heap.size, 1, none⟩ = some (.int .i64 R.nxt) := fun o => (HSG.out _ (HA3.out o)).2.1
  have r2 : ∀ o, (w3.alloc o).cell? ⟨w2.heap.size, 2, none⟩ = some (.int .i64 R.ack) := fun o => (HSG.out _ (HA3.out o)).2.2
  clear how hb3
  go_wp2_with fail
  obtain ⟨S3, hS3⟩ : ∃ S3, S3 = w3.alloc (.cells #[.slice aw R.items.length cw, .int .i64 R.nxt, .int .i64 R.ack] 24) := ⟨_, rfl⟩
  rw [← hS3]
  have HK3 : Hid (Below S2.heap.size S2 S3) := by show Below _ _ _; rw [hS3]; exact HA3.out _
  have HZ3 : Hid (w3.heap.size < S3.heap.size) := by show _ < _; rw [hS3]; simp
  have hsw : StTf S3 w3.heap.size aw cw R := by rw [hS3]; exact st_new
  have HSW : Hid (∀ w', Below S3.heap.size S3 w' → StTf w' w3.heap.size aw cw R) := fun w' hb => st_keep hsw (hb.block _ HZ3.out)
  have HW3 : Hid (IntsAt S3 aw R.items) := by show IntsAt _ _ _; rw [hS3]; exact HW.out.keepB ((Below.refl _ _).alloc (Nat.le_refl _) _) (Nat.le_refl _)
  have HS13 : Hid (Below S1.heap.size S1 S3) := HK2.out.trans (HK3.out.mono HK2.out.size)
  clear hS3 hsw r0 r1 r2
  have HG3 : Hid (∀ w', Below S3.heap.size S3 w' → IntsAt w' ag R.items) := fun w' hb => (HG2.out.keepB HK3.out (Nat.le_refl _)).keepB hb (Nat.le_refl _)
  have HC1 : Hid (∀ w', Below S3.heap.size S3 w' → StTf w' w1.heap.size a ca t) := fun w' hb => HST.out w' (HS13.out.trans (hb.mono HS13.out.size))
  have HC2 : Hid (∀ w', Below S3.heap.size S3 w' → StTf w' w2.heap.size ag cg R) := fun w' hb => HSG.out w' (HK3.out.trans (hb.mono HK3.out.size))
  have HI3 : Hid (∀ w', Below S3.heap.size S3 w' → IntsAt w' a t.items) := fun w' hb => HI2.out.keepB (HS13.out.trans (hb.mono HS13.out.size)) (Nat.le_refl _)
  have HE : Hid (∀ w', Below S3.heap.size S3 w' → Below w.heap.size w w') := fun w' hb => HB2.out.trans ((HS13.out.trans (hb.mono HS13.out.size)).mono HB2.out.size)
  refine (sameTf_any ag aw cg cw R S3 (HG3.out S3 (Below.refl _ _)) HW3.out (by omega)).mono ?_
  rintro e w4 ⟨rfl, hb4⟩
  have HB4 := Lib.hid hb4
  obtain ⟨x0, x1, x2⟩ := HC1.out w4 hb4
  clear hb4
  rcases (show tfB t = false ∨ (tfB t = true ∧ n < 0) ∨ (tfB t = true ∧ 0 ≤ n ∧ t.nxt < n) ∨ (tfB t = true ∧ 0 ≤ n ∧ n ≤ t.nxt) by
    cases tfB t
    · exact .inl rfl
    · simp; omega) with hv | ⟨hv, hn⟩ | ⟨hv, hn0, hn⟩ | ⟨hv, hn0, hn⟩
  · have HV := Lib.hid hv
    clear hv
    go_wp2_with fail
    refine (stv_as false a ca t w4 (HI3.out w4 HB4.out) HMX.out HV.out).mono ?_
    rintro e w5 ⟨rfl, hb5⟩
    have HB5 := Lib.hid (HB4.out.trans (hb5.mono HB4.out.size))
    clear hb5 x0 x1 x2
    obtain ⟨k0, k1, k2⟩ := HC1.out w5 HB5.out
    obtain ⟨x0, x1, x2⟩ := HC2.out w5 HB5.out
    obtain ⟨y0, y1, y2⟩ := HSW.out w5 HB5.out
    go_wp2_with fail
    refine (sameTf_any ag aw cg cw R w5 (HG3.out w5 HB5.out) (HW3.out.keepB HB5.out (Nat.le_refl _)) (by omega)).mono ?_
    rintro e w6 ⟨rfl, hb6⟩
    have HB6 := Lib.hid (HB5.out.trans (hb6.mono HB5.out.size))
    clear hb6 x0 x1 x2 y0 y1 y2
    go_wp2
    go_ret
    exact ⟨rfl, HE.out _ HB6.out⟩
  · have HV := Lib.hid hv
    clear hv
    go_wp2_with fail
    refine (stv_as true a ca t w4 (HI3.out w4 HB4.out) HMX.out HV.out).mono ?_
    rintro e w5 ⟨rfl, hb5⟩
    have HB5 := Lib.hid (HB4.out.trans (hb5.mono HB4.out.size))
    clear hb5 x0 x1 x2
    obtain ⟨k0, k1, k2⟩ := HC1.out w5 HB5.out
    obtain ⟨x0, x1, x2⟩ := HC2.out w5 HB5.out
    obtain ⟨y0, y1, y2⟩ := HSW.out w5 HB5.out
    go_wp2_with fail
    refine (sameTf_any ag aw cg cw R w5 (HG3.out w5 HB5.out) (HW3.out.keepB HB5.out (Nat.le_refl _)) (by omega)).mono ?_
    rintro e w6 ⟨rfl, hb6⟩
    have HB6 := Lib.hid (HB5.out.trans (hb6.mono HB5.out.size))
    clear hb6 x0 x1 x2 y0 y1 y2
    go_wp2
    go_ret
    exact ⟨rfl, HE.out _ HB6.out⟩
  · have HV := Lib.hid hv
    clear hv
    have hn0' : ¬ n < 0 := by omega
    go_wp2_with fail
    refine (stv_as true a ca t w4 (HI3.out w4 HB4.out) HMX.out HV.out).mono ?_
    rintro e w5 ⟨rfl, hb5⟩
    have HB5 := Lib.hid (HB4.out.trans (hb5.mono HB4.out.size))
    clear hb5 x0 x1 x2
    obtain ⟨k0, k1, k2⟩ := HC1.out w5 HB5.out
    obtain ⟨x0, x1, x2⟩ := HC2.out w5 HB5.out
    obtain ⟨y0, y1, y2⟩ := HSW.out w5 HB5.out
    go_wp2_with fail
    refine (sameTf_any ag aw cg cw R w5 (HG3.out w5 HB5.out) (HW3.out.keepB HB5.out (Nat.le_refl _)) (by omega)).mono ?_
    rintro e w6 ⟨rfl, hb6⟩
    have HB6 := Lib.hid (HB5.out.trans (hb6.mono HB5.out.size))
    clear hb6 x0 x1 x2 y0 y1 y2
    go_wp2
    go_ret
    exact ⟨rfl, HE.out _ HB6.out⟩
  · have HV := Lib.hid hv
    obtain ⟨rfl, ht, hq⟩ := HY2.out hv hn0 hn
    have HTT := Lib.hid ht
    have hn0' : ¬ n < 0 := by omega
    have hn' : ¬ t.nxt < n := by omega
    clear hv ht
    go_wp2_with fail
    refine (stv_as true a ca t w4 (HI3.out w4 HB4.out) HMX.out HV.out).mono ?_
    rintro e w5 ⟨rfl, hb5⟩
    have HB5 := Lib.hid (HB4.out.trans (hb5.mono HB4.out.size))
    clear hb5 x0 x1 x2
    obtain ⟨x0, x1, x2⟩ := HC1.out w5 HB5.out
    have HK5 : Hid (∀ o, Below S3.heap.size S3 (w5.alloc o)) := fun o => HB5.out.alloc HB5.out.size o
    have z5 : w1.heap.size < w5.heap.size := by
      have h1 := HB5.out.size; have h2 := HS13.out.size; have h3 := HBZ.out; omega
    have z6 : w2.heap.size < w5.heap.size := by
      have h1 := HB5.out.size; have h2 := HK3.out.size; have h3 := HBY.out; omega
    have r0 : ∀ o, (w5.alloc o).cell? ⟨w1.heap.size, 0, none⟩ = some (.slice a t.items.length ca) := fun o => (HC1.out _ (HK5.out o)).1
    have r1 : ∀ o, (w5.alloc o).cell? ⟨w1.heap.size, 1, none⟩ = some (.int .i64 t.nxt) := fun o => (HC1.out _ (HK5.out o)).2.1
    have r2 : ∀ o, (w5.alloc o).cell? ⟨w1.heap.size, 2, none⟩ = some (.int .i64 t.ack) := fun o => (HC1.out _ (HK5.out o)).2.2
    have s0 : ∀ o, (w5.alloc o).cell? ⟨w2.heap.size, 0, none⟩ = some (.slice ag t.items.length cg) := fun o => (HC2.out _ (HK5.out o)).1
    have s1 : ∀ o, (w5.alloc o).cell? ⟨w2.heap.size, 1, none⟩ = some (.int .i64 t.nxt) := fun o => (HC2.out _ (HK5.out o)).2.1
    have s2 : ∀ o, (w5.alloc o).cell? ⟨w2.heap.size, 2, none⟩ = some (.int .i64 (max t.ack n)) := fun o => (HC2.out _ (HK5.out o)).2.2
    go_wp2_with fail
    obtain ⟨S5, hS5⟩ : ∃ S5, S5 = w5.alloc (.cells #[.slice a t.items.length ca, .int .i64 t.nxt, .int .i64 (max t.ack n)] 24) := ⟨_, rfl⟩
    rw [← hS5]
    have HL5 : Hid (Below S3.heap.size S3 S5) := by show Below _ _ _; rw [hS5]; exact HK5.out _
    have HT : Hid (∀ w', Below S5.heap.size S5 w' → Below S3.heap.size S3 w') := fun w' hb => HL5.out.trans (hb.mono HL5.out.size)
    clear hS5 r0 r1 r2 s0 s1 s2 x0 x1 x2 z5 z6
    refine (sameTf_any ag a cg ca ⟨t.items, t.nxt, max t.ack n⟩ S5 (HG3.out S5 HL5.out) (HI3.out S5 HL5.out) (by show t.items.length ≤ _; omega)).mono ?_
    rintro e w6 ⟨rfl, hb6⟩
    have HB6 := Lib.hid (HT.out _ hb6)
    obtain ⟨x0, x1, x2⟩ := HC2.out w6 HB6.out
    clear hb6
    go_wp2_with fail
    refine (ptv_as true ag cg ⟨t.items, t.nxt, max t.ack n⟩ w6 (HG3.out w6 HB6.out) HMX.out HTT.out).mono ?_
    rintro e w7 ⟨rfl, hb7⟩
    have HB7 := Lib.hid (HB6.out.trans (hb7.mono HB6.out.size))
    clear hb7 x0 x1 x2
    go_wp2
    go_ret
    exact ⟨rfl, HE.out _ HB7.out⟩
end Go.Proofs.Ytmjloobakahdgaa
