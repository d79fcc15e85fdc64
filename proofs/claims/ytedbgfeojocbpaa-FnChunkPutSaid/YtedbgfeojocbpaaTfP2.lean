/- Transfers: the program's new, resumed and acknowledged transfers; valid chunks. -/
import Derived.Test.YtedbgfeojocbpaaTfP
namespace Go.Proofs.Ytedbgfeojocbpaa
open Go.RowKit
set_option linter.unusedVariables false

attribute [local go_sem ↓] Go.wp_at_zero Go.wp_at_succ

theorem run_max2p {P : Program} (ts : Array TypeId) (t : TypeId) (k k' : IntKind) (x y : Int) (w : World) : (Builtin.max_ ts t #[.int k x, .int k' y]).run P w = .ok (.int k (max x y)) w := by
  simp [Builtin.max_, Builtin.max2]; omega
attribute [local go_sem ↓] run_max2p

set_option maxHeartbeats 1000000 in
theorem pnew_any (a : Option Addr) (len cap : Nat) (zs : List Int) (w : World) (h : IntsAt w a zs) (hz : zs.length = len) (hm : len ≤ maxLen) :
    Calls Try.prog 17 #[.slice a len cap] w (NewTfB (newT zs) (itemsB zs) w) := by
  have HI := Lib.hid h
  have HM := Lib.hid hm
  have HZ := Lib.hid hz
  clear h hm hz
  obtain ⟨W, hW⟩ : ∃ W, W = w.alloc (.cells #[.slice none 0 0, .int .i64 0, .int .i64 0] 24) := ⟨_, rfl⟩
  have hB : Below w.heap.size w W := by rw [hW]; exact (Below.refl _ _).alloc (Nat.le_refl _) _
  have hs : W.heap.size = w.heap.size + 1 := by rw [hW]; simp
  have hh : W.heap[w.heap.size]? = some (.cells #[.slice none 0 0, .int .i64 0, .int .i64 0] 24 (0, 0)) := by rw [hW]; exact heap_alloc_new w _
  have HB := Lib.hid hB
  have HW := Lib.hid hW
  have HH := Lib.hid hh
  have HS := Lib.hid hs
  clear hh hW hB hs
  rcases bcs (itemsB zs) with h1 | h1
  rotate_left
  · have HN := Lib.hid (newT_no h1)
    have H1 := Lib.hid h1
    clear h1
    obtain ⟨c0, c1, c2⟩ := cells3 HH.out
    have f0 := frozen_of_cells HH.out 0
    have f1 := frozen_of_cells HH.out 1
    have f2 := frozen_of_cells HH.out 2
    go_enter Try.func17, Try.ntmps17
    go_wp2_with fail
    rw [← HW.out]
    go_wp2_with fail
    refine (pitems_as false a len cap zs W (HI.out.keepB HB.out (Nat.le_refl _)) HZ.out HM.out H1.out).mono ?_
    rintro e w1 ⟨rfl, rfl⟩
    go_wp2
    refine bodyPost_ret (res_ct rfl _ _ w.heap.size _ #[.slice none 0 0, .int .i64 0, .int .i64 0] (0, 0) _ rfl (set3 HH.out) Try.underlying24 rfl (by kernel_rfl)) rfl ?_
    rw [HN.out, H1.out]
    exact ⟨none, 0, rfl, own_nilI _ _, below_set3 HB.out (Nat.le_refl _) _ _ _⟩
  · have HN := Lib.hid (newT_yes h1)
    have H1 := Lib.hid h1
    have hl := items_len h1
    rw [HZ.out] at hl
    clear h1
    go_enter Try.func17, Try.ntmps17
    go_wp2_with fail
    rw [← HW.out]
    go_wp2_with fail
    refine (pitems_as true a len cap zs W (HI.out.keepB HB.out (Nat.le_refl _)) HZ.out HM.out H1.out).mono ?_
    rintro e w1 ⟨rfl, rfl⟩
    go_wp2_with fail
    refine (pclone_any a len cap zs w1 (HI.out.keepB HB.out (Nat.le_refl _)) HZ.out (by omega)).mono ?_
    rintro e w2 ⟨b, cb, rfl, ho, hb2⟩
    have hz := HS.out
    have h6 := (hb2.block w.heap.size (by omega)).trans HH.out
    obtain ⟨e0, e1, e2⟩ := cells3 h6
    have g0 := frozen_of_cells h6 0
    have g1 := frozen_of_cells h6 1
    have g2 := frozen_of_cells h6 2
    have H6 := Lib.hid h6
    have HO := Lib.hid ho
    have HB2 := Lib.hid (HB.out.trans (hb2.mono (by omega)))
    clear h6 hb2 hz ho
    go_wp2
    have hz := HS.out
    refine bodyPost_ret (res_ct rfl _ _ w.heap.size _ #[.slice b zs.length cb, .int .i64 0, .int .i64 0] (0, 0) _ rfl (set3 H6.out) Try.underlying24 rfl (by kernel_rfl)) rfl ?_
    rw [HN.out, H1.out]
    refine ⟨b, cb, rfl, ?_, below_set3 HB2.out (Nat.le_refl _) _ _ _⟩
    exact (HO.out.kept (fun k h1 h2 => set3_ne (by omega))).less (by omega)

set_option maxHeartbeats 1000000 in
theorem pres_any (a : Option Addr) (cap : Nat) (t : Tf) (w : World) (h : IntsAt w a t.items) (hm : t.items.length ≤ maxLen) :
    Calls Try.prog 30 #[.agg #[.slice a t.items.length cap, .int .i64 t.nxt, .int .i64 t.ack]] w (NewTf (resT t) w) := by
  have HI := Lib.hid h
  have HM := Lib.hid hm
  clear h hm
  obtain ⟨W, hW⟩ : ∃ W, W = (w.alloc (.cells #[.slice a t.items.length cap, .int .i64 t.nxt, .int .i64 t.ack] 24)).alloc (.cells #[.slice none 0 0, .int .i64 0, .int .i64 0] 24) := ⟨_, rfl⟩
  obtain ⟨hs, hB, h1, h2⟩ := two_newT hW
  have HB := Lib.hid hB
  have HW := Lib.hid hW
  have HS := Lib.hid hs
  have H1 := Lib.hid h1
  have H2 := Lib.hid h2
  clear hW hB hs h1 h2
  obtain ⟨c0, c1, c2⟩ := cells3 H1.out
  rcases bcs (tfB t) with hv | hv
  rotate_left
  · have HV := Lib.hid hv
    clear hv
    go_enter Try.func30, Try.ntmps30
    go_wp2_with fail
    rw [← HW.out]
    go_wp2_with fail
    refine (ptv_as false a cap t W (HI.out.keepB HB.out (Nat.le_refl _)) HM.out HV.out).mono ?_
    rintro e w2 ⟨rfl, hb2⟩
    have hz := HS.out
    have h6 := (hb2.block (w.heap.size + 1) (by omega)).trans H2.out
    obtain ⟨e0, e1, e2⟩ := cells3 h6
    have g0 := frozen_of_cells h6 0
    have g1 := frozen_of_cells h6 1
    have g2 := frozen_of_cells h6 2
    have H6 := Lib.hid h6
    have HB2 := Lib.hid (HB.out.trans (hb2.mono (by omega)))
    clear h6 hb2 hz
    go_wp2
    refine bodyPost_ret (results_cell_row rfl _ _ (w.heap.size + 1) _ #[.slice none 0 0, .int .i64 0, .int .i64 0] (0, 0) _ rfl (set3 H6.out) Try.underlying24 rfl (by kernel_rfl)) rfl ?_
    rw [resT_no HV.out]
    exact ⟨none, 0, rfl, own_nilI _ _, below_set3 HB2.out (by omega) _ _ _⟩
  · have HV := Lib.hid hv
    have hl := tf_len hv
    clear hv
    go_enter Try.func30, Try.ntmps30
    go_wp2_with fail
    rw [← HW.out]
    go_wp2_with fail
    refine (ptv_as true a cap t W (HI.out.keepB HB.out (Nat.le_refl _)) HM.out HV.out).mono ?_
    rintro e w2 ⟨rfl, hb2⟩
    have hz := HS.out
    have h5 := (hb2.block w.heap.size (by omega)).trans H1.out
    have h6 := (hb2.block (w.heap.size + 1) (by omega)).trans H2.out
    obtain ⟨d0, d1, d2⟩ := cells3 h5
    have H6 := Lib.hid h6
    have HB2 := Lib.hid (HB.out.trans (hb2.mono (by omega)))
    have HZ2 := Lib.hid hb2.size
    clear h5 h6 hb2 hz c0 c1 c2
    go_wp2_with fail
    refine (pwith_any a _ t _ _ w2 (HI.out.keepB HB2.out (Nat.le_refl _)) (by omega)).mono ?_
    rintro e w3 ⟨b, cb, rfl, ho, hb3⟩
    have hz := HS.out
    have hz2 := HZ2.out
    have h6 := (hb3.block (w.heap.size + 1) (by omega)).trans H6.out
    obtain ⟨e0, e1, e2⟩ := cells3 h6
    have g0 := frozen_of_cells h6 0
    have g1 := frozen_of_cells h6 1
    have g2 := frozen_of_cells h6 2
    have H7 := Lib.hid h6
    have HO := Lib.hid ho
    have HB3 := Lib.hid (HB2.out.trans (hb3.mono HB2.out.size))
    clear h6 hb3 hz hz2 ho d0 d1 d2
    go_wp2
    have hz := HS.out
    have hz2 := HZ2.out
    refine bodyPost_ret (results_cell_row rfl _ _ (w.heap.size + 1) _ #[.slice b t.items.length cb, .int .i64 t.ack, .int .i64 t.ack] (0, 0) _ rfl (set3 H7.out) Try.underlying24 rfl (by kernel_rfl)) rfl ?_
    rw [resT_yes HV.out]
    refine ⟨b, cb, rfl, ?_, below_set3 HB3.out (by omega) _ _ _⟩
    exact (HO.out.kept (fun k h1 h2 => set3_ne (by omega))).less (by omega)

set_option maxHeartbeats 1000000 in
theorem pck_any (a : Option Addr) (cap : Nat) (c : Ck) (w : World) (h : IntsAt w a c.items) (hm : c.items.length ≤ maxLen) :
    Calls Try.prog 53 #[.agg #[.int .i64 c.pos, .slice a c.items.length cap]] w fun e w' => e = .returned (.bool (ckB c)) ∧ Below w.heap.size w w' := by
  have HI := Lib.hid h
  have HM := Lib.hid hm
  clear h hm
  obtain ⟨W, hW⟩ : ∃ W, W = w.alloc (.cells #[.int .i64 c.pos, .slice a c.items.length cap] 46) := ⟨_, rfl⟩
  have hB : Below w.heap.size w W := by rw [hW]; exact (Below.refl _ _).alloc (Nat.le_refl _) _
  have hh : W.heap[w.heap.size]? = some (.cells #[.int .i64 c.pos, .slice a c.items.length cap] 46 (0, 0)) := by rw [hW]; exact heap_alloc_new w _
  obtain ⟨c0, c1⟩ := cells2 hh
  have HB := Lib.hid hB
  have HW := Lib.hid hW
  clear hh hW hB
  have HF := Lib.hid (ckB_iff c)
  rcases (show (c.items.length : Int) < 1 ∨ 4 < (c.items.length : Int) ∨ (1 ≤ (c.items.length : Int) ∧ (c.items.length : Int) ≤ 4) by omega) with hl | hl | ⟨hl1, hl2⟩
  · go_enter Try.func53, Try.ntmps53
    go_wp2_with fail
    rw [← HW.out]
    go_wp2
    go_ret
    refine ⟨ret_bool ?_, HB.out⟩
    rw [Bool.eq_iff_iff, HF.out]
    simp; omega
  · go_enter Try.func53, Try.ntmps53
    go_wp2_with fail
    rw [← HW.out]
    go_wp2
    go_ret
    refine ⟨ret_bool ?_, HB.out⟩
    rw [Bool.eq_iff_iff, HF.out]
    simp; omega
  · rcases bcs (c.items.all itB) with hv | hv
    rotate_left
    · have HV := Lib.hid hv
      clear hv
      go_enter Try.func53, Try.ntmps53
      go_wp2_with fail
      rw [← HW.out]
      go_wp2_with fail
      refine (psums_as false a _ cap c.items W (HI.out.keepB HB.out (Nat.le_refl _)) rfl HM.out HV.out).mono ?_
      rintro e w1 ⟨rfl, rfl⟩
      go_wp2
      go_ret
      refine ⟨ret_bool ?_, HB.out⟩
      rw [Bool.eq_iff_iff, HF.out]
      have hno : itemsB c.items = false := by rw [itemsB, HV.out]; rfl
      simp [hno]
    · have HV := Lib.hid hv
      clear hv
      go_enter Try.func53, Try.ntmps53
      go_wp2_with fail
      rw [← HW.out]
      go_wp2_with fail
      refine (psums_as true a _ cap c.items W (HI.out.keepB HB.out (Nat.le_refl _)) rfl HM.out HV.out).mono ?_
      rintro e w1 ⟨rfl, rfl⟩
      go_wp2
      all_goals
        go_ret
        refine ⟨ret_bool ?_, HB.out⟩
        rw [Bool.eq_iff_iff, HF.out]
        have hyes : itemsB c.items = true := items_mk HV.out (by omega)
        simp [hyes]
        try omega
theorem pck_as (v : Bool) (a : Option Addr) (cap : Nat) (c : Ck) (w : World) (h : IntsAt w a c.items) (hm : c.items.length ≤ maxLen) (hv : ckB c = v) :
    Calls Try.prog 53 #[.agg #[.int .i64 c.pos, .slice a c.items.length cap]] w fun e w' => e = .returned (.bool v) ∧ Below w.heap.size w w' := by
  subst hv; exact pck_any a cap c w h hm

set_option maxHeartbeats 2000000 in
theorem pack_any (a : Option Addr) (cap : Nat) (t : Tf) (n : Int) (w : World) (h : IntsAt w a t.items) (hm : t.items.length ≤ maxLen) :
    Calls Try.prog 28 #[.agg #[.slice a t.items.length cap, .int .i64 t.nxt, .int .i64 t.ack], .int .i64 n] w (NewTfB (ackT t n) (ackB t n) w) := by
  have HI := Lib.hid h
  have HM := Lib.hid hm
  clear h hm
  obtain ⟨W, hW⟩ : ∃ W, W = (w.alloc (.cells #[.slice a t.items.length cap, .int .i64 t.nxt, .int .i64 t.ack] 24)).alloc (.cells #[.slice none 0 0, .int .i64 0, .int .i64 0] 24) := ⟨_, rfl⟩
  obtain ⟨hs, hB, h1, h2⟩ := two_newT hW
  have HB := Lib.hid hB
  have HW := Lib.hid hW
  have HS := Lib.hid hs
  have H1 := Lib.hid h1
  have H2 := Lib.hid h2
  clear hW hB hs h1 h2
  obtain ⟨c0, c1, c2⟩ := cells3 H1.out
  rcases bcs (tfB t) with hv | hv
  rotate_left
  · have HV := Lib.hid hv
    clear hv
    go_enter Try.func28, Try.ntmps28
    go_wp2_with fail
    rw [← HW.out]
    go_wp2_with fail
    refine (ptv_as false a cap t W (HI.out.keepB HB.out (Nat.le_refl _)) HM.out HV.out).mono ?_
    rintro e w2 ⟨rfl, hb2⟩
    have hz := HS.out
    have h6 := (hb2.block (w.heap.size + 1) (by omega)).trans H2.out
    obtain ⟨e0, e1, e2⟩ := cells3 h6
    have g0 := frozen_of_cells h6 0
    have g1 := frozen_of_cells h6 1
    have g2 := frozen_of_cells h6 2
    have H6 := Lib.hid h6
    have HB2 := Lib.hid (HB.out.trans (hb2.mono (by omega)))
    clear h6 hb2 hz
    go_wp2
    refine bodyPost_ret (res_ct rfl _ _ (w.heap.size + 1) _ #[.slice none 0 0, .int .i64 0, .int .i64 0] (0, 0) _ rfl (set3 H6.out) Try.underlying24 rfl (by kernel_rfl)) rfl ?_
    rw [(ackT_no1 HV.out).1, (ackT_no1 HV.out).2]
    exact ⟨none, 0, rfl, own_nilI _ _, below_set3 HB2.out (by omega) _ _ _⟩
  have HV := Lib.hid hv
  have hl := tf_len hv
  clear hv
  rcases (show n < 0 ∨ t.nxt < n ∨ (0 ≤ n ∧ n ≤ t.nxt) by omega) with hn | hn | ⟨hn0, hn1⟩
  · have HNO : Hid (inB n 0 t.nxt = false) := by show _ = _; unfold inB; rw [decide_eq_false_iff_not]; omega
    go_enter Try.func28, Try.ntmps28
    go_wp2_with fail
    rw [← HW.out]
    go_wp2_with fail
    refine (ptv_as true a cap t W (HI.out.keepB HB.out (Nat.le_refl _)) HM.out HV.out).mono ?_
    rintro e w2 ⟨rfl, hb2⟩
    have hz := HS.out
    have h6 := (hb2.block (w.heap.size + 1) (by omega)).trans H2.out
    obtain ⟨e0, e1, e2⟩ := cells3 h6
    have g0 := frozen_of_cells h6 0
    have g1 := frozen_of_cells h6 1
    have g2 := frozen_of_cells h6 2
    have H6 := Lib.hid h6
    have HB2 := Lib.hid (HB.out.trans (hb2.mono (by omega)))
    clear h6 hb2 hz
    go_wp2
    refine bodyPost_ret (res_ct rfl _ _ (w.heap.size + 1) _ #[.slice none 0 0, .int .i64 0, .int .i64 0] (0, 0) _ rfl (set3 H6.out) Try.underlying24 rfl (by kernel_rfl)) rfl ?_
    rw [(ackT_no2 HNO.out).1, (ackT_no2 HNO.out).2]
    exact ⟨none, 0, rfl, own_nilI _ _, below_set3 HB2.out (by omega) _ _ _⟩
  · have HNO : Hid (inB n 0 t.nxt = false) := by show _ = _; unfold inB; rw [decide_eq_false_iff_not]; omega
    have hn0 : (0 : Int) ≤ n := by
      have := ((tfB_iff t).1 HV.out).2.1.1; omega
    have hn0' : ¬ n < 0 := by omega
    go_enter Try.func28, Try.ntmps28
    go_wp2_with fail
    rw [← HW.out]
    go_wp2_with fail
    refine (ptv_as true a cap t W (HI.out.keepB HB.out (Nat.le_refl _)) HM.out HV.out).mono ?_
    rintro e w2 ⟨rfl, hb2⟩
    have hz := HS.out
    have h5 := (hb2.block w.heap.size (by omega)).trans H1.out
    have h6 := (hb2.block (w.heap.size + 1) (by omega)).trans H2.out
    obtain ⟨d0, d1, d2⟩ := cells3 h5
    obtain ⟨e0, e1, e2⟩ := cells3 h6
    have g0 := frozen_of_cells h6 0
    have g1 := frozen_of_cells h6 1
    have g2 := frozen_of_cells h6 2
    have H6 := Lib.hid h6
    have HB2 := Lib.hid (HB.out.trans (hb2.mono (by omega)))
    clear h5 h6 hb2 hz
    go_wp2
    refine bodyPost_ret (res_ct rfl _ _ (w.heap.size + 1) _ #[.slice none 0 0, .int .i64 0, .int .i64 0] (0, 0) _ rfl (set3 H6.out) Try.underlying24 rfl (by kernel_rfl)) rfl ?_
    rw [(ackT_no2 HNO.out).1, (ackT_no2 HNO.out).2]
    exact ⟨none, 0, rfl, own_nilI _ _, below_set3 HB2.out (by omega) _ _ _⟩
  · have HNI : Hid (inB n 0 t.nxt = true) := (inB_iff _ _ _).2 ⟨hn0, hn1⟩
    have hn0' : ¬ n < 0 := by omega
    have hn1' : ¬ t.nxt < n := by omega
    go_enter Try.func28, Try.ntmps28
    go_wp2_with fail
    rw [← HW.out]
    go_wp2_with fail
    refine (ptv_as true a cap t W (HI.out.keepB HB.out (Nat.le_refl _)) HM.out HV.out).mono ?_
    rintro e w2 ⟨rfl, hb2⟩
    have hz := HS.out
    have h5 := (hb2.block w.heap.size (by omega)).trans H1.out
    have h6 := (hb2.block (w.heap.size + 1) (by omega)).trans H2.out
    obtain ⟨d0, d1, d2⟩ := cells3 h5
    have HSK : Hid (∀ w', Below w2.heap.size w2 w' → w'.cell? ⟨w.heap.size, 0, none⟩ = some (.slice a t.items.length cap) ∧ w'.cell? ⟨w.heap.size, 1, none⟩ = some (.int .i64 t.nxt) ∧ w'.cell? ⟨w.heap.size, 2, none⟩ = some (.int .i64 t.ack)) := fun w' hb => by
      have hz := HS.out
      exact cells3 ((hb.block w.heap.size (by have := hb2.size; omega)).trans h5)
    have HST : Hid (∀ w' (u0 u1 u2 : Value), Below w2.heap.size w2 w' → (((w'.setCell ⟨w.heap.size + 1, 0, none⟩ u0).setCell ⟨w.heap.size + 1, 1, none⟩ u1).setCell ⟨w.heap.size + 1, 2, none⟩ u2).cell? ⟨w.heap.size, 0, none⟩ = some (.slice a t.items.length cap) ∧ (((w'.setCell ⟨w.heap.size + 1, 0, none⟩ u0).setCell ⟨w.heap.size + 1, 1, none⟩ u1).setCell ⟨w.heap.size + 1, 2, none⟩ u2).cell? ⟨w.heap.size, 1, none⟩ = some (.int .i64 t.nxt) ∧ (((w'.setCell ⟨w.heap.size + 1, 0, none⟩ u0).setCell ⟨w.heap.size + 1, 1, none⟩ u1).setCell ⟨w.heap.size + 1, 2, none⟩ u2).cell? ⟨w.heap.size, 2, none⟩ = some (.int .i64 t.ack)) := fun w' u0 u1 u2 hb => by
      obtain ⟨k0, k1, k2⟩ := HSK.out w' hb
      exact ⟨(set3_cell (by omega)).trans k0, (set3_cell (by omega)).trans k1, (set3_cell (by omega)).trans k2⟩
    have H6 := Lib.hid h6
    have HB2 := Lib.hid (HB.out.trans (hb2.mono (by omega)))
    have HZ2 := Lib.hid hb2.size
    have HIA : Hid (∀ w', Below w2.heap.size w2 w' → IntsAt w' a t.items) := fun w' hb => (HI.out.keepB HB2.out (Nat.le_refl _)).keepB hb (Nat.le_refl _)
    have hl' : Hid (t.items.length ≤ 1000000) := by show _ ≤ _; omega
    have HD : Hid (∀ w', Below w2.heap.size w2.drew w' → Below w2.heap.size w2 w') := fun w' hb => ((Below.refl _ _).drew).trans hb
    clear h5 h6 hb2 hz c0 c1 c2
    go_wp2_with fail
    go_region_held3 (fun w' => w'.cell? ⟨w.heap.size, 0, none⟩ = some (.slice a t.items.length cap) ∧ w'.cell? ⟨w.heap.size, 1, none⟩ = some (.int .i64 t.nxt) ∧ w'.cell? ⟨w.heap.size, 2, none⟩ = some (.int .i64 t.ack)) (first | (with_reducible exact HSK.out _ ((Below.refl _ _).drew)) | (with_reducible exact HSK.out _ (HB5.out)) | (with_reducible exact HST.out _ _ _ _ (HB5.out))) (first | (go_at_call 51; refine (pwith_any a _ t _ _ _ (HIA.out _ ((Below.refl _ _).drew)) hl'.out).mono ?_; rintro e w5 ⟨b, cb, rfl, ho, hb5⟩; have HB5 := Lib.hid (HD.out _ hb5); have hz := HS.out; have hz2 := HZ2.out; have h7 := (HB5.out.block (w.heap.size + 1) (by omega)).trans H6.out; obtain ⟨e0, e1, e2⟩ := cells3 h7; have g0 := frozen_of_cells h7 0; have g1 := frozen_of_cells h7 1; have g2 := frozen_of_cells h7 2; have H7 := Lib.hid h7; have HO := Lib.hid ho; clear h7 hb5 hz hz2 ho))
    go_wp2
    have hz := HS.out
    have hz2 := HZ2.out
    refine bodyPost_ret (res_ct rfl _ _ (w.heap.size + 1) _ #[.slice b t.items.length cb, .int .i64 t.nxt, .int .i64 (max t.ack n)] (0, 0) _ rfl (set3 H7.out) Try.underlying24 rfl (by kernel_rfl)) rfl ?_
    rw [(ackT_yes HV.out HNI.out).1, (ackT_yes HV.out HNI.out).2]
    refine ⟨b, cb, rfl, ?_, below_set3 (HB2.out.trans (HB5.out.mono HB2.out.size)) (by omega) _ _ _⟩
    exact (HO.out.kept (fun k h1 h2 => set3_ne (by have h1 : w2.heap.size ≤ k := h1; omega))).less (by show w.heap.size ≤ w2.heap.size; omega)
end Go.Proofs.Ytedbgfeojocbpaa
