/- Transfers: drawing a transfer (the walk). -/
import Derived.Test.YtoiecicfmnpnoaaTfDraw2
import Derived.Deep.DeepCutAuto
import Derived.Deep.LoopGhost
import Derived.Deep.RegionWith
namespace Go.Proofs.Ytoiecicfmnpnoaa
open Go.RowKit
set_option linter.unusedVariables false

attribute [local go_sem ↓] Go.wp_at_zero Go.wp_at_succ

set_option maxHeartbeats 4000000 in
theorem ttransfer_any (q K : Nat) (w : World) (h : Ready w q (K + 60)) :
    Calls Try.prog 15 #[.pointer (some ⟨q, 0, none⟩)] w (DrewTf q K w) := by
  have hq := h.lt
  have HQ := Lib.hid hq
  obtain ⟨W, hW⟩ : ∃ W, W = w.alloc (.cells #[.slice none 0 0, .int .i64 0, .int .i64 0] 25) := ⟨_, rfl⟩
  have hWs : W.heap.size = w.heap.size + 1 := by rw [hW]; simp
  have hr0 : Ready W q (K + 33 + 27) := by rw [hW]; exact h.keep (fun i hi => Below.heap_alloc _ _ _ (by omega))
  have HG0 : Hid (w.grownBy W (some q)) := by show w.grownBy W _; rw [hW]; exact World.grownBy_alloc w _ _
  have HZ0 : Hid (W.heap[w.heap.size]? = some zObj) := by show _ = _; rw [hW]; exact heap_alloc_new w _
  have HWS := Lib.hid hWs
  have HW := Lib.hid hW
  clear h hW hWs
  go_enter Try.func15, Try.ntmps15
  go_wp2_with fail
  rw [← HW.out]
  go_wp2_with fail
  refine (titems_any q (K + 33) W hr0).mono ?_
  rintro e w1 ⟨a, cap, zs, rfl, hi, hl, hlc, hr1, hg1⟩
  have hs1 := hg1.size
  obtain ⟨g, hg⟩ : ∃ g, g = w1.heap.size := ⟨_, rfl⟩
  have HGG := Lib.hid hg
  have HGW : Hid (w.heap.size < g) := by have := HWS.out; show _ < _; omega
  have HST : Hid (TfSt q (K + 33) g w (w1.alloc (.cells #[.slice a zs.length cap, .int .i64 0, .int .i64 0] 25))) := by
    have hws := HWS.out
    have hq := HQ.out
    refine ⟨⟨a, cap, ⟨zs, 0, 0⟩, by rw [hg]; exact heap_alloc_new w1 _, ?_, hl, hlc, ⟨Int.le_refl _, by show (0 : Int) ≤ (zs.length : Int); omega⟩, Int.le_refl _, Int.le_refl _⟩, hr1.keep (fun i hi => Below.heap_alloc _ _ _ (by omega)), grown_trans (grown_trans HG0.out hg1) (World.grownBy_alloc w1 _ _), ?_, by rw [hg]; simp⟩
    · rw [← hws]
      exact (hi.itAt (g := g) (by omega)).keep (by simp) (fun i _ _ h => Below.heap_alloc _ _ _ h)
    · exact (Below.heap_alloc w1 _ _ (by omega)).trans ((hg1.block _ (by omega) (by intro e; injection e with e; omega)).trans HZ0.out)
  clear hi hl hlc hr1 hg1 hs1 hr0 hq
  go_wp2
  rw [← hg]
  generalize w1.alloc (.cells #[.slice a zs.length cap, .int .i64 0, .int .i64 0] 25) = w2 at *
  clear hg
  go_loopg [4] 7 (fun gk i wr => ∃ k : Nat, k + gk = 7 ∧ i = .int .i64 k ∧ TfSt q (K + 3 + 4 * gk) g w wr)
  case atStart => exact ⟨0, rfl, rfl, HST.out.less (by omega)⟩
  case round =>
    obtain ⟨k, hk, rfl, hst⟩ := hrel
    have HS := Lib.hid hst
    have hr := hst.rdy
    clear hst
    go_wp2_with fail
    refine (pick_r q (K + 2 + 4 * gk) 8 wr (hr.less (by omega)) (by omega) (by omega)).mono ?_
    rintro e w3 ⟨x, hx0, hx1, rfl, hr3, hk3⟩
    have HS3 := Lib.hid (HS.out.pick HQ.out HGW.out hk3 hr3)
    clear hr hk3 hr3
    by_cases hlt : (k : Int) < x
    · go_upto_region 5 with fail
      go_cut [5, 7] (fun s ok wx => ∃ (b5 : Nat) (o : Bool), s = .pointer (some ⟨b5, 0, none⟩) ∧ ok = .bool o ∧ TfSt q (K + 1 + 4 * gk) g w wx ∧ (o = true → b5 ≠ g ∧ w.heap.size < b5 ∧ b5 < wx.heap.size ∧ TfIn (w.heap.size + 1) g b5 wx))
      case first =>
        obtain ⟨a1, cp1, t, hc1, hi1, hl1, hlc1, hn1, hk1⟩ := HS3.out.tf
        obtain ⟨d0, d1, d2⟩ := cells3 hc1
        have HSA : Hid (∀ w' : World, w'.heap[g]? = w3.heap[g]? → (w'.cell? ⟨g, 0, none⟩ = some (.slice a1 t.items.length cp1) ∧ w'.cell? ⟨g, 1, none⟩ = some (.int .i64 t.nxt) ∧ w'.cell? ⟨g, 2, none⟩ = some (.int .i64 t.ack))) := fun w' e => cells3 (e.trans hc1)
        have HI1 := Lib.hid hi1
        have HL1 := Lib.hid hl1
        have HLC1 := Lib.hid hlc1
        have HN1 := Lib.hid hn1
        have HK1 := Lib.hid hk1
        have HRA : Hid (∀ W' : World, Below w3.heap.size w3 W' → Ready W' q (K + 1 + 4 * gk + 1)) := fun W' hb => (HS3.out.below HQ.out hb).rdy.less (by omega)
        have HSP : Hid (∀ W' w4 : World, Kept q W' w4 → Ready w4 q (K + 1 + 4 * gk) → Below w3.heap.size w3 W' → (w4.heap[g]? = w3.heap[g]? ∧ TfSt q (K + 1 + 4 * gk) g w w4 ∧ IntsAt w4 a1 t.items ∧ (∀ i, i < w3.heap.size → i ≠ q → w4.heap[i]? = w3.heap[i]?) ∧ w3.heap.size ≤ w4.heap.size)) := fun W' w4 hk hr hb => by
          have hq := HQ.out
          have hg := HGW.out
          have hl := HS3.out.lt
          have hs := hb.size
          have hst : TfSt q (K + 1 + 4 * gk) g w w4 := (HS3.out.below hq hb).pick hq hg hk hr
          refine ⟨(hk.block g (by omega)).trans (hb.block g hl), hst, ?_, fun i hi hne => (hk.block i hne).trans (hb.block i hi), by rw [hk.size]; exact hs⟩
          exact (HI1.out.keep (w' := w4) (by rw [hk.size]; exact hs) (fun i h1 _ h3 => (hk.block i (by omega)).trans (hb.block i h3))).froms.ints
        have HSD : Hid (∀ w' : World, Below w3.heap.size w3 w' → (w'.cell? ⟨g, 0, none⟩ = some (.slice a1 t.items.length cp1) ∧ w'.cell? ⟨g, 1, none⟩ = some (.int .i64 t.nxt) ∧ w'.cell? ⟨g, 2, none⟩ = some (.int .i64 t.ack))) := fun w' hb => HSA.out w' (hb.block g HS3.out.lt)
        have hmix : Try.prog.follows .mixedOrders = true := by kernel_rfl
        clear hc1 hi1 hl1 hlc1 hn1 hk1
        go_region_held3 (fun w' => (w'.cell? ⟨g, 0, none⟩ = some (.slice a1 t.items.length cp1) ∧ w'.cell? ⟨g, 1, none⟩ = some (.int .i64 t.nxt) ∧ w'.cell? ⟨g, 2, none⟩ = some (.int .i64 t.ack)))
          (first
            | (refine HSB.out _ ?_; (repeat (first | with_reducible exact Below.refl _ _ | (with_reducible refine Below.drew ?_) | (with_reducible refine Below.setCell ?_ ?_ _) | (with_reducible refine Below.alloc ?_ ?_ _))); all_goals (first | exact Nat.le_refl _ | (have := HSZ.out; show _ ≤ _; omega) | (simp; done) | (have := HSZ.out; simp; omega)))
            | (refine HSC.out _ ?_; (repeat (first | with_reducible exact Below.refl _ _ | (with_reducible refine Below.drew ?_) | (with_reducible refine Below.setCell ?_ ?_ _) | (with_reducible refine Below.alloc ?_ ?_ _))); all_goals (first | exact Nat.le_refl _ | (have := HZ4.out; show _ ≤ _; omega) | (simp; done) | (have := HZ4.out; simp; omega)))
            | (refine HSD.out _ ?_; (repeat (first | with_reducible exact Below.refl _ _ | (with_reducible refine Below.drew ?_) | (with_reducible refine Below.setCell ?_ ?_ _) | (with_reducible refine Below.alloc ?_ ?_ _))); all_goals (first | (simp; done) | (simp; omega))))
          ((first
            | (go_at_call 16
               refine (pick_r q (K + 1 + 4 * gk) 10 _ ?hready (by omega) (by omega)).mono ?_
               case hready => (refine HRA.out _ ?_; (repeat (first | with_reducible exact Below.refl _ _ | (with_reducible refine Below.drew ?_) | (with_reducible refine Below.alloc ?_ ?_ _))); all_goals (first | (simp; done) | (simp; omega)))
               rintro e w4 ⟨y, hy0, hy1, rfl, hr4, hk4⟩
               have h4 := HSP.out _ w4 hk4 hr4 (by ((repeat (first | with_reducible exact Below.refl _ _ | (with_reducible refine Below.drew ?_) | (with_reducible refine Below.alloc ?_ ?_ _))); all_goals (first | (simp; done) | (simp; omega))))
               have HE4 := Lib.hid h4.1
               have HS4 := Lib.hid h4.2.1
               have HI4 := Lib.hid h4.2.2.1
               have HK4 := Lib.hid h4.2.2.2.1
               have HZ4 := Lib.hid h4.2.2.2.2
               have HSC : Hid (∀ w' : World, Below w3.heap.size w4 w' → (w'.cell? ⟨g, 0, none⟩ = some (.slice a1 t.items.length cp1) ∧ w'.cell? ⟨g, 1, none⟩ = some (.int .i64 t.nxt) ∧ w'.cell? ⟨g, 2, none⟩ = some (.int .i64 t.ack))) := fun w' hb => HSA.out w' ((hb.block g HS3.out.lt).trans HE4.out)
               have s1 : IntKind.i64.wrap (3 + y) = 3 + y := by (rw [IntKind.wrap_i64]; omega)
               have HIA : Hid (∀ W'' : World, Below w4.heap.size w4 W'' → IntsAt W'' a1 t.items) := fun W'' hb => HI4.out.keepB hb (Nat.le_refl _)
               have HID : Hid (∀ W'' w5 : World, Below W''.heap.size W'' w5 → Below w4.heap.size w4 W'' → Below w4.heap.size w4 w5) := fun W'' w5 h1 h2 => h2.trans (h1.mono h2.size)
               have hzz : w4.heap.size = _ := hk4.size
               have hnq : w3.heap.size ≠ q := by (have := HQ.out; have := HGW.out; have := HS3.out.lt; omega)
               have hnq1 : w3.heap.size + 1 ≠ q := by (have := HQ.out; have := HGW.out; have := HS3.out.lt; omega)
               try (have YT : Hid (w4.heap[w3.heap.size]? = some zObj) := (hk4.block w3.heap.size hnq).trans (by first | exact heap_alloc_new w3 _ | exact heap_first w3 _ _))
               try (have YT : Hid (w4.heap[w3.heap.size + 1]? = some zObj) := (hk4.block (w3.heap.size + 1) hnq1).trans (by exact heap_second w3 _ _))
               try (have YC : Hid (w4.heap[w3.heap.size]? = some zObjC) := (hk4.block w3.heap.size hnq).trans (by first | exact heap_alloc_new w3 _ | exact heap_first w3 _ _))
               try (have YC : Hid (w4.heap[w3.heap.size + 1]? = some zObjC) := (hk4.block (w3.heap.size + 1) hnq1).trans (by exact heap_second w3 _ _))
               try simp at hzz
               have HZZ := Lib.hid hzz
               clear h4 hr4 hk4 hzz hnq hnq1)
            | (go_at_call 8
               refine (ssend_any a1 cp1 t (3 + y) _ ?hint ?hmx ?hcp).mono ?_
               case hint => (refine HIA.out _ ?_; (repeat (first | with_reducible exact Below.refl _ _ | (with_reducible refine Below.drew ?_) | (with_reducible refine Below.setCell ?_ ?_ _) | (with_reducible refine Below.alloc ?_ ?_ _))); all_goals (first | (simp; done) | (simp; omega)))
               case hmx => (have := HL1.out; unfold maxLen; omega)
               case hcp => exact HLC1.out
               rintro e w5 ⟨a5, c5, b6, cb6, rfl, ho5, hob5, hne5, hb5⟩
               have hb45 := HID.out _ w5 hb5 (by ((repeat (first | with_reducible exact Below.refl _ _ | (with_reducible refine Below.drew ?_) | (with_reducible refine Below.setCell ?_ ?_ _) | (with_reducible refine Below.alloc ?_ ?_ _))); all_goals (first | (simp; done) | (simp; omega))))
               have HB45 := Lib.hid hb45
               have HB5 := Lib.hid hb5
               have HO5 := Lib.hid ho5
               have HSZ : Hid (w3.heap.size ≤ w4.heap.size ∧ w4.heap.size ≤ w5.heap.size) := ⟨HZ4.out, hb45.size⟩
               have HSB : Hid (∀ w' : World, Below w3.heap.size w5 w' → (w'.cell? ⟨g, 0, none⟩ = some (.slice a1 t.items.length cp1) ∧ w'.cell? ⟨g, 1, none⟩ = some (.int .i64 t.nxt) ∧ w'.cell? ⟨g, 2, none⟩ = some (.int .i64 t.ack))) := fun w' hb => HSA.out w' ((hb.block g HS3.out.lt).trans ((hb45.block g HS4.out.lt).trans HE4.out))
               try (have ZT := Lib.hid ((hb45.block _ (heap_lt YT.out)).trans YT.out))
               try (have ZC := Lib.hid ((hb45.block _ (heap_lt YC.out)).trans YC.out))
               try (have ZT : Hid (w5.heap[w4.heap.size]? = some zObj) := bz1 hb5)
               try (have ZT : Hid (w5.heap[w4.heap.size]? = some zObj) := bz2 hb5)
               try (have ZT : Hid (w5.heap[w4.heap.size + 1]? = some zObj) := bz3 hb5)
               try (have ZC : Hid (w5.heap[w4.heap.size]? = some zObjC) := bz1 hb5)
               try (have ZC : Hid (w5.heap[w4.heap.size]? = some zObjC) := bz2 hb5)
               try (have ZC : Hid (w5.heap[w4.heap.size + 1]? = some zObjC) := bz3 hb5)
               try (have hff := zt_facts ZT.out; obtain ⟨x0, x1, x2, x3⟩ := hff)
               try (have hff := zt_factsA ZT.out; obtain ⟨v0, v1, v2, v3⟩ := hff)
               try (have hff := zc_facts ZC.out; obtain ⟨z0, z1, z2⟩ := hff)
               try (have hff := zc_factsA ZC.out; obtain ⟨r0, r1, r2⟩ := hff)
               try (have l1 := heap_lt ZT.out)
               try (have l2 := heap_lt ZC.out)
               try (have n1 : ¬ w3.heap.size = w4.heap.size := by (have := HZZ.out; omega))
               try (have n2 : ¬ w4.heap.size = w3.heap.size := by (have := HZZ.out; omega))
               try (have n3 : ¬ w3.heap.size = w5.heap.size := by (have := HZZ.out; have := HSZ.out; omega))
               try (have n4 : ¬ w4.heap.size = w5.heap.size := by (have := HZZ.out; have := HSZ.out; omega))
               try (have n5 : ¬ w3.heap.size + 1 = w5.heap.size := by (have := HZZ.out; have := HSZ.out; omega))
               try (have n6 : ¬ w5.heap.size = w3.heap.size := by (have := HZZ.out; have := HSZ.out; omega))
               try (have n7 : ¬ w5.heap.size = w4.heap.size := by (have := HZZ.out; have := HSZ.out; omega))
               try (have l1' := Lib.hid l1)
               try (clear l1)
               try (clear l2)
               clear hb45 ho5 hob5 hne5 hb5)))
        all_goals
          have hsz := HSZ.out
          have hl3 := HS3.out.lt
          have hgw := HGW.out
          try (have lT := heap_lt ZT.out)
          try (have lC := heap_lt ZC.out)
          try (have hzz := HZZ.out)
          go_wp2_with fail
          go_meet
          refine ⟨_, _, rfl, rfl, fin5 HS3.out.lt HS4.out HQ.out HGW.out HZ4.out HS3.out.tf HK4.out HB45.out ?hbx, fun ho => ?_⟩
          case hbx =>
            (repeat (first | with_reducible exact Below.refl _ _ | (with_reducible refine Below.setCell ?_ ?_ _) | (with_reducible refine Below.alloc ?_ ?_ _)))
            all_goals (first | exact Nat.le_refl _ | (show _ ≤ _; omega) | (simp; done) | (simp; omega))
          obtain ⟨e1, e2, e3⟩ := send_inv ho HN1.out HK1.out
          have hcap := HO5.out.cap_le.1
          refine (fun hcell hit => ⟨?n1, ?n2, heap_lt hcell, a5, c5, sendT t (3 + y), hcell, hit, by rw [e1]; exact HL1.out, hcap, ⟨e2.1, by rw [e1]; exact e2.2⟩, e3⟩) ?hc ?hi
          case n1 => omega
          case n2 => omega
          case hc =>
            first
              | (with_reducible exact heap_first w5 _ _)
              | (with_reducible exact heap_second w5 _ _)
              | (with_reducible exact (set2_ne (by omega)).trans (heap_alloc_new w5 _))
              | (with_reducible exact (set2_ne (by omega)).trans (set3 ((Below.heap_alloc w5 _ _ (heap_lt ZT.out)).trans (zobj_eq ZT.out))))
              | (with_reducible exact (set2_ne (by omega)).trans (set3 (zobj_eq ZT.out)))
          case hi =>
            refine OwnI.itAt (HO5.out.kept (fun i h1 h2 => ?_)) (by first | omega | (simp; omega)) (by first | omega | (simp; omega))
            try simp at h1
            first
              | (with_reducible exact (Below.heap_alloc _ _ _ (by simp; omega)).trans (Below.heap_alloc _ _ _ h2))
              | (with_reducible exact (set2_ne (by omega)).trans (Below.heap_alloc _ _ _ h2))
              | (with_reducible exact (set2_ne (by omega)).trans ((set3_ne (by omega)).trans (Below.heap_alloc _ _ _ h2)))
              | (with_reducible exact (set2_ne (by omega)).trans (set3_ne (by omega)))
      case rest =>
        obtain ⟨b5, o, rfl, rfl, hst5, hx5⟩ := hcut
        have HS5 := Lib.hid hst5
        have HX5 := Lib.hid hx5
        clear hst5 hx5
        go_upto_if 28 with fail
        go_cut [] (fun wx => TfSt q (K + 1 + 4 * gk) g w wx)
        case first =>
          cases o
          · go_wp2
            go_meet
            exact HS5.out
          · obtain ⟨hne, hlt5, hls, a6, cp6, t6, hc6, hi6, hl6, hlc6, hn6, hk6⟩ := HX5.out rfl
            obtain ⟨a7, cp7, t7, hc7, hi7, hl7, hlc7, hn7, hk7⟩ := HS5.out.tf
            obtain ⟨x0, x1, x2⟩ := cells3 hc6
            obtain ⟨y0, y1, y2⟩ := cells3 hc7
            have f0 := frozen_of_cells hc7 0
            have f1 := frozen_of_cells hc7 1
            have f2 := frozen_of_cells hc7 2
            have HC7 := Lib.hid hc7
            have HI6 := Lib.hid hi6
            have HL6 := Lib.hid hl6
            have HLC6 := Lib.hid hlc6
            have HN6 := Lib.hid hn6
            have HK6 := Lib.hid hk6
            clear hne hlt5 hls hc6 hi6 hl6 hlc6 hn6 hk6 hc7 hi7 hl7 hlc7 hn7 hk7
            go_wp2
            go_meet
            exact tfst_set HS5.out HQ.out HGW.out HC7.out HI6.out HL6.out HLC6.out HN6.out HK6.out
        case rest =>
          have HS6 := Lib.hid hcut
          clear hcut
          go_wp2_with fail
          refine (pick_r q (K + 4 * gk) 3 _ (HS6.out.rdy.less (by omega)) (by omega) (by omega)).mono ?_
          rintro e w7 ⟨z, hz0, hz1, rfl, hr7, hk7⟩
          have HS7 := Lib.hid (HS6.out.pick HQ.out HGW.out hk7 hr7)
          clear hr7 hk7
          by_cases hz : z = 0
          · subst hz
            go_upto_region 9 with fail
            go_cut [8, 9] (fun s ok wx => ∃ (b8 : Nat) (o : Bool), s = .pointer (some ⟨b8, 0, none⟩) ∧ ok = .bool o ∧ TfSt q (K + 3 + 4 * (gk - 1)) g w wx ∧ (o = true → b8 ≠ g ∧ w.heap.size < b8 ∧ b8 < wx.heap.size ∧ TfIn (w.heap.size + 1) g b8 wx))
            case first =>
              obtain ⟨a1, cp1, t, hc1, hi1, hl1, hlc1, hn1, hk1⟩ := HS7.out.tf
              obtain ⟨d0, d1, d2⟩ := cells3 hc1
              have HSA : Hid (∀ w' : World, w'.heap[g]? = w7.heap[g]? → (w'.cell? ⟨g, 0, none⟩ = some (.slice a1 t.items.length cp1) ∧ w'.cell? ⟨g, 1, none⟩ = some (.int .i64 t.nxt) ∧ w'.cell? ⟨g, 2, none⟩ = some (.int .i64 t.ack))) := fun w' e => cells3 (e.trans hc1)
              have HI1 := Lib.hid hi1
              have HL1 := Lib.hid hl1
              have HLC1 := Lib.hid hlc1
              have HN1 := Lib.hid hn1
              have HK1 := Lib.hid hk1
              have s1 : IntKind.i64.wrap (t.nxt + 1) = t.nxt + 1 := by (have := HN1.out; have := HL1.out; rw [IntKind.wrap_i64]; omega)
              have HRA : Hid (∀ W' : World, Below w7.heap.size w7 W' → Ready W' q (K + 3 + 4 * (gk - 1) + 1)) := fun W' hb => (HS7.out.below HQ.out hb).rdy.less (by omega)
              have HSP : Hid (∀ W' wB : World, Kept q W' wB → Ready wB q (K + 3 + 4 * (gk - 1)) → Below w7.heap.size w7 W' → (wB.heap[g]? = w7.heap[g]? ∧ TfSt q (K + 3 + 4 * (gk - 1)) g w wB ∧ IntsAt wB a1 t.items ∧ (∀ i, i < w7.heap.size → i ≠ q → wB.heap[i]? = w7.heap[i]?) ∧ w7.heap.size ≤ wB.heap.size)) := fun W' wB hk hr hb => by
                have hq := HQ.out
                have hg := HGW.out
                have hl := HS7.out.lt
                have hs := hb.size
                have hst : TfSt q (K + 3 + 4 * (gk - 1)) g w wB := (HS7.out.below hq hb).pick hq hg hk hr
                refine ⟨(hk.block g (by omega)).trans (hb.block g hl), hst, ?_, fun i hi hne => (hk.block i hne).trans (hb.block i hi), by rw [hk.size]; exact hs⟩
                exact (HI1.out.keep (w' := wB) (by rw [hk.size]; exact hs) (fun i h1 _ h3 => (hk.block i (by omega)).trans (hb.block i h3))).froms.ints
              have HSD : Hid (∀ w' : World, Below w7.heap.size w7 w' → (w'.cell? ⟨g, 0, none⟩ = some (.slice a1 t.items.length cp1) ∧ w'.cell? ⟨g, 1, none⟩ = some (.int .i64 t.nxt) ∧ w'.cell? ⟨g, 2, none⟩ = some (.int .i64 t.ack))) := fun w' hb => HSA.out w' (hb.block g HS7.out.lt)
              have hmix : Try.prog.follows .mixedOrders = true := by kernel_rfl
              clear hc1 hi1 hl1 hlc1 hn1 hk1
              go_region_held3 (fun w' => (w'.cell? ⟨g, 0, none⟩ = some (.slice a1 t.items.length cp1) ∧ w'.cell? ⟨g, 1, none⟩ = some (.int .i64 t.nxt) ∧ w'.cell? ⟨g, 2, none⟩ = some (.int .i64 t.ack)))
                (first
                  | (refine HSB.out _ ?_; (repeat (first | with_reducible exact Below.refl _ _ | (with_reducible refine Below.drew ?_) | (with_reducible refine Below.setCell ?_ ?_ _) | (with_reducible refine Below.alloc ?_ ?_ _))); all_goals (first | exact Nat.le_refl _ | (have := HSZ.out; show _ ≤ _; omega) | (simp; done) | (have := HSZ.out; simp; omega)))
                  | (refine HSC.out _ ?_; (repeat (first | with_reducible exact Below.refl _ _ | (with_reducible refine Below.drew ?_) | (with_reducible refine Below.setCell ?_ ?_ _) | (with_reducible refine Below.alloc ?_ ?_ _))); all_goals (first | exact Nat.le_refl _ | (have := HZ4.out; show _ ≤ _; omega) | (simp; done) | (have := HZ4.out; simp; omega)))
                  | (refine HSD.out _ ?_; (repeat (first | with_reducible exact Below.refl _ _ | (with_reducible refine Below.drew ?_) | (with_reducible refine Below.setCell ?_ ?_ _) | (with_reducible refine Below.alloc ?_ ?_ _))); all_goals (first | (simp; done) | (simp; omega))))
                ((first
                  | (go_at_call 16
                     refine (pick_r q (K + 3 + 4 * (gk - 1)) (t.nxt + 1) _ ?hready ?hp1 ?hp2).mono ?_
                     case hready => (refine HRA.out _ ?_; (repeat (first | with_reducible exact Below.refl _ _ | (with_reducible refine Below.drew ?_) | (with_reducible refine Below.alloc ?_ ?_ _))); all_goals (first | (simp; done) | (simp; omega)))
                     case hp1 => (have := HN1.out; omega)
                     case hp2 => (have := HN1.out; have := HL1.out; omega)
                     rintro e wB ⟨y, hy0, hy1, rfl, hr4, hk4⟩
                     have h4 := HSP.out _ wB hk4 hr4 (by ((repeat (first | with_reducible exact Below.refl _ _ | (with_reducible refine Below.drew ?_) | (with_reducible refine Below.alloc ?_ ?_ _))); all_goals (first | (simp; done) | (simp; omega))))
                     have HE4 := Lib.hid h4.1
                     have HSB4 := Lib.hid h4.2.1
                     have HI4 := Lib.hid h4.2.2.1
                     have HK4 := Lib.hid h4.2.2.2.1
                     have HZ4 := Lib.hid h4.2.2.2.2
                     have HSC : Hid (∀ w' : World, Below w7.heap.size wB w' → (w'.cell? ⟨g, 0, none⟩ = some (.slice a1 t.items.length cp1) ∧ w'.cell? ⟨g, 1, none⟩ = some (.int .i64 t.nxt) ∧ w'.cell? ⟨g, 2, none⟩ = some (.int .i64 t.ack))) := fun w' hb => HSA.out w' ((hb.block g HS7.out.lt).trans HE4.out)
                     have HIA : Hid (∀ W'' : World, Below wB.heap.size wB W'' → IntsAt W'' a1 t.items) := fun W'' hb => HI4.out.keepB hb (Nat.le_refl _)
                     have HID : Hid (∀ W'' wC : World, Below W''.heap.size W'' wC → Below wB.heap.size wB W'' → Below wB.heap.size wB wC) := fun W'' wC h1 h2 => h2.trans (h1.mono h2.size)
                     have hzz : wB.heap.size = _ := hk4.size
                     have hnq : w7.heap.size ≠ q := by (have := HQ.out; have := HGW.out; have := HS7.out.lt; omega)
                     have hnq1 : w7.heap.size + 1 ≠ q := by (have := HQ.out; have := HGW.out; have := HS7.out.lt; omega)
                     try (have YT : Hid (wB.heap[w7.heap.size]? = some zObj) := (hk4.block w7.heap.size hnq).trans (by first | exact heap_alloc_new w7 _ | exact heap_first w7 _ _))
                     try (have YT : Hid (wB.heap[w7.heap.size + 1]? = some zObj) := (hk4.block (w7.heap.size + 1) hnq1).trans (by exact heap_second w7 _ _))
                     try simp at hzz
                     have HZZ := Lib.hid hzz
                     clear h4 hr4 hk4 hzz hnq hnq1)
                  | (go_at_call 24
                     refine (sack_any a1 cp1 t y _ ?hint ?hmx).mono ?_
                     case hint => (refine HIA.out _ ?_; (repeat (first | with_reducible exact Below.refl _ _ | (with_reducible refine Below.drew ?_) | (with_reducible refine Below.setCell ?_ ?_ _) | (with_reducible refine Below.alloc ?_ ?_ _))); all_goals (first | (simp; done) | (simp; omega)))
                     case hmx => (have := HL1.out; unfold maxLen; omega)
                     rintro e wC ⟨a5, c5, rfl, ho5, hb5⟩
                     have hb45 := HID.out _ wC hb5 (by ((repeat (first | with_reducible exact Below.refl _ _ | (with_reducible refine Below.drew ?_) | (with_reducible refine Below.setCell ?_ ?_ _) | (with_reducible refine Below.alloc ?_ ?_ _))); all_goals (first | (simp; done) | (simp; omega))))
                     have HB45 := Lib.hid hb45
                     have HB5 := Lib.hid hb5
                     have HO5 := Lib.hid ho5
                     have HSZ : Hid (w7.heap.size ≤ wB.heap.size ∧ wB.heap.size ≤ wC.heap.size) := ⟨HZ4.out, hb45.size⟩
                     have HSB : Hid (∀ w' : World, Below w7.heap.size wC w' → (w'.cell? ⟨g, 0, none⟩ = some (.slice a1 t.items.length cp1) ∧ w'.cell? ⟨g, 1, none⟩ = some (.int .i64 t.nxt) ∧ w'.cell? ⟨g, 2, none⟩ = some (.int .i64 t.ack))) := fun w' hb => HSA.out w' ((hb.block g HS7.out.lt).trans ((hb45.block g HSB4.out.lt).trans HE4.out))
                     try (have ZT := Lib.hid ((hb45.block _ (heap_lt YT.out)).trans YT.out))
                     try (have ZT : Hid (wC.heap[wB.heap.size]? = some zObj) := bz1 hb5)
                     try (have ZT : Hid (wC.heap[wB.heap.size]? = some zObj) := bz2 hb5)
                     try (have ZT : Hid (wC.heap[wB.heap.size + 1]? = some zObj) := bz3 hb5)
                     try (have hff := zt_facts ZT.out; obtain ⟨x0, x1, x2, x3⟩ := hff)
                     try (have hff := zt_factsA ZT.out; obtain ⟨v0, v1, v2, v3⟩ := hff)
                     try (have l1 := heap_lt ZT.out)
                     try (have n1 : ¬ w7.heap.size = wB.heap.size := by (have := HZZ.out; omega))
                     try (have n2 : ¬ wB.heap.size = w7.heap.size := by (have := HZZ.out; omega))
                     try (have n3 : ¬ w7.heap.size = wC.heap.size := by (have := HZZ.out; have := HSZ.out; omega))
                     try (have n4 : ¬ wB.heap.size = wC.heap.size := by (have := HZZ.out; have := HSZ.out; omega))
                     try (have n5 : ¬ w7.heap.size + 1 = wC.heap.size := by (have := HZZ.out; have := HSZ.out; omega))
                     try (have n6 : ¬ wC.heap.size = w7.heap.size := by (have := HZZ.out; have := HSZ.out; omega))
                     try (have n7 : ¬ wC.heap.size = wB.heap.size := by (have := HZZ.out; have := HSZ.out; omega))
                     try (have l1' := Lib.hid l1)
                     try (clear l1)
                     try (clear l2)
                     clear hb45 ho5 hb5)))
              all_goals
                have hsz := HSZ.out
                have hl3 := HS7.out.lt
                have hgw := HGW.out
                try (have lT := heap_lt ZT.out)
                try (have hzz := HZZ.out)
                go_wp2_with fail
                go_meet
                refine ⟨_, _, rfl, rfl, fin5 HS7.out.lt HSB4.out HQ.out HGW.out HZ4.out HS7.out.tf HK4.out HB45.out ?hbx, fun ho => ?_⟩
                case hbx =>
                  (repeat (first | with_reducible exact Below.refl _ _ | (with_reducible refine Below.setCell ?_ ?_ _) | (with_reducible refine Below.alloc ?_ ?_ _)))
                  all_goals (first | exact Nat.le_refl _ | (show _ ≤ _; omega) | (simp; done) | (simp; omega))
                obtain ⟨e1, e2, e3⟩ := ack_inv ho HN1.out HK1.out
                have hcap := HO5.out.cap_le.1
                refine (fun hcell hit => ⟨?n1, ?n2, heap_lt hcell, a5, c5, ackT t y, hcell, hit, by rw [e1]; exact HL1.out, hcap, ⟨e2.1, by rw [e1]; exact e2.2⟩, e3⟩) ?hc ?hi
                case n1 => omega
                case n2 => omega
                case hc =>
                  first
                    | (with_reducible exact heap_alloc_new wC _)
                    | (with_reducible exact set3 (zobj_eq ZT.out))
                case hi =>
                  refine OwnI.itAt (HO5.out.kept (fun i h1 h2 => ?_)) (by first | omega | (simp; omega)) (by first | omega | (simp; omega))
                  try simp at h1
                  first
                    | (with_reducible exact Below.heap_alloc _ _ _ h2)
                    | (with_reducible exact set3_ne (by omega))
            case rest =>
              obtain ⟨b8, o8, rfl, rfl, hst8, hx8⟩ := hcut
              have HS8 := Lib.hid hst8
              have HX8 := Lib.hid hx8
              clear hst8 hx8
              cases o8
              · go_wp2
                go_roundg (gk - 1)
                case rel => exact ⟨k + 1, by omega, by go_num, HS8.out⟩
                case measure => omega
              · obtain ⟨hne, hlt5, hls, a6, cp6, t6, hc6, hi6, hl6, hlc6, hn6, hk6⟩ := HX8.out rfl
                obtain ⟨a7, cp7, t7, hc7, hi7, hl7, hlc7, hn7, hk7⟩ := HS8.out.tf
                obtain ⟨x0, x1, x2⟩ := cells3 hc6
                obtain ⟨y0, y1, y2⟩ := cells3 hc7
                have f0 := frozen_of_cells hc7 0
                have f1 := frozen_of_cells hc7 1
                have f2 := frozen_of_cells hc7 2
                have HC7 := Lib.hid hc7
                have HI6 := Lib.hid hi6
                have HL6 := Lib.hid hl6
                have HLC6 := Lib.hid hlc6
                have HN6 := Lib.hid hn6
                have HK6 := Lib.hid hk6
                clear hne hlt5 hls hc6 hi6 hl6 hlc6 hn6 hk6 hc7 hi7 hl7 hlc7 hn7 hk7
                go_wp2
                go_roundg (gk - 1)
                case rel => exact ⟨k + 1, by omega, by go_num, tfst_set HS8.out HQ.out HGW.out HC7.out HI6.out HL6.out HLC6.out HN6.out HK6.out⟩
                case measure => omega
          · have hzB : (z == 0) = false := by simp [hz]
            go_wp2
            go_roundg (gk - 1)
            case rel => exact ⟨k + 1, by omega, by go_num, HS7.out.less (by omega)⟩
            case measure => omega
    · have hlt' : x ≤ (k : Int) := by omega
      clear hlt
      go_wp2_with fail
      refine (pick_r q (K + 1) 16 _ (HS3.out.rdy.less (by omega)) (by omega) (by omega)).mono ?_
      rintro e w4 ⟨m, hm0, hm1, rfl, hr4, hk4⟩
      have HS4 := Lib.hid (HS3.out.pick HQ.out HGW.out hk4 hr4)
      have HR4 := Lib.hid hr4
      clear hk4 hr4
      obtain ⟨a1, cp1, t, hc1, hi1, hl1, hlc1, hn1, hk1⟩ := HS4.out.tf
      obtain ⟨d0, d1, d2⟩ := cells3 hc1
      have HI1 := Lib.hid hi1
      have HL1 := Lib.hid hl1
      have HLC1 := Lib.hid hlc1
      have HN1 := Lib.hid hn1
      have HK1 := Lib.hid hk1
      have hmix : Try.prog.follows .mixedOrders = true := by kernel_rfl
      have hgq : g ≠ q := by (have := HQ.out; have := HGW.out; omega)
      clear hi1 hl1 hlc1 hn1 hk1
      by_cases hm : m = 0
      · subst hm
        go_wp2_with fail
        have HW4 : Hid (w4.heap[g]? = some (.cells #[.slice a1 t.items.length cp1, .int .i64 t.nxt, .int .i64 t.ack] 25 (0, 0))) := hc1
        go_region_with ((go_at_call 16; refine (pick_r q K 5 _ (by exact HR4.out) (by omega) (by omega)).mono ?_; rintro e w5 ⟨p, hp0, hp1, rfl, hr5, hk5⟩; have hb5 : w5.heap[g]? = some (.cells #[.slice a1 t.items.length cp1, .int .i64 t.nxt, .int .i64 t.ack] 25 (0, 0)) := (hk5.block g hgq).trans HW4.out; have c5 : w5.cell? ⟨g, 1, none⟩ = some (.int .i64 t.nxt) := ((cells3 hb5).2.1); have f5 := frozen_of_cells hb5 1; have s1 : IntKind.i64.wrap (t.nxt + p) = t.nxt + p := (by have := HN1.out; have := HK1.out; have := HL1.out; rw [IntKind.wrap_i64]; omega); have s2 : IntKind.i64.wrap (t.nxt + p - 2) = t.nxt + p - 2 := (by have := HN1.out; have := HK1.out; have := HL1.out; rw [IntKind.wrap_i64]; omega); have HB5 := Lib.hid hb5; clear hb5))
        all_goals
          have HS5 : Hid (TfSt q K g w w5) := HS4.out.pick HQ.out HGW.out ⟨hk5.os, hk5.tape, hk5.output, hk5.size, hk5.block⟩ hr5
          have HI5 : Hid (ItAt w5 (w.heap.size + 1) g a1 t.items) := HI1.out.keep (Nat.le_of_eq hk5.size.symm) (fun i h1 _ _ => hk5.block i (by have := HQ.out; omega))
          clear hk5 hr5
          obtain ⟨V, hV⟩ : ∃ V, V = w5.setCell ⟨g, 1, none⟩ (.int .i64 (t.nxt + p - 2)) := ⟨_, rfl⟩
          have hVb : ∀ i, i ≠ g → V.heap[i]? = w5.heap[i]? := fun i hi => by rw [hV, heap_set_ne _ _ _ _ _ hi]
          have hVs : V.heap.size = w5.heap.size := by rw [hV]; simp [World.setCell]
          have hVg : V.heap[g]? = some (.cells #[.slice a1 t.items.length cp1, .int .i64 (t.nxt + p - 2), .int .i64 t.ack] 25 (0, 0)) := by rw [hV, heap_set w5 g 1 _ HB5.out]; rfl
          obtain ⟨hrV, hgV, hzV, hiV⟩ := HS5.out.put HQ.out HGW.out hVb hVs (by rw [hV]; exact ⟨rfl, rfl, rfl⟩)
          have HIV := Lib.hid (hiV _ _ HI5.out)
          have HRV := Lib.hid hrV
          have HGV := Lib.hid hgV
          have HZV := Lib.hid hzV
          have HV := Lib.hid hV
          obtain ⟨x0, x1, x2⟩ := cells3 hVg
          obtain ⟨z0, z1, z2, z3⟩ := zt_facts hzV
          clear hV hVb hVs hVg hrV hgV hzV hiV c5 f5
          rw [← HV.out]
          go_wp2
          obtain ⟨u0, u1, u2⟩ := drew_end (x := .slice a1 t.items.length cp1) (y := .int .i64 (t.nxt + p - 2)) (z := .int .i64 t.ack) (cap := cp1) HQ.out HIV.out HRV.out HGV.out
          refine bodyPost_ret (results_cell_row rfl _ _ w.heap.size _ #[.slice a1 t.items.length cp1, .int .i64 (t.nxt + p - 2), .int .i64 t.ack] (0, 0) _ rfl (set3 (zobj_eq HZV.out)) Try.underlying25 rfl (by kernel_rfl)) rfl ?_
          have h1 := HN1.out
          have h2 := HK1.out
          have h3 := HL1.out
          exact ⟨a1, cp1, ⟨t.items, t.nxt + p - 2, t.ack⟩, rfl, u0, HL1.out, HLC1.out, ⟨by show -2 ≤ t.nxt + p - 2; omega, by show t.nxt + p - 2 ≤ 23; omega⟩, ⟨by show -2 ≤ t.ack; omega, by show t.ack ≤ 23; omega⟩, u1, u2⟩
      have hmB : (m == 0) = false := by simp [hm]
      by_cases hm2 : m = 1
      · subst hm2
        go_wp2_with fail
        have HW4 : Hid (w4.heap[g]? = some (.cells #[.slice a1 t.items.length cp1, .int .i64 t.nxt, .int .i64 t.ack] 25 (0, 0))) := hc1
        go_region_with ((go_at_call 16; refine (pick_r q K 5 _ (by exact HR4.out) (by omega) (by omega)).mono ?_; rintro e w5 ⟨p, hp0, hp1, rfl, hr5, hk5⟩; have hb5 : w5.heap[g]? = some (.cells #[.slice a1 t.items.length cp1, .int .i64 t.nxt, .int .i64 t.ack] 25 (0, 0)) := (hk5.block g hgq).trans HW4.out; have c5 : w5.cell? ⟨g, 2, none⟩ = some (.int .i64 t.ack) := ((cells3 hb5).2.2); have f5 := frozen_of_cells hb5 2; have s1 : IntKind.i64.wrap (t.ack + p) = t.ack + p := (by have := HN1.out; have := HK1.out; have := HL1.out; rw [IntKind.wrap_i64]; omega); have s2 : IntKind.i64.wrap (t.ack + p - 2) = t.ack + p - 2 := (by have := HN1.out; have := HK1.out; have := HL1.out; rw [IntKind.wrap_i64]; omega); have HB5 := Lib.hid hb5; clear hb5))
        all_goals
          have HS5 : Hid (TfSt q K g w w5) := HS4.out.pick HQ.out HGW.out ⟨hk5.os, hk5.tape, hk5.output, hk5.size, hk5.block⟩ hr5
          have HI5 : Hid (ItAt w5 (w.heap.size + 1) g a1 t.items) := HI1.out.keep (Nat.le_of_eq hk5.size.symm) (fun i h1 _ _ => hk5.block i (by have := HQ.out; omega))
          clear hk5 hr5
          obtain ⟨V, hV⟩ : ∃ V, V = w5.setCell ⟨g, 2, none⟩ (.int .i64 (t.ack + p - 2)) := ⟨_, rfl⟩
          have hVb : ∀ i, i ≠ g → V.heap[i]? = w5.heap[i]? := fun i hi => by rw [hV, heap_set_ne _ _ _ _ _ hi]
          have hVs : V.heap.size = w5.heap.size := by rw [hV]; simp [World.setCell]
          have hVg : V.heap[g]? = some (.cells #[.slice a1 t.items.length cp1, .int .i64 t.nxt, .int .i64 (t.ack + p - 2)] 25 (0, 0)) := by rw [hV, heap_set w5 g 2 _ HB5.out]; rfl
          obtain ⟨hrV, hgV, hzV, hiV⟩ := HS5.out.put HQ.out HGW.out hVb hVs (by rw [hV]; exact ⟨rfl, rfl, rfl⟩)
          have HIV := Lib.hid (hiV _ _ HI5.out)
          have HRV := Lib.hid hrV
          have HGV := Lib.hid hgV
          have HZV := Lib.hid hzV
          have HV := Lib.hid hV
          obtain ⟨x0, x1, x2⟩ := cells3 hVg
          obtain ⟨z0, z1, z2, z3⟩ := zt_facts hzV
          clear hV hVb hVs hVg hrV hgV hzV hiV c5 f5
          rw [← HV.out]
          go_wp2
          obtain ⟨u0, u1, u2⟩ := drew_end (x := .slice a1 t.items.length cp1) (y := .int .i64 t.nxt) (z := .int .i64 (t.ack + p - 2)) (cap := cp1) HQ.out HIV.out HRV.out HGV.out
          refine bodyPost_ret (results_cell_row rfl _ _ w.heap.size _ #[.slice a1 t.items.length cp1, .int .i64 t.nxt, .int .i64 (t.ack + p - 2)] (0, 0) _ rfl (set3 (zobj_eq HZV.out)) Try.underlying25 rfl (by kernel_rfl)) rfl ?_
          have h1 := HN1.out
          have h2 := HK1.out
          have h3 := HL1.out
          exact ⟨a1, cp1, ⟨t.items, t.nxt, t.ack + p - 2⟩, rfl, u0, HL1.out, HLC1.out, ⟨by show -2 ≤ t.nxt; omega, by show t.nxt ≤ 23; omega⟩, ⟨by show -2 ≤ t.ack + p - 2; omega, by show t.ack + p - 2 ≤ 23; omega⟩, u1, u2⟩
      have hmB2 : (m == 1) = false := by simp [hm2]
      have HRS := Lib.hid HS4.out.res
      obtain ⟨z0, z1, z2, z3⟩ := zt_facts HRS.out
      clear hc1
      go_wp2
      obtain ⟨u0, u1, u2⟩ := drew_end (x := .slice a1 t.items.length cp1) (y := .int .i64 t.nxt) (z := .int .i64 t.ack) (cap := cp1) HQ.out HI1.out (HR4.out.less (Nat.le_succ K)) HS4.out.grown
      refine bodyPost_ret (results_cell_row rfl _ _ w.heap.size _ #[.slice a1 t.items.length cp1, .int .i64 t.nxt, .int .i64 t.ack] (0, 0) _ rfl (set3 (zobj_eq HRS.out)) Try.underlying25 rfl (by kernel_rfl)) rfl ?_
      have h1 := HN1.out
      have h2 := HK1.out
      have h3 := HL1.out
      exact ⟨a1, cp1, t, rfl, u0, HL1.out, HLC1.out, ⟨by omega, by omega⟩, ⟨by omega, by omega⟩, u1, u2⟩
end Go.Proofs.Ytoiecicfmnpnoaa
