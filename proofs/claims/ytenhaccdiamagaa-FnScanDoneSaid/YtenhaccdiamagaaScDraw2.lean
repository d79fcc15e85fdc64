/- Scans: drawing a scan. -/
import Derived.Test.YtenhaccdiamagaaScDraw
namespace Go.Proofs.Ytenhaccdiamagaa
open Go.RowKit
set_option linter.unusedVariables false
attribute [local go_sem ↓] Go.wp_at_zero Go.wp_at_succ

/-- a drawn scan -/
def ScPost (q K : Nat) (w : World) (e : Ending) (w' : World) : Prop :=
  ∃ (b cb : Nat) (s : Sc), e = .returned (.agg #[.int .i64 s.x, .slice (some ⟨b, 0, none⟩) s.t.length cb]) ∧ (-1 ≤ s.x ∧ s.x ≤ 65) ∧ s.t.length ≤ 66 ∧ OwnI w' w.heap.size (some ⟨b, 0, none⟩) cb s.t ∧ Ready w' q K ∧ w.grownBy w' (some q)
theorem ScSt.pick {q g n : Nat} {V wr w2 : World} {x : Int} {ts : List Int} (h : ScSt (some q) g V wr x ts n) (hq : q < V.heap.size) (hg : V.heap.size ≤ g) (hk : Kept q wr w2) : ScSt (some q) g V w2 x ts n := by
  obtain ⟨b, cb, h1, h2, h3, h4⟩ := h.sc
  exact ⟨⟨b, cb, (hk.block _ (by omega)).trans h1, h2, h3.kept (fun i h1 h2 => hk.block i (by omega)), h4⟩, grown_trans h.grown hk.grown, by have := hk.size; have := h.lt; omega⟩
/-- .. the reader stays as it was behind an append -/
theorem sc_rdy {q K g k' b b5 cb5 : Nat} {V w2 W w5 : World} (hq : q < V.heap.size) (hg : V.heap.size ≤ g) (hg2 : V.grownBy w2 (some q)) (hb : V.heap.size ≤ b) (hr : Ready w2 q K) (hW : Below w2.heap.size w2 W) (hg5 : W.grownBy w5 (some b)) :
    Ready (w5.setCell ⟨g, 1, none⟩ (.slice (some ⟨b5, 0, none⟩) k' cb5)) q K := hr.keep fun i hi => sc_off hW hg5 (by have := hg2.size; omega) (by omega) (by omega)
theorem rdy_set {w : World} {q k g : Nat} {u : Value} (h : Ready w q k) (hne : q < g) (i : Nat) : Ready (w.setCell ⟨g, i, none⟩ u) q k := h.keep fun j hj => heap_set_ne _ _ _ _ _ (by omega)
/-- the scan handed back: it is copied to the block of the answer -/
theorem sc_end {q K g n : Nat} {w V wz : World} {x : Int} {ts : List Int} (h : ScSt (some q) g V wz x ts n) (hr : Ready wz q K) (hwV : w.grownBy V (some q)) (hq : q < w.heap.size) (hr0 : w.heap.size < V.heap.size) (hx : -1 ≤ x ∧ x ≤ 65) (hn : n ≤ 66) {b cb : Nat} (hc : wz.heap[g]? = some (.cells #[.int .i64 x, .slice (some ⟨b, 0, none⟩) n cb] 26 (0, 0))) :
    ScPost q K w (.returned (.agg #[.int .i64 x, .slice (some ⟨b, 0, none⟩) n cb])) ((wz.setCell ⟨w.heap.size, 0, none⟩ (.int .i64 x)).setCell ⟨w.heap.size, 1, none⟩ (.slice (some ⟨b, 0, none⟩) n cb)) := by
  obtain ⟨b', cb', h1, h2, h3, h4⟩ := h.sc
  rw [hc] at h1
  injection h1 with h1; injection h1 with h1
  have h1 : #[Value.int .i64 x, .slice (some ⟨b, 0, none⟩) n cb] = #[Value.int .i64 x, .slice (some ⟨b', 0, none⟩) n cb'] := h1
  obtain ⟨rfl, rfl⟩ : b = b' ∧ cb = cb' := by simpa using h1
  have hbl := h3.lt
  have hg := grown_trans hwV h.grown
  subst h2
  refine ⟨b, cb, ⟨x, ts⟩, rfl, hx, hn, (own_atS h3 (fun y hy => by injection hy with hy; subst hy; exact set2s_ne (by show b ≠ _; omega))).less (by omega), rdy_set (rdy_set hr hq 0) hq 1, ?_⟩
  exact ⟨hg.os, hg.tape, hg.output, by simp [World.setCell]; exact hg.size, fun i hi hne => (set2s_ne (by omega)).trans (hg.block i hi hne)⟩

set_option maxRecDepth 20000 in
set_option maxHeartbeats 4000000 in
theorem scanD_any (q K : Nat) (w : World) (h : Ready w q (K + 68)) :
    Calls Try.prog 51 #[.pointer (some ⟨q, 0, none⟩)] w (ScPost q K w) := by
  have hq := h.lt
  have HQ := Lib.hid hq
  obtain ⟨w1, hw1⟩ : ∃ w1, w1 = w.alloc (.cells #[.int .i64 0, .slice none 0 0] 26) := ⟨_, rfl⟩
  have hR1 : Ready w1 q (K + 68) := by rw [hw1]; exact h.keep (fun i hi => Below.heap_alloc _ _ _ (by omega))
  have HG1 : Hid (w.grownBy w1 (some q)) := by show World.grownBy _ _ _; rw [hw1]; exact World.grownBy_alloc w _ _
  have HR1 := Lib.hid hR1
  have H1 : Hid (w1.heap[w.heap.size]? = some (.cells #[.int .i64 0, .slice none 0 0] 26 (0, 0))) := by show _ = _; rw [hw1]; exact heap_alloc_new w _
  have HW := Lib.hid hw1
  have HS1 : Hid (w1.heap.size = w.heap.size + 1) := by show _ = _; rw [hw1]; simp
  clear h hw1 hR1
  go_enter Try.func51, Try.ntmps51
  go_wp2_with fail
  rw [← HW.out]
  refine (pick_r q (K + 67) 66 w1 (HR1.out.less (by omega)) (by omega) (by omega)).mono ?_
  rintro e V ⟨x0, hx0, hx1, rfl, hrV, hkV⟩
  have HRV := Lib.hid hrV
  have HGV := Lib.hid (grown_trans HG1.out hkV.grown)
  have HVS : Hid (V.heap.size = w.heap.size + 1) := by show _ = _; rw [hkV.size]; exact HS1.out
  have HV1 : Hid (V.heap[w.heap.size]? = some (.cells #[.int .i64 0, .slice none 0 0] 26 (0, 0))) := (hkV.block _ (by omega)).trans H1.out
  obtain ⟨X, rfl, hX⟩ : ∃ X : Nat, x0 = (X : Int) ∧ X ≤ 65 := ⟨x0.toNat, by omega, by omega⟩
  have hqV : q < V.heap.size := by have := HVS.out; omega
  have HQV := Lib.hid hqV
  clear hrV hkV hx0 hx1
  obtain ⟨g, hg⟩ : ∃ g, g = V.heap.size + 1 := ⟨_, rfl⟩
  have HGG := Lib.hid hg
  have HGW : Hid (V.heap.size ≤ g) := by show _ ≤ _; omega
  have H0 : Hid (ScSt (some q) g V ((V.alloc (.cells #[] 3)).alloc (.cells #[.int .i64 (X : Int), .slice (some ⟨V.heap.size, 0, none⟩) 0 0] 26)) (X : Int) [] 0 ∧ Ready ((V.alloc (.cells #[] 3)).alloc (.cells #[.int .i64 (X : Int), .slice (some ⟨V.heap.size, 0, none⟩) 0 0] 26)) q (K + 67)) := by
    refine ⟨⟨⟨V.heap.size, 0, ?_, rfl, own_empty (heap_first V _ _) (Nat.le_refl _), by omega⟩, grown_trans (World.grownBy_alloc V _ _) (World.grownBy_alloc _ _ _), by simp; omega⟩, HRV.out.keep (fun i hi => (Below.heap_alloc _ _ _ (by simp; omega)).trans (Below.heap_alloc _ _ _ (by omega)))⟩
    rw [hg]; exact heap_second V _ _
  go_wp2
  rw [← HGG.out]
  clear hg
  go_loopw [4] (fun iv wr => ∃ (k m : Nat) (ts : List Int), k ≤ X ∧ m ≤ k ∧ iv = .int .i64 k ∧ ScSt (some q) g V wr (X : Int) ts m ∧ Ready wr q (K + 2 + (65 - k))) (fun iv _ => X - (intOf iv).toNat)
  case atStart => exact ⟨0, 0, [], by omega, by omega, rfl, H0.out.1, H0.out.2.less (by omega)⟩
  case round =>
    obtain ⟨k, m, ts, hk, hm, rfl, hst, hrd⟩ := hrel
    have HST := Lib.hid hst
    have HRD := Lib.hid hrd
    obtain ⟨b, cb, hc, _, _, _⟩ := hst.sc
    obtain ⟨c0, c1⟩ := cell2s hc
    clear hst hrd H0 hc
    by_cases hlt : k < X
    · have hki : (k : Int) < (X : Int) := by omega
      go_wp2_with fail
      refine (pick_r q (K + 2 + (65 - (k + 1))) 6 wr (HRD.out.less (by omega)) (by omega) (by omega)).mono ?_
      rintro e w2 ⟨v, hv0, hv1, rfl, hr2, hk2⟩
      have HR2 := Lib.hid hr2
      have HST2 := Lib.hid (HST.out.pick HQV.out HGW.out hk2)
      clear hr2 hk2 c0 c1
      by_cases hv : v = 0
      · subst hv
        obtain ⟨b2, cb2, hc2, hl2, hown2, hbg2⟩ := HST2.out.sc
        have HC2 := Lib.hid hc2
        have HBG2 := Lib.hid hbg2
        have HYL := Lib.hid hl2
        have HBL2 := Lib.hid hown2.lt
        have HO2 := Lib.hid hown2
        obtain ⟨d0, d1⟩ := cell2s hc2
        have hgr2 := HST2.out.grown.size
        clear hc2 hl2 hown2 hbg2
        go_wp2_with (at_builtin; have h1 := (HO2.out.keepB (alB w2 (.cells #[.int .i64 (k : Int)] 3)) (Nat.le_refl _)); have h2 := src_one (heap_alloc_new w2 (.cells #[.int .i64 (k : Int)] 3)); unfold OwnI at h1; rw [HYL.out] at h1; refine wl_app _ (by rfl) _ _ (by rfl) V.heap.size b2 m cb2 (vals ts) (by rfl) h1 ⟨w2.heap.size, 0, none⟩ 1 1 [.int .i64 (k : Int)] (by rfl) rfl h2 (by simp [Value.oneCell']) (m + 1) (vals (ts ++ [(k : Int)])) rfl (by simp [vals]) (by omega) (by simp; omega) ?_; intro b5 cb5 w7 hown7 hg7 hat7; have hc7 := cell2s ((sc_mid (alB w2 _) hg7 HST2.out.lt HBG2.out).trans HC2.out); have f7 := frozen_of_cells ((sc_mid (alB w2 _) hg7 HST2.out.lt HBG2.out).trans HC2.out) 1; have H7 := Lib.hid (sc_app (ys := ts ++ [(k : Int)]) (k' := m + 1) (fun j hj => by injection hj with hj; omega) HGW.out HST2.out.grown HST2.out.lt HBL2.out.1 HBG2.out HC2.out (alB w2 _) hg7 hat7 (by rw [List.length_append, HYL.out]; rfl) hown7); have HR7 := Lib.hid (sc_rdy (g := g) (k' := m + 1) (b5 := b5) (cb5 := cb5) HQV.out HGW.out HST2.out.grown HBL2.out.1 HR2.out (alB w2 _) hg7); obtain ⟨e0, e1⟩ := hc7; clear hown7 hg7 hat7 h1 h2 d0 d1)
        go_roundw
        case rel => exact ⟨k + 1, m + 1, ts ++ [(k : Int)], by omega, by omega, by go_num, H7.out, HR7.out⟩
        case measure => simp [intOf]; omega
      · have hv' : (v == 0) = false := by simp [hv]
        go_wp2
        go_roundw
        case rel => exact ⟨k + 1, m, ts, by omega, by omega, by go_num, HST2.out, HR2.out⟩
        case measure => simp [intOf]; omega
    · obtain rfl : k = X := by omega
      go_wp2_with fail
      refine (pick_r q (K + 1) 14 wr (HRD.out.less (by omega)) (by omega) (by omega)).mono ?_
      rintro e w2 ⟨v, hv0, hv1, rfl, hr2, hk2⟩
      have HR2 := Lib.hid hr2
      have HST2 := Lib.hid (HST.out.pick HQV.out HGW.out hk2)
      have H2 : Hid (w2.heap[w.heap.size]? = some (.cells #[.int .i64 0, .slice none 0 0] 26 (0, 0))) := (HST2.out.grown.block _ (by have := HVS.out; omega) (fun e => by injection e with e; omega)).trans HV1.out
      have HVL : Hid (w.heap.size < V.heap.size) := by show _ < _; have := HVS.out; omega
      clear hr2 hk2 c0 c1
      by_cases hv : v = 0
      · subst hv
        go_wp2_with fail
        refine (pick_r q K 67 w2 HR2.out (by omega) (by omega)).mono ?_
        rintro e w3 ⟨u, hu0, hu1, rfl, hr3, hk3⟩
        have sw : IntKind.i64.wrap (u - 1) = u - 1 := by rw [IntKind.wrap_i64]; omega
        have HST3 := Lib.hid (HST2.out.pick HQV.out HGW.out hk3)
        have HST9 := Lib.hid (HST3.out.setX HGW.out (u - 1))
        have HR9 : Hid (Ready (w3.setCell ⟨g, 0, none⟩ (.int .i64 (u - 1))) q K) := rdy_set hr3 (by have := HQV.out; have := HGW.out; omega) 0
        have HH9 : Hid ((w3.setCell ⟨g, 0, none⟩ (.int .i64 (u - 1))).heap[w.heap.size]? = some (.cells #[.int .i64 0, .slice none 0 0] 26 (0, 0))) := (heap_set_ne _ _ _ _ _ (by have := HGW.out; have := HVL.out; omega)).trans ((hk3.block _ (by omega)).trans H2.out)
        obtain ⟨b3, cb3, hc3, _, _, _⟩ := HST3.out.sc
        obtain ⟨x0, x1⟩ := cell2s hc3
        have fx := frozen_of_cells hc3 0
        clear hr3 hk3 hc3
        obtain ⟨b9, cb9, hc9, _, _, _⟩ := HST9.out.sc
        obtain ⟨d0, d1⟩ := cell2s hc9
        have h9 := HH9.out
        obtain ⟨e0, e1⟩ := cell2s h9
        have f0 := frozen_of_cells h9 0
        have f1 := frozen_of_cells h9 1
        have HC9 := Lib.hid hc9
        clear hc9 h9
        go_wp2
        refine bodyPost_ret (results_cell_row rfl _ _ w.heap.size _ #[.int .i64 (u - 1), .slice (some ⟨b9, 0, none⟩) m cb9] (0, 0) _ rfl (set2s HH9.out) Try.underlying26 rfl (by kernel_rfl)) rfl ?_
        exact sc_end HST9.out HR9.out HGV.out HQ.out HVL.out (by omega) (by omega) HC9.out
      have hv' : (v == 0) = false := by simp [hv]
      by_cases hv1 : v = 1
      · subst hv1
        obtain ⟨b2, cb2, hc2, hl2, hown2, hbg2⟩ := HST2.out.sc
        have HC2 := Lib.hid hc2
        have HBG2 := Lib.hid hbg2
        have HYL := Lib.hid hl2
        have HBL2 := Lib.hid hown2.lt
        have HO2 := Lib.hid hown2
        have hgr2 := HST2.out.grown.size
        obtain ⟨d0, d1⟩ := cell2s hc2
        clear hc2 hl2 hown2 hbg2 hv
        go_wp2_with fail
        go_region_law ((first
          | (refine step_app (o := ⟨some 39, _, _, _, _, _⟩) _ (by rfl) (.tmp 35) (.tmp 38) (by rfl) V.heap.size b2 m cb2 (vals ts) (by rfl) (HOW.out _ (by repeat (first | exact Below.refl _ _ | apply Below.drew | (refine Below.alloc ?_ (by first | exact Nat.le_refl _ | (simp; done) | (simp; omega) | omega) _)))) ⟨_, 0, none⟩ 1 1 [.int .i64 x7] (by rfl) rfl (src_one (by exact heap_alloc_new _ _)) (by simp [Value.oneCell']) (m + 1) (vals (ts ++ [x7])) rfl (by simp [vals]) (by omega) (HSB.out _ (by repeat (first | exact Below.refl _ _ | apply Below.drew | (refine Below.alloc ?_ (by first | exact Nat.le_refl _ | (simp; done) | (simp; omega) | omega) _)))) ?_
             intro b5 cb5 w7 hown7 hg7 hat7
             have HBW := mk_bs (wx := wb) hg7 (by repeat (first | exact Below.refl _ _ | apply Below.drew | (refine Below.alloc ?_ (by first | exact Nat.le_refl _ | (simp; done) | (simp; omega) | omega) _)))
             have HG7 := Lib.hid hg7
             have HO7 := Lib.hid hown7
             have HT7 := Lib.hid hat7
             have hc7 := cell2s ((sc_mid HBW.out HG7.out HLB.out HBG2.out).trans HCB.out)
             have f7 := frozen_of_cells ((sc_mid HBW.out HG7.out HLB.out HBG2.out).trans HCB.out) 1
             obtain ⟨e0, e1⟩ := hc7
             clear hown7 hg7 hat7)
          | (go_simp
             go_at_call 62
             refine (pick_r q K 64 _ ?hrdy ?hp1 ?hp2).mono ?_
             case hrdy => exact (HR2.out.less (by omega)).keep (fun _ _ => rfl)
             case hp1 => omega
             case hp2 => omega
             rintro e wb ⟨x7, hx70, hx71, rfl, hrb, hkb⟩
             have HKB : Hid (Kept q w2 wb) := ⟨hkb.os, hkb.tape, hkb.output, hkb.size, hkb.block⟩
             have HRB := Lib.hid hrb
             have hcb := (HKB.out.block g (by have := HGW.out; have := HQV.out; omega)).trans HC2.out
             have HCB := Lib.hid hcb
             have HLB : Hid (g < wb.heap.size) := heap_lt hcb
             have c1b := (cell2s hcb).2
             have c1c : ∀ o, (wb.alloc o).cell? ⟨g, 1, none⟩ = some (.slice (some ⟨b2, 0, none⟩) m cb2) := fun o => (World.cell?_of_block (a := ⟨g, 1, none⟩) (Below.heap_alloc _ _ _ HLB.out)).trans c1b
             have HOW : Hid (∀ U, Below wb.heap.size wb U → U.ownsRow V.heap.size 3 1 (.slice (some ⟨b2, 0, none⟩) m cb2) m (vals ts)) := (fun U hb => (by
               have h := (HO2.out.kept (w' := wb) (fun i h1 h2 => HKB.out.block i (by have := HQV.out; omega))).kept (w' := U) (fun i h1 h2 => hb.block i h2)
               unfold OwnI at h; rw [HYL.out] at h; exact h))
             have HSB : Hid (∀ U, Below wb.heap.size wb U → V.heap.size ≤ U.heap.size) := (fun U hb => Nat.le_trans HST2.out.grown.size (Nat.le_trans (Nat.le_of_eq HKB.out.size.symm) hb.size))
             clear hrb hkb hcb)))
        all_goals
          have HST9 := Lib.hid (sc_app (ys := ts ++ [x7]) (k' := m + 1) (fun j hj => by injection hj with hj; have := HQV.out; omega) HGW.out (grown_trans HST2.out.grown HKB.out.grown) HLB.out HBL2.out.1 HBG2.out HCB.out HBW.out HG7.out HT7.out (by rw [List.length_append, HYL.out]; rfl) HO7.out)
          have HR9 := Lib.hid (sc_rdy (g := g) (k' := m + 1) (b5 := b5) (cb5 := cb5) HQV.out HGW.out (grown_trans HST2.out.grown HKB.out.grown) HBL2.out.1 HRB.out HBW.out HG7.out)
          have HH9 := Lib.hid ((sc_off (g := g) (k' := m + 1) (b5 := b5) (cb5 := cb5) (i := w.heap.size) HBW.out HG7.out (by have := HKB.out.size; have := HVL.out; omega) (by have := HVL.out; have := HBL2.out.1; omega) (by have := HVL.out; have := HGW.out; omega)).trans ((HKB.out.block _ (by omega)).trans H2.out))
          clear d0 d1 e0 e1 f7
          obtain ⟨b9, cb9, hc9, _, _, _⟩ := HST9.out.sc
          obtain ⟨d0, d1⟩ := cell2s hc9
          have h9 := HH9.out
          obtain ⟨e0, e1⟩ := cell2s h9
          have f0 := frozen_of_cells h9 0
          have f1 := frozen_of_cells h9 1
          have HC9 := Lib.hid hc9
          clear hc9 h9
          go_wp2
          refine bodyPost_ret (results_cell_row rfl _ _ w.heap.size _ #[.int .i64 (k : Int), .slice (some ⟨b9, 0, none⟩) (m + 1) cb9] (0, 0) _ rfl (set2s HH9.out) Try.underlying26 rfl (by kernel_rfl)) rfl ?_
          exact sc_end HST9.out HR9.out HGV.out HQ.out HVL.out (by omega) (by omega) HC9.out
      · have hv1' : (v == 1) = false := by simp [hv1]
        have HST9 := HST2
        have HH9 := H2
        obtain ⟨b9, cb9, hc9, _, _, _⟩ := HST9.out.sc
        obtain ⟨d0, d1⟩ := cell2s hc9
        have h9 := HH9.out
        obtain ⟨e0, e1⟩ := cell2s h9
        have f0 := frozen_of_cells h9 0
        have f1 := frozen_of_cells h9 1
        have HC9 := Lib.hid hc9
        clear hc9 h9
        go_wp2
        refine bodyPost_ret (results_cell_row rfl _ _ w.heap.size _ #[.int .i64 (k : Int), .slice (some ⟨b9, 0, none⟩) m cb9] (0, 0) _ rfl (set2s HH9.out) Try.underlying26 rfl (by kernel_rfl)) rfl ?_
        exact sc_end HST9.out (HR2.out.less (by omega)) HGV.out HQ.out HVL.out (by omega) (by omega) HC9.out
end Go.Proofs.Ytenhaccdiamagaa
