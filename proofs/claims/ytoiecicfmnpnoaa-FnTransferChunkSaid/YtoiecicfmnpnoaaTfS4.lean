/- Transfers: the model's acknowledgements. -/
import Derived.Test.YtoiecicfmnpnoaaTfS3
namespace Go.Proofs.Ytoiecicfmnpnoaa
open Go.RowKit
set_option linter.unusedVariables false

attribute [local go_sem ↓] Go.wp_at_zero Go.wp_at_succ

theorem ackT_no1 {t : Tf} {n : Int} (h : tfB t = false) : ackT t n = zTf ∧ ackB t n = false := by unfold ackT ackB; rw [h]; exact ⟨rfl, rfl⟩
theorem ackT_no2 {t : Tf} {n : Int} (h : inB n 0 t.nxt = false) : ackT t n = zTf ∧ ackB t n = false := by unfold ackT ackB; rw [h, Bool.and_false]; exact ⟨rfl, rfl⟩
theorem ackT_yes {t : Tf} {n : Int} (h : tfB t = true) (h2 : inB n 0 t.nxt = true) : ackT t n = ⟨t.items, t.nxt, max t.ack n⟩ ∧ ackB t n = decide (t.ack ≤ n) := by unfold ackT ackB; rw [h, h2]; exact ⟨rfl, rfl⟩
theorem set3_cell {w : World} {g k i : Nat} {x y z : Value} (h : k ≠ g) : (((w.setCell ⟨g, 0, none⟩ x).setCell ⟨g, 1, none⟩ y).setCell ⟨g, 2, none⟩ z).cell? ⟨k, i, none⟩ = w.cell? ⟨k, i, none⟩ :=
  World.cell?_of_block (set3_ne h)

set_option maxHeartbeats 1000000 in
theorem sack_any (a : Option Addr) (cap : Nat) (t : Tf) (n : Int) (w : World) (h : IntsAt w a t.items) (hm : t.items.length ≤ maxLen) :
    Calls Try.prog 24 #[.agg #[.slice a t.items.length cap, .int .i64 t.nxt, .int .i64 t.ack], .int .i64 n] w (NewTfB (ackT t n) (ackB t n) w) := by
  have HI := Lib.hid h
  have HM := Lib.hid hm
  clear h hm
  obtain ⟨W, hW⟩ : ∃ W, W = (w.alloc (.cells #[.slice a t.items.length cap, .int .i64 t.nxt, .int .i64 t.ack] 25)).alloc (.cells #[.slice none 0 0, .int .i64 0, .int .i64 0] 25) := ⟨_, rfl⟩
  obtain ⟨hs, hB, h1, h2⟩ := two_newT hW
  have HB := Lib.hid hB
  have HW := Lib.hid hW
  have HS := Lib.hid hs
  have H1 := Lib.hid h1
  have H2 := Lib.hid h2
  clear hW hB hs h1 h2
  obtain ⟨c0, c1, c2⟩ := cells3 H1.out
  rcases bcs (tfB t) with hv | hv
  rotate_left
  · have HV := Lib.hid hv
    clear hv
    go_enter Try.func24, Try.ntmps24
    go_wp2_with fail
    rw [← HW.out]
    go_wp2_with fail
    refine (stv_as false a cap t W (HI.out.keepB HB.out (Nat.le_refl _)) HM.out HV.out).mono ?_
    rintro e w2 ⟨rfl, hb2⟩
    have hz := HS.out
    have h6 := (hb2.block (w.heap.size + 1) (by omega)).trans H2.out
    obtain ⟨e0, e1, e2⟩ := cells3 h6
    have g0 := frozen_of_cells h6 0
    have g1 := frozen_of_cells h6 1
    have g2 := frozen_of_cells h6 2
    have H6 := Lib.hid h6
    have HB2 := Lib.hid (HB.out.trans (hb2.mono (by omega)))
    clear h6 hb2 hz
    go_wp2
    refine bodyPost_ret (res_ct rfl _ _ (w.heap.size + 1) _ #[.slice none 0 0, .int .i64 0, .int .i64 0] (0, 0) _ rfl (set3 H6.out) Try.underlying25 rfl (by kernel_rfl)) rfl ?_
    rw [(ackT_no1 HV.out).1, (ackT_no1 HV.out).2]
    exact ⟨none, 0, rfl, own_nilI _ _, below_set3 HB2.out (by omega) _ _ _⟩
  have HV := Lib.hid hv
  clear hv
  rcases bcs (inB n 0 t.nxt) with hn | hn
  rotate_left
  · have HN := Lib.hid hn
    clear hn
    go_enter Try.func24, Try.ntmps24
    go_wp2_with fail
    rw [← HW.out]
    go_wp2_with fail
    refine (stv_as true a cap t W (HI.out.keepB HB.out (Nat.le_refl _)) HM.out HV.out).mono ?_
    rintro e w2 ⟨rfl, hb2⟩
    have hz := HS.out
    have h5 := (hb2.block w.heap.size (by omega)).trans H1.out
    have h6 := (hb2.block (w.heap.size + 1) (by omega)).trans H2.out
    obtain ⟨d0, d1, d2⟩ := cells3 h5
    obtain ⟨e0, e1, e2⟩ := cells3 h6
    have g0 := frozen_of_cells h6 0
    have g1 := frozen_of_cells h6 1
    have g2 := frozen_of_cells h6 2
    have H6 := Lib.hid h6
    have HB2 := Lib.hid (HB.out.trans (hb2.mono (by omega)))
    clear h5 h6 hb2 hz c0 c1 c2
    go_wp2_with fail
    refine (in_as false _ _ _ w2 HN.out).mono ?_
    rintro e w3 ⟨rfl, rfl⟩
    go_wp2
    refine bodyPost_ret (res_ct rfl _ _ (w.heap.size + 1) _ #[.slice none 0 0, .int .i64 0, .int .i64 0] (0, 0) _ rfl (set3 H6.out) Try.underlying25 rfl (by kernel_rfl)) rfl ?_
    rw [(ackT_no2 HN.out).1, (ackT_no2 HN.out).2]
    exact ⟨none, 0, rfl, own_nilI _ _, below_set3 HB2.out (by omega) _ _ _⟩
  have HN := Lib.hid hn
  clear hn
  go_enter Try.func24, Try.ntmps24
  go_wp2_with fail
  rw [← HW.out]
  go_wp2_with fail
  refine (stv_as true a cap t W (HI.out.keepB HB.out (Nat.le_refl _)) HM.out HV.out).mono ?_
  rintro e w2 ⟨rfl, hb2⟩
  have hz := HS.out
  have h5 := (hb2.block w.heap.size (by omega)).trans H1.out
  obtain ⟨d0, d1, d2⟩ := cells3 h5
  have HB2 := Lib.hid (HB.out.trans (hb2.mono (by omega)))
  have HB2W := Lib.hid hb2
  clear h5 hb2 hz c0 c1 c2
  go_wp2_with fail
  refine (in_as true _ _ _ w2 HN.out).mono ?_
  rintro e w3 ⟨rfl, rfl⟩
  go_wp2_with fail
  refine (scopy_any a cap t w2 (HI.out.keepB HB2.out (Nat.le_refl _)) (by have := tf_len HV.out; omega)).mono ?_
  rintro e w3 ⟨a3, c3, rfl, ho3, hb3⟩
  have hz := HS.out
  have hz2 := HB2W.out.size
  have hz3 := hb3.size
  have hW3 : Below W.heap.size W w3 := HB2W.out.trans (hb3.mono hz2)
  have h5 := (hW3.block w.heap.size (by omega)).trans H1.out
  have h6 := (hW3.block (w.heap.size + 1) (by omega)).trans H2.out
  have HB3 := Lib.hid (HB.out.trans (hW3.mono (by omega)))
  have HA : Hid (∀ o, Below w3.heap.size w3 (w3.alloc o)) := fun o => (Below.refl _ _).alloc (Nat.le_refl _) _
  have k5 : ∀ o, (w3.alloc o).heap[w.heap.size]? = some (.cells #[.slice a t.items.length cap, .int .i64 t.nxt, .int .i64 t.ack] 25 (0, 0)) := fun o => ((HA.out o).block _ (by omega)).trans h5
  have k6 : ∀ o, (w3.alloc o).heap[w.heap.size + 1]? = some (.cells #[.slice none 0 0, .int .i64 0, .int .i64 0] 25 (0, 0)) := fun o => ((HA.out o).block _ (by omega)).trans h6
  have q2 : ∀ o, (w3.alloc o).cell? ⟨w.heap.size, 2, none⟩ = some (.int .i64 t.ack) := fun o => (cells3 (k5 o)).2.2
  have K5 := Lib.hid k5
  have K6 := Lib.hid k6
  have HO := Lib.hid ho3
  have HSZ : Hid (w.heap.size + 1 < w2.heap.size ∧ w2.heap.size ≤ w3.heap.size) := ⟨by omega, hz3⟩
  clear h5 h6 k5 k6 hb3 hW3 hz hz2 hz3 ho3 d0 d1 d2
  rcases (show t.ack < n ∨ n ≤ t.ack by omega) with hle | hle
  · have HMX : Hid (max t.ack n = n) := by show _ = _; omega
    have HCM : Hid (decide (t.ack ≤ n) = decide (n ≥ t.ack)) := rfl
    go_wp2_with fail
    obtain ⟨W4, h4⟩ : ∃ W4, W4 = w3.alloc (.cells #[.slice a3 t.items.length c3, .int .i64 t.nxt, .int .i64 n] 25) := ⟨_, rfl⟩
    rw [← h4]
    have m4 : W4.heap[w3.heap.size]? = some (.cells #[.slice a3 t.items.length c3, .int .i64 t.nxt, .int .i64 n] 25 (0, 0)) := by rw [h4]; exact heap_alloc_new w3 _
    have m5 := K5.out (.cells #[.slice a3 t.items.length c3, .int .i64 t.nxt, .int .i64 n] 25)
    have m6 := K6.out (.cells #[.slice a3 t.items.length c3, .int .i64 t.nxt, .int .i64 n] 25)
    have HB4 : Hid (Below w.heap.size w W4) := by show Below _ _ _; rw [h4]; exact HB3.out.alloc HB3.out.size _
    have HO4 : Hid (OwnI W4 w2.heap.size a3 c3 t.items) := by show OwnI _ _ _ _ _; rw [h4]; exact HO.out.keepB (HA.out _) (Nat.le_refl _)
    rw [← h4] at m5 m6
    have hsz := HSZ.out
    have hz4 : W4.heap.size = w3.heap.size + 1 := by rw [h4]; simp
    obtain ⟨x0, x1, x2⟩ := cells3 m4
    obtain ⟨_, _, y2⟩ := cells3 m5
    obtain ⟨e0, e1, e2⟩ := cells3 m6
    have g0 := frozen_of_cells m6 0
    have g1 := frozen_of_cells m6 1
    have g2 := frozen_of_cells m6 2
    have HST : Hid (∀ u0 u1 u2 : Value, (((W4.setCell ⟨w.heap.size + 1, 0, none⟩ u0).setCell ⟨w.heap.size + 1, 1, none⟩ u1).setCell ⟨w.heap.size + 1, 2, none⟩ u2).cell? ⟨w3.heap.size, 0, none⟩ = some (.slice a3 t.items.length c3) ∧ (((W4.setCell ⟨w.heap.size + 1, 0, none⟩ u0).setCell ⟨w.heap.size + 1, 1, none⟩ u1).setCell ⟨w.heap.size + 1, 2, none⟩ u2).cell? ⟨w3.heap.size, 1, none⟩ = some (.int .i64 t.nxt) ∧ (((W4.setCell ⟨w.heap.size + 1, 0, none⟩ u0).setCell ⟨w.heap.size + 1, 1, none⟩ u1).setCell ⟨w.heap.size + 1, 2, none⟩ u2).cell? ⟨w3.heap.size, 2, none⟩ = some (.int .i64 n) ∧ (((W4.setCell ⟨w.heap.size + 1, 0, none⟩ u0).setCell ⟨w.heap.size + 1, 1, none⟩ u1).setCell ⟨w.heap.size + 1, 2, none⟩ u2).cell? ⟨w.heap.size, 2, none⟩ = some (.int .i64 t.ack)) := fun u0 u1 u2 =>
      ⟨(set3_cell (by omega)).trans x0, (set3_cell (by omega)).trans x1, (set3_cell (by omega)).trans x2, (set3_cell (by omega)).trans y2⟩
    have HXX : Hid (W4.cell? ⟨w3.heap.size, 0, none⟩ = some (.slice a3 t.items.length c3) ∧ W4.cell? ⟨w3.heap.size, 1, none⟩ = some (.int .i64 t.nxt) ∧ W4.cell? ⟨w3.heap.size, 2, none⟩ = some (.int .i64 n) ∧ W4.cell? ⟨w.heap.size, 2, none⟩ = some (.int .i64 t.ack)) := ⟨x0, x1, x2, y2⟩
    have H6 := Lib.hid m6
    have HZ4 := Lib.hid hz4
    clear h4 m4 m5 m6 hz4 hsz
    go_region_held3 (fun w' => w'.cell? ⟨w3.heap.size, 0, none⟩ = some (.slice a3 t.items.length c3) ∧ w'.cell? ⟨w3.heap.size, 1, none⟩ = some (.int .i64 t.nxt) ∧ w'.cell? ⟨w3.heap.size, 2, none⟩ = some (.int .i64 n) ∧ w'.cell? ⟨w.heap.size, 2, none⟩ = some (.int .i64 t.ack)) (first | (exact HXX.out) | (exact HST.out _ _ _)) ((first | fail))
    go_wp2
    have hsz := HSZ.out
    have hz4 := HZ4.out
    refine bodyPost_ret (res_ct rfl _ _ (w.heap.size + 1) _ #[.slice a3 t.items.length c3, .int .i64 t.nxt, .int .i64 n] (0, 0) _ rfl (set3 H6.out) Try.underlying25 rfl (by kernel_rfl)) rfl ?_
    rw [(ackT_yes HV.out HN.out).1, (ackT_yes HV.out HN.out).2]
    refine ⟨a3, c3, by show _ = Ending.returned (.tuple #[.agg #[_, _, .int .i64 (max t.ack n)], _]); rw [HMX.out]; rfl, ?_, (below_set3 HB4.out (by omega) _ _ _).drew⟩
    exact ((HO4.out.kept (fun k h1 h2 => set3_ne (by omega))).keepB (Below.refl _ _).drew (Nat.le_refl _)).less (by omega)
  · have HMX : Hid (max t.ack n = t.ack) := by show _ = _; omega
    have HCM : Hid (decide (t.ack ≤ n) = decide (n ≥ t.ack)) := rfl
    go_wp2_with fail
    obtain ⟨W4, h4⟩ : ∃ W4, W4 = w3.alloc (.cells #[.slice a3 t.items.length c3, .int .i64 t.nxt, .int .i64 t.ack] 25) := ⟨_, rfl⟩
    rw [← h4]
    have m4 : W4.heap[w3.heap.size]? = some (.cells #[.slice a3 t.items.length c3, .int .i64 t.nxt, .int .i64 t.ack] 25 (0, 0)) := by rw [h4]; exact heap_alloc_new w3 _
    have m5 := K5.out (.cells #[.slice a3 t.items.length c3, .int .i64 t.nxt, .int .i64 t.ack] 25)
    have m6 := K6.out (.cells #[.slice a3 t.items.length c3, .int .i64 t.nxt, .int .i64 t.ack] 25)
    have HB4 : Hid (Below w.heap.size w W4) := by show Below _ _ _; rw [h4]; exact HB3.out.alloc HB3.out.size _
    have HO4 : Hid (OwnI W4 w2.heap.size a3 c3 t.items) := by show OwnI _ _ _ _ _; rw [h4]; exact HO.out.keepB (HA.out _) (Nat.le_refl _)
    rw [← h4] at m5 m6
    have hsz := HSZ.out
    have hz4 : W4.heap.size = w3.heap.size + 1 := by rw [h4]; simp
    obtain ⟨x0, x1, x2⟩ := cells3 m4
    obtain ⟨_, _, y2⟩ := cells3 m5
    obtain ⟨e0, e1, e2⟩ := cells3 m6
    have g0 := frozen_of_cells m6 0
    have g1 := frozen_of_cells m6 1
    have g2 := frozen_of_cells m6 2
    have HST : Hid (∀ u0 u1 u2 : Value, (((W4.setCell ⟨w.heap.size + 1, 0, none⟩ u0).setCell ⟨w.heap.size + 1, 1, none⟩ u1).setCell ⟨w.heap.size + 1, 2, none⟩ u2).cell? ⟨w3.heap.size, 0, none⟩ = some (.slice a3 t.items.length c3) ∧ (((W4.setCell ⟨w.heap.size + 1, 0, none⟩ u0).setCell ⟨w.heap.size + 1, 1, none⟩ u1).setCell ⟨w.heap.size + 1, 2, none⟩ u2).cell? ⟨w3.heap.size, 1, none⟩ = some (.int .i64 t.nxt) ∧ (((W4.setCell ⟨w.heap.size + 1, 0, none⟩ u0).setCell ⟨w.heap.size + 1, 1, none⟩ u1).setCell ⟨w.heap.size + 1, 2, none⟩ u2).cell? ⟨w3.heap.size, 2, none⟩ = some (.int .i64 t.ack) ∧ (((W4.setCell ⟨w.heap.size + 1, 0, none⟩ u0).setCell ⟨w.heap.size + 1, 1, none⟩ u1).setCell ⟨w.heap.size + 1, 2, none⟩ u2).cell? ⟨w.heap.size, 2, none⟩ = some (.int .i64 t.ack)) := fun u0 u1 u2 =>
      ⟨(set3_cell (by omega)).trans x0, (set3_cell (by omega)).trans x1, (set3_cell (by omega)).trans x2, (set3_cell (by omega)).trans y2⟩
    have HXX : Hid (W4.cell? ⟨w3.heap.size, 0, none⟩ = some (.slice a3 t.items.length c3) ∧ W4.cell? ⟨w3.heap.size, 1, none⟩ = some (.int .i64 t.nxt) ∧ W4.cell? ⟨w3.heap.size, 2, none⟩ = some (.int .i64 t.ack) ∧ W4.cell? ⟨w.heap.size, 2, none⟩ = some (.int .i64 t.ack)) := ⟨x0, x1, x2, y2⟩
    have H6 := Lib.hid m6
    have HZ4 := Lib.hid hz4
    clear h4 m4 m5 m6 hz4 hsz
    go_region_held3 (fun w' => w'.cell? ⟨w3.heap.size, 0, none⟩ = some (.slice a3 t.items.length c3) ∧ w'.cell? ⟨w3.heap.size, 1, none⟩ = some (.int .i64 t.nxt) ∧ w'.cell? ⟨w3.heap.size, 2, none⟩ = some (.int .i64 t.ack) ∧ w'.cell? ⟨w.heap.size, 2, none⟩ = some (.int .i64 t.ack)) (first | (exact HXX.out) | (exact HST.out _ _ _)) ((first | fail))
    go_wp2
    have hsz := HSZ.out
    have hz4 := HZ4.out
    refine bodyPost_ret (res_ct rfl _ _ (w.heap.size + 1) _ #[.slice a3 t.items.length c3, .int .i64 t.nxt, .int .i64 t.ack] (0, 0) _ rfl (set3 H6.out) Try.underlying25 rfl (by kernel_rfl)) rfl ?_
    rw [(ackT_yes HV.out HN.out).1, (ackT_yes HV.out HN.out).2]
    refine ⟨a3, c3, by show _ = Ending.returned (.tuple #[.agg #[_, _, .int .i64 (max t.ack n)], _]); rw [HMX.out]; rfl, ?_, (below_set3 HB4.out (by omega) _ _ _).drew⟩
    exact ((HO4.out.kept (fun k h1 h2 => set3_ne (by omega))).keepB (Below.refl _ _).drew (Nat.le_refl _)).less (by omega)
end Go.Proofs.Ytoiecicfmnpnoaa
