/- Transfers: the model sends a chunk. -/
import Derived.Test.YtoiecicfmnpnoaaTfS4
namespace Go.Proofs.Ytoiecicfmnpnoaa
open Go.RowKit
set_option linter.unusedVariables false

attribute [local go_sem ↓] Go.wp_at_zero Go.wp_at_succ

theorem run_min3z {P : Program} (ts : Array TypeId) (t : TypeId) (k k' k'' : IntKind) (x y z : Int) (w : World) : (Builtin.min_ ts t #[.int k x, .int k' y, .int k'' z]).run P w = .ok (.int k (min (min x y) z)) w := by
  simp [Builtin.min_, Builtin.min2]; omega
attribute [local go_sem ↓] run_min3z

theorem three_newT {w W : World} {a b c : Obj} (h : W = ((w.alloc a).alloc b).alloc c) :
    W.heap.size = w.heap.size + 3 ∧ Below w.heap.size w W ∧ W.heap[w.heap.size]? = some a ∧ W.heap[w.heap.size + 1]? = some b ∧ W.heap[w.heap.size + 2]? = some c := by
  subst h
  refine ⟨by simp, (((Below.refl _ _).alloc (Nat.le_refl _) _).alloc (by simp) _).alloc (by simp; omega) _, ?_, ?_, ?_⟩
  · exact (Below.heap_alloc _ c _ (by simp; omega)).trans (heap_first w a b)
  · exact (Below.heap_alloc _ c _ (by simp)).trans (heap_second w a b)
  · have h := heap_alloc_new ((w.alloc a).alloc b) c
    simpa using h
theorem set2 {w : World} {g : Nat} {x y x' y' : Value} {t : TypeId} (h : w.heap[g]? = some (.cells #[x, y] t (0, 0))) :
    ((w.setCell ⟨g, 0, none⟩ x').setCell ⟨g, 1, none⟩ y').heap[g]? = some (.cells #[x', y'] t (0, 0)) := heap_set _ g 1 y' (heap_set w g 0 x' h)
theorem set2_ne {w : World} {g k : Nat} {x y : Value} (h : k ≠ g) : ((w.setCell ⟨g, 0, none⟩ x).setCell ⟨g, 1, none⟩ y).heap[k]? = w.heap[k]? :=
  (heap_set_ne _ _ _ _ _ h).trans (heap_set_ne _ _ _ _ _ h)
theorem set2_cell {w : World} {g k i : Nat} {x y : Value} (h : k ≠ g) : ((w.setCell ⟨g, 0, none⟩ x).setCell ⟨g, 1, none⟩ y).cell? ⟨k, i, none⟩ = w.cell? ⟨k, i, none⟩ :=
  World.cell?_of_block (set2_ne h)
theorem below_set2 {B : Nat} {w w' : World} (h : Below B w w') {g : Nat} (hg : B ≤ g) (x y : Value) : Below B w ((w'.setCell ⟨g, 0, none⟩ x).setCell ⟨g, 1, none⟩ y) := (h.setCell hg _).setCell hg _
theorem own_lt2 {w : World} {base cap : Nat} {a : Option Addr} {zs : List Int} (h : OwnI w base a cap zs) : ∀ x, a = some x → base ≤ x.block ∧ x.block < w.heap.size := by
  intro x hx
  subst hx
  rcases h.2 with ⟨hn, _⟩ | ⟨g', cap', cur, hv, hb, hg, _⟩
  · cases hn
  · injection hv with hv _ _; injection hv with hv; subst hv; exact ⟨hb, (Array.getElem?_eq_some_iff.1 hg).1⟩
theorem ints_cut {w : World} {b off n e : Nat} {zs : List Int} (h : IntsAt w (some ⟨b, off, none⟩) zs) (hne : n < e) (he : e ≤ zs.length) : IntsAt w (some ⟨b, off + n, none⟩) (cutL zs n e) := by
  rcases h with h0 | ⟨b', off', ha, hlt, hc⟩
  · rw [h0] at he; simp at he; omega
  · injection ha with ha; injection ha with h1 h2; subst h1 h2
    refine .inr ⟨b, off + n, rfl, hlt, fun i hi => ?_⟩
    rw [cutL_len (by omega) (by omega) (by omega)] at hi
    rw [gt_cutL (by omega), Nat.add_assoc]
    exact hc _ (by omega)
theorem send_no1 {t : Tf} {v : Int} (h : askB t v = false) : sendT t v = zTf ∧ sendC t v = zCk ∧ sendB t v = false := by
  have hs : sendB t v = false := by unfold sendB; rw [h]; rfl
  exact ⟨by rw [sendT, h]; rfl, by rw [sendC, hs]; rfl, hs⟩
theorem send_no2 {t : Tf} {v : Int} (h : askB t v = true) (h2 : endI t v ≤ t.nxt) : sendT t v = t ∧ sendC t v = zCk ∧ sendB t v = false := by
  have hs : sendB t v = false := by unfold sendB; rw [h, Bool.true_and, decide_eq_false_iff_not]; omega
  exact ⟨by rw [sendT, h, if_pos rfl, if_neg (by omega)], by rw [sendC, hs]; rfl, hs⟩
theorem send_ok {t : Tf} {v : Int} (h : askB t v = true) (h2 : t.nxt < endI t v) : sendT t v = ⟨t.items, endI t v, t.ack⟩ ∧ sendC t v = ⟨t.nxt, cutL t.items t.nxt (endI t v)⟩ ∧ sendB t v = true := by
  have hs : sendB t v = true := by unfold sendB; rw [h, Bool.true_and, decide_eq_true_eq]; exact h2
  exact ⟨sendT_yes hs, by rw [sendC, if_pos hs], hs⟩

set_option maxHeartbeats 2000000 in
theorem ssend_any (a : Option Addr) (cap : Nat) (t : Tf) (v : Int) (w : World) (h : IntsAt w a t.items) (hm : t.items.length ≤ maxLen) (hcap : t.items.length ≤ cap) :
    Calls Try.prog 8 #[.agg #[.slice a t.items.length cap, .int .i64 t.nxt, .int .i64 t.ack], .int .i64 v] w (NewTfC (sendT t v) (sendC t v) (sendB t v) w) := by
  have HI := Lib.hid h
  have HM := Lib.hid hm
  clear h hm
  obtain ⟨W, hW⟩ : ∃ W, W = ((w.alloc (.cells #[.slice a t.items.length cap, .int .i64 t.nxt, .int .i64 t.ack] 25)).alloc (.cells #[.slice none 0 0, .int .i64 0, .int .i64 0] 25)).alloc (.cells #[.int .i64 0, .slice none 0 0] 29) := ⟨_, rfl⟩
  obtain ⟨hs, hB, h1, h2, h3⟩ := three_newT hW
  have HB := Lib.hid hB
  have HW := Lib.hid hW
  have HS := Lib.hid hs
  have H1 := Lib.hid h1
  have H2 := Lib.hid h2
  have H3 := Lib.hid h3
  clear hW hB hs h1 h2 h3
  obtain ⟨c0, c1, c2⟩ := cells3 H1.out
  rcases bcs (tfB t) with hv | hv
  rotate_left
  · have HV := Lib.hid hv
    have HNO : Hid (askB t v = false) := by show _ = _; unfold askB; rw [hv]; rfl
    clear hv
    go_enter Try.func8, Try.ntmps8
    go_wp2_with fail
    rw [← HW.out]
    go_wp2_with fail
    refine (stv_as false a cap t W (HI.out.keepB HB.out (Nat.le_refl _)) HM.out HV.out).mono ?_
    rintro e w2 ⟨rfl, hb2⟩
    have hz := HS.out
    have h6 := (hb2.block (w.heap.size + 1) (by omega)).trans H2.out
    have h7 := (hb2.block (w.heap.size + 2) (by omega)).trans H3.out
    obtain ⟨e0, e1, e2⟩ := cells3 h6
    obtain ⟨j0, j1⟩ := cells2 h7
    have g0 := frozen_of_cells h6 0
    have g1 := frozen_of_cells h6 1
    have g2 := frozen_of_cells h6 2
    have k0 := frozen_of_cells h7 0
    have k1 := frozen_of_cells h7 1
    have H6 := Lib.hid h6
    have H7 := Lib.hid h7
    have HB2 := Lib.hid (HB.out.trans (hb2.mono (by omega)))
    clear h6 h7 hb2 hz
    go_wp2
    refine bodyPost_ret (res_cct rfl _ _ (w.heap.size + 1) (w.heap.size + 2) _ _ #[.slice none 0 0, .int .i64 0, .int .i64 0] #[.int .i64 0, .slice none 0 0] (0, 0) (0, 0) _ _ rfl ((set2_ne (by omega)).trans (set3 H6.out)) rfl (set2 ((set3_ne (by omega)).trans H7.out)) Try.underlying25 rfl (by kernel_rfl) Try.underlying29 rfl (by kernel_rfl)) rfl ?_
    obtain ⟨q1, q2, q3⟩ := send_no1 HNO.out
    rw [q1, q2, q3]
    exact ⟨none, 0, none, 0, rfl, own_nilI _ _, own_nilI _ _, (fun x y hx => by cases hx), below_set2 (below_set3 HB2.out (by omega) _ _ _) (by omega) _ _⟩
  have HV := Lib.hid hv
  clear hv
  rcases bcs (inB v 0 20) with hn | hn
  rotate_left
  · have HN := Lib.hid hn
    have HNO : Hid (askB t v = false) := by show _ = _; unfold askB; rw [hn, Bool.and_false]
    clear hn
    go_enter Try.func8, Try.ntmps8
    go_wp2_with fail
    rw [← HW.out]
    go_wp2_with fail
    refine (stv_as true a cap t W (HI.out.keepB HB.out (Nat.le_refl _)) HM.out HV.out).mono ?_
    rintro e w2 ⟨rfl, hb2⟩
    have hz := HS.out
    have h6 := (hb2.block (w.heap.size + 1) (by omega)).trans H2.out
    have h7 := (hb2.block (w.heap.size + 2) (by omega)).trans H3.out
    obtain ⟨e0, e1, e2⟩ := cells3 h6
    obtain ⟨j0, j1⟩ := cells2 h7
    have g0 := frozen_of_cells h6 0
    have g1 := frozen_of_cells h6 1
    have g2 := frozen_of_cells h6 2
    have k0 := frozen_of_cells h7 0
    have k1 := frozen_of_cells h7 1
    have H6 := Lib.hid h6
    have H7 := Lib.hid h7
    have HB2 := Lib.hid (HB.out.trans (hb2.mono (by omega)))
    clear h6 h7 hb2 hz
    go_wp2_with fail
    refine (in_as false _ _ _ w2 HN.out).mono ?_
    rintro e w3 ⟨rfl, rfl⟩
    go_wp2
    refine bodyPost_ret (res_cct rfl _ _ (w.heap.size + 1) (w.heap.size + 2) _ _ #[.slice none 0 0, .int .i64 0, .int .i64 0] #[.int .i64 0, .slice none 0 0] (0, 0) (0, 0) _ _ rfl ((set2_ne (by omega)).trans (set3 H6.out)) rfl (set2 ((set3_ne (by omega)).trans H7.out)) Try.underlying25 rfl (by kernel_rfl) Try.underlying29 rfl (by kernel_rfl)) rfl ?_
    obtain ⟨q1, q2, q3⟩ := send_no1 HNO.out
    rw [q1, q2, q3]
    exact ⟨none, 0, none, 0, rfl, own_nilI _ _, own_nilI _ _, (fun x y hx => by cases hx), below_set2 (below_set3 HB2.out (by omega) _ _ _) (by omega) _ _⟩
  have HN := Lib.hid hn
  have HASK : Hid (askB t v = true) := by show _ = _; unfold askB; rw [HV.out, hn]; rfl
  clear hn
  obtain ⟨zs, nx, ak⟩ := t
  obtain ⟨i1, i2, i3⟩ := (tfB_iff _).1 HV.out
  have i2 : 0 ≤ nx ∧ nx ≤ zs.length := i2
  have i3 : 0 ≤ ak ∧ ak ≤ nx := i3
  have iL : zs.length ≤ 20 := items_len i1
  have iv := (inB_iff _ _ _).1 HN.out
  obtain ⟨n, rfl⟩ := Int.eq_ofNat_of_zero_le i2.1
  obtain ⟨k, rfl⟩ := Int.eq_ofNat_of_zero_le i3.1
  obtain ⟨m, rfl⟩ := Int.eq_ofNat_of_zero_le iv.1
  obtain ⟨e, hE⟩ : ∃ e : Nat, min (min (zs.length : Int) ((n : Int) + 4)) ((k : Int) + (m : Int)) = (e : Int) := ⟨(min (min (zs.length : Int) ((n : Int) + 4)) ((k : Int) + (m : Int))).toNat, by omega⟩
  have HEE : Hid (endI ⟨zs, (n : Int), (k : Int)⟩ (m : Int) = (e : Int)) := hE
  obtain ⟨b1, b2, b3, b4, b5⟩ : n ≤ zs.length ∧ k ≤ n ∧ m ≤ 20 ∧ e ≤ zs.length ∧ e ≤ n + 4 := by omega
  have HCAP : Hid (zs.length ≤ cap) := hcap
  have p1 : (0 : Int) ≤ (n : Int) := by omega
  have p2 : (n : Int) ≤ 20 := by omega
  have p3 : (0 : Int) ≤ (k : Int) := by omega
  have p4 : (k : Int) ≤ 20 := by omega
  have p5 : (m : Int) ≤ 20 := by omega
  have wr1 : IntKind.i64.wrap ((n : Int) + 4) = (n : Int) + 4 := by rw [IntKind.wrap_i64]; omega
  have wr2 : IntKind.i64.wrap ((k : Int) + (m : Int)) = (k : Int) + (m : Int) := by rw [IntKind.wrap_i64]; omega
  have HZL : Hid (zs.length ≤ 20) := iL
  clear i1 i2 i3 iv iL hcap
  go_enter Try.func8, Try.ntmps8
  go_wp2_with fail
  rw [← HW.out]
  go_wp2_with fail
  refine (stv_as true a cap ⟨zs, n, k⟩ W (HI.out.keepB HB.out (Nat.le_refl _)) HM.out HV.out).mono ?_
  rintro e' w2 ⟨rfl, hb2⟩
  have hz := HS.out
  have h5 := (hb2.block w.heap.size (by omega)).trans H1.out
  obtain ⟨d0, d1, d2⟩ := cells3 h5
  have HB2 := Lib.hid (HB.out.trans (hb2.mono (by omega)))
  have HB2W := Lib.hid hb2
  clear h5 hb2 hz c0 c1 c2
  go_wp2_with fail
  refine (in_as true _ _ _ w2 HN.out).mono ?_
  rintro e' w3 ⟨rfl, rfl⟩
  go_wp2_with fail
  refine (scopy_any a cap ⟨zs, n, k⟩ w2 (HI.out.keepB HB2.out (Nat.le_refl _)) (by have := HZL.out; show zs.length ≤ _; omega)).mono ?_
  rintro e' w3 ⟨a3, c3, rfl, ho3, hb3⟩
  have ho3 : OwnI w3 w2.heap.size a3 c3 zs := ho3
  have hz := HS.out
  have hz2 := HB2W.out.size
  have hz3 := hb3.size
  have hW3 : Below W.heap.size W w3 := HB2W.out.trans (hb3.mono hz2)
  have h5 := (hW3.block w.heap.size (by omega)).trans H1.out
  have h6 := (hW3.block (w.heap.size + 1) (by omega)).trans H2.out
  have h7 := (hW3.block (w.heap.size + 2) (by omega)).trans H3.out
  have HB3 := Lib.hid (HB.out.trans (hW3.mono (by omega)))
  have HA : Hid (∀ o, Below w3.heap.size w3 (w3.alloc o)) := fun o => (Below.refl _ _).alloc (Nat.le_refl _) _
  have k5 : ∀ o, (w3.alloc o).heap[w.heap.size]? = some (.cells #[.slice a zs.length cap, .int .i64 (n : Int), .int .i64 (k : Int)] 25 (0, 0)) := fun o => ((HA.out o).block _ (by omega)).trans h5
  have k6 : ∀ o, (w3.alloc o).heap[w.heap.size + 1]? = some (.cells #[.slice none 0 0, .int .i64 0, .int .i64 0] 25 (0, 0)) := fun o => ((HA.out o).block _ (by omega)).trans h6
  have k7 : ∀ o, (w3.alloc o).heap[w.heap.size + 2]? = some (.cells #[.int .i64 0, .slice none 0 0] 29 (0, 0)) := fun o => ((HA.out o).block _ (by omega)).trans h7
  have r0 : ∀ o, (w3.alloc o).cell? ⟨w.heap.size, 0, none⟩ = some (.slice a zs.length cap) := fun o => (cells3 (k5 o)).1
  have r1 : ∀ o, (w3.alloc o).cell? ⟨w.heap.size, 1, none⟩ = some (.int .i64 (n : Int)) := fun o => (cells3 (k5 o)).2.1
  have r2 : ∀ o, (w3.alloc o).cell? ⟨w.heap.size, 2, none⟩ = some (.int .i64 (k : Int)) := fun o => (cells3 (k5 o)).2.2
  have K5 := Lib.hid k5
  have K6 := Lib.hid k6
  have K7 := Lib.hid k7
  have HO := Lib.hid ho3
  have HSZ : Hid (w.heap.size + 2 < w2.heap.size ∧ w2.heap.size ≤ w3.heap.size) := ⟨by omega, hz3⟩
  clear h5 h6 h7 k5 k6 k7 hb3 hW3 hz hz2 hz3 ho3 d0 d1 d2
  rcases (show e ≤ n ∨ n < e by omega) with hen | hen
  · have q : (e : Int) ≤ (n : Int) := by omega
    have e0 : ∀ o, (w3.alloc o).cell? ⟨w.heap.size + 1, 0, none⟩ = some (.slice none 0 0) := fun o => (cells3 (K6.out o)).1
    have e1 : ∀ o, (w3.alloc o).cell? ⟨w.heap.size + 1, 1, none⟩ = some (.int .i64 0) := fun o => (cells3 (K6.out o)).2.1
    have e2 : ∀ o, (w3.alloc o).cell? ⟨w.heap.size + 1, 2, none⟩ = some (.int .i64 0) := fun o => (cells3 (K6.out o)).2.2
    have g0 : ∀ o i, (w3.alloc o).frozen? ⟨w.heap.size + 1, i, none⟩ = false := fun o i => frozen_of_cells (K6.out o) i
    have j0 : ∀ o, (w3.alloc o).cell? ⟨w.heap.size + 2, 0, none⟩ = some (.int .i64 0) := fun o => (cells2 (K7.out o)).1
    have j1 : ∀ o, (w3.alloc o).cell? ⟨w.heap.size + 2, 1, none⟩ = some (.slice none 0 0) := fun o => (cells2 (K7.out o)).2
    have g1 : ∀ o i, (w3.alloc o).frozen? ⟨w.heap.size + 2, i, none⟩ = false := fun o i => frozen_of_cells (K7.out o) i
    have HQ : Hid (endI ⟨zs, (n : Int), (k : Int)⟩ (m : Int) ≤ (n : Int)) := by show _ ≤ _; rw [HEE.out]; omega
    clear hen
    go_wp2
    have hsz := HSZ.out
    refine bodyPost_ret (res_cct rfl _ _ (w.heap.size + 1) (w.heap.size + 2) _ _ #[.slice a3 zs.length c3, .int .i64 (n : Int), .int .i64 (k : Int)] #[.int .i64 0, .slice none 0 0] (0, 0) (0, 0) _ _ rfl ((set2_ne (by omega)).trans (set3 (K6.out _))) rfl (set2 ((set3_ne (by omega)).trans (K7.out _))) Try.underlying25 rfl (by kernel_rfl) Try.underlying29 rfl (by kernel_rfl)) rfl ?_
    obtain ⟨q1, q2, q3⟩ := send_no2 HASK.out HQ.out
    rw [q1, q2, q3]
    refine ⟨a3, c3, none, 0, rfl, ?_, own_nilI _ _, (fun x y _ hy => by cases hy), below_set2 (below_set3 (HB3.out.alloc HB3.out.size _) (by omega) _ _ _) (by omega) _ _⟩
    exact (HO.out.kept (fun i h1 h2 => (set2_ne (by omega)).trans ((set3_ne (by omega)).trans (Below.heap_alloc _ _ _ (by omega))))).less (by omega)
  · have q : ¬ (e : Int) ≤ (n : Int) := by omega
    obtain ⟨b, off, ha, hbl, hbc⟩ : ∃ b off, a = some ⟨b, off, none⟩ ∧ b < w.heap.size ∧ ∀ i, i < zs.length → w.cell? ⟨b, off + i, none⟩ = some (.int .i64 (gt zs i)) := by
      rcases HI.out with h0 | h0
      · have h0 : zs = [] := h0
        rw [h0] at b4; simp at b4; omega
      · exact h0
    subst ha
    have HBC : Hid (IntsAt w (some ⟨b, off, none⟩) zs) := .inr ⟨b, off, rfl, hbl, hbc⟩
    clear hbc
    go_wp2_with fail
    obtain ⟨W4, h4⟩ : ∃ W4, W4 = w3.alloc (.cells #[.slice a3 zs.length c3, .int .i64 (e : Int), .int .i64 (k : Int)] 25) := ⟨_, rfl⟩
    rw [← h4]
    have m4 : W4.heap[w3.heap.size]? = some (.cells #[.slice a3 zs.length c3, .int .i64 (e : Int), .int .i64 (k : Int)] 25 (0, 0)) := by rw [h4]; exact heap_alloc_new w3 _
    have m5 := K5.out (.cells #[.slice a3 zs.length c3, .int .i64 (e : Int), .int .i64 (k : Int)] 25)
    have m6 := K6.out (.cells #[.slice a3 zs.length c3, .int .i64 (e : Int), .int .i64 (k : Int)] 25)
    have m7 := K7.out (.cells #[.slice a3 zs.length c3, .int .i64 (e : Int), .int .i64 (k : Int)] 25)
    have HB4 : Hid (Below w.heap.size w W4) := by show Below _ _ _; rw [h4]; exact HB3.out.alloc HB3.out.size _
    have HO4 : Hid (OwnI W4 w2.heap.size a3 c3 zs) := by show OwnI _ _ _ _ _; rw [h4]; exact HO.out.keepB (HA.out _) (Nat.le_refl _)
    have HOL : Hid (∀ x, a3 = some x → x.block < w3.heap.size) := fun x hx => (own_lt2 HO.out x hx).2
    rw [← h4] at m5 m6 m7
    have hz4 : W4.heap.size = w3.heap.size + 1 := by rw [h4]; simp
    have HZ4 := Lib.hid hz4
    have M4 := Lib.hid m4
    have M5 := Lib.hid m5
    have M6 := Lib.hid m6
    have M7 := Lib.hid m7
    have HSK : Hid (∀ w', Below W4.heap.size W4 w' → (w'.cell? ⟨w3.heap.size, 0, none⟩ = some (.slice a3 zs.length c3) ∧ w'.cell? ⟨w3.heap.size, 1, none⟩ = some (.int .i64 (e : Int)) ∧ w'.cell? ⟨w3.heap.size, 2, none⟩ = some (.int .i64 (k : Int)) ∧ w'.cell? ⟨w.heap.size, 0, none⟩ = some (.slice (some ⟨b, off, none⟩) zs.length cap) ∧ w'.cell? ⟨w.heap.size, 1, none⟩ = some (.int .i64 (n : Int)))) := fun w' hb => by
      have hsz := HSZ.out
      have hz := HZ4.out
      obtain ⟨x0, x1, x2⟩ := cells3 ((hb.block _ (by omega)).trans M4.out)
      obtain ⟨y0, y1, _⟩ := cells3 ((hb.block _ (by omega)).trans M5.out)
      exact ⟨x0, x1, x2, y0, y1⟩
    have HST : Hid (∀ w' (u0 u1 u2 : Value), Below W4.heap.size W4 w' → ((((w'.setCell ⟨w.heap.size + 1, 0, none⟩ u0).setCell ⟨w.heap.size + 1, 1, none⟩ u1).setCell ⟨w.heap.size + 1, 2, none⟩ u2).cell? ⟨w3.heap.size, 0, none⟩ = some (.slice a3 zs.length c3) ∧ (((w'.setCell ⟨w.heap.size + 1, 0, none⟩ u0).setCell ⟨w.heap.size + 1, 1, none⟩ u1).setCell ⟨w.heap.size + 1, 2, none⟩ u2).cell? ⟨w3.heap.size, 1, none⟩ = some (.int .i64 (e : Int)) ∧ (((w'.setCell ⟨w.heap.size + 1, 0, none⟩ u0).setCell ⟨w.heap.size + 1, 1, none⟩ u1).setCell ⟨w.heap.size + 1, 2, none⟩ u2).cell? ⟨w3.heap.size, 2, none⟩ = some (.int .i64 (k : Int)) ∧ (((w'.setCell ⟨w.heap.size + 1, 0, none⟩ u0).setCell ⟨w.heap.size + 1, 1, none⟩ u1).setCell ⟨w.heap.size + 1, 2, none⟩ u2).cell? ⟨w.heap.size, 0, none⟩ = some (.slice (some ⟨b, off, none⟩) zs.length cap) ∧ (((w'.setCell ⟨w.heap.size + 1, 0, none⟩ u0).setCell ⟨w.heap.size + 1, 1, none⟩ u1).setCell ⟨w.heap.size + 1, 2, none⟩ u2).cell? ⟨w.heap.size, 1, none⟩ = some (.int .i64 (n : Int)))) := fun w' u0 u1 u2 hb => by
      have hsz := HSZ.out
      have hz := HZ4.out
      obtain ⟨x0, x1, x2, y0, y1⟩ := HSK.out w' hb
      exact ⟨(set3_cell (by omega)).trans x0, (set3_cell (by omega)).trans x1, (set3_cell (by omega)).trans x2, (set3_cell (by omega)).trans y0, (set3_cell (by omega)).trans y1⟩
    have HST2 : Hid (∀ w' (u0 u1 u2 v0 v1 : Value), Below W4.heap.size W4 w' → ((((((w'.setCell ⟨w.heap.size + 1, 0, none⟩ u0).setCell ⟨w.heap.size + 1, 1, none⟩ u1).setCell ⟨w.heap.size + 1, 2, none⟩ u2).setCell ⟨w.heap.size + 2, 0, none⟩ v0).setCell ⟨w.heap.size + 2, 1, none⟩ v1).cell? ⟨w3.heap.size, 0, none⟩ = some (.slice a3 zs.length c3) ∧ (((((w'.setCell ⟨w.heap.size + 1, 0, none⟩ u0).setCell ⟨w.heap.size + 1, 1, none⟩ u1).setCell ⟨w.heap.size + 1, 2, none⟩ u2).setCell ⟨w.heap.size + 2, 0, none⟩ v0).setCell ⟨w.heap.size + 2, 1, none⟩ v1).cell? ⟨w3.heap.size, 1, none⟩ = some (.int .i64 (e : Int)) ∧ (((((w'.setCell ⟨w.heap.size + 1, 0, none⟩ u0).setCell ⟨w.heap.size + 1, 1, none⟩ u1).setCell ⟨w.heap.size + 1, 2, none⟩ u2).setCell ⟨w.heap.size + 2, 0, none⟩ v0).setCell ⟨w.heap.size + 2, 1, none⟩ v1).cell? ⟨w3.heap.size, 2, none⟩ = some (.int .i64 (k : Int)) ∧ (((((w'.setCell ⟨w.heap.size + 1, 0, none⟩ u0).setCell ⟨w.heap.size + 1, 1, none⟩ u1).setCell ⟨w.heap.size + 1, 2, none⟩ u2).setCell ⟨w.heap.size + 2, 0, none⟩ v0).setCell ⟨w.heap.size + 2, 1, none⟩ v1).cell? ⟨w.heap.size, 0, none⟩ = some (.slice (some ⟨b, off, none⟩) zs.length cap) ∧ (((((w'.setCell ⟨w.heap.size + 1, 0, none⟩ u0).setCell ⟨w.heap.size + 1, 1, none⟩ u1).setCell ⟨w.heap.size + 1, 2, none⟩ u2).setCell ⟨w.heap.size + 2, 0, none⟩ v0).setCell ⟨w.heap.size + 2, 1, none⟩ v1).cell? ⟨w.heap.size, 1, none⟩ = some (.int .i64 (n : Int)))) := fun w' u0 u1 u2 v0 v1 hb => by
      have hsz := HSZ.out
      have hz := HZ4.out
      obtain ⟨x0, x1, x2, y0, y1⟩ := HST.out w' u0 u1 u2 hb
      exact ⟨(set2_cell (by omega)).trans x0, (set2_cell (by omega)).trans x1, (set2_cell (by omega)).trans x2, (set2_cell (by omega)).trans y0, (set2_cell (by omega)).trans y1⟩
    have HBA : Hid (∀ o, Below W4.heap.size W4 (W4.alloc o).drew) := fun o => ((Below.refl _ _).alloc (Nat.le_refl _) _).drew
    have HCI : Hid (∀ o, IntsAt (W4.alloc o).drew (some ⟨b, off + n, none⟩) (cutL zs n e)) := fun o => ints_cut ((HBC.out.keepB HB4.out (Nat.le_refl _)).keepB (HBA.out o) (Nat.le_refl _)) hen b4
    have HCL : Hid ((cutL zs n e).length = e - n) := by show _ = _; rw [cutL_len (by omega) (by omega) (by omega)]; omega
    have s1 : (n : Int) ≤ (e : Int) := by omega
    have s2 : (e : Int) ≤ (cap : Int) := by have := HCAP.out; omega
    have s3 : ¬ cap = n := by have := HCAP.out; omega
    have HQ : Hid (((⟨zs, (n : Int), (k : Int)⟩ : Tf)).nxt < endI ⟨zs, (n : Int), (k : Int)⟩ (m : Int)) := by show (n : Int) < _; rw [HEE.out]; omega
    have he24 : e - n ≤ 1000000 := by omega
    clear m4 m5 m6 m7 h4 hz4 r0 r1 r2 hE wr1 wr2 hbl hen
    go_region_held3 (fun w' => (w'.cell? ⟨w3.heap.size, 0, none⟩ = some (.slice a3 zs.length c3) ∧ w'.cell? ⟨w3.heap.size, 1, none⟩ = some (.int .i64 (e : Int)) ∧ w'.cell? ⟨w3.heap.size, 2, none⟩ = some (.int .i64 (k : Int)) ∧ w'.cell? ⟨w.heap.size, 0, none⟩ = some (.slice (some ⟨b, off, none⟩) zs.length cap) ∧ w'.cell? ⟨w.heap.size, 1, none⟩ = some (.int .i64 (n : Int)))) (first | (with_reducible exact HSK.out _ hb5) | (with_reducible exact HST.out _ _ _ _ hb5) | (with_reducible exact HST2.out _ _ _ _ _ _ hb5) | (with_reducible exact HSK.out _ (Below.refl _ _)) | (with_reducible exact HSK.out _ (Below.refl _ _).drew) | (with_reducible exact HSK.out _ (HBA.out _)))
      ((first
        | (refine step_appS (o := ⟨some 50, _, _, _, _, _⟩) _ (by rfl) (.tmp 43) (.tmp 49) (by rfl) W4.heap.size W4.heap.size 0 0 [] (by rfl) (own_empty (heap_alloc_new W4 _) (Nat.le_refl _)) (some ⟨b, off + n, none⟩) (e - n) (cap - n) (cutL zs n e) (by rfl) HCL.out (HCI.out _) (e - n) (by omega) (by omega) (by simp) ?_
           intro g5 c5 w5 hown5 hg5 hat5
           have hb5 : Below W4.heap.size W4 w5 := (HBA.out _).grown hg5 (by simp) (fun q hq => by injection hq with hq; omega)
           have h6 := (hb5.block (w.heap.size + 1) (by have := HSZ.out; have := HZ4.out; omega)).trans M6.out
           have h7 := (hb5.block (w.heap.size + 2) (by have := HSZ.out; have := HZ4.out; omega)).trans M7.out
           have t0 := (cells3 h6).1
           have t1 := (cells3 h6).2.1
           have t2 := (cells3 h6).2.2
           have j0 := (cells2 h7).1
           have j1 := (cells2 h7).2
           have g0 := frozen_of_cells h6 0
           have g1 := frozen_of_cells h6 1
           have g2 := frozen_of_cells h6 2
           have l0 := frozen_of_cells h7 0
           have l1 := frozen_of_cells h7 1
           have H6 := Lib.hid h6
           have H7 := Lib.hid h7
           clear h6 h7)))
    go_wp2
    have hsz := HSZ.out
    have hz4 := HZ4.out
    refine bodyPost_ret (res_cct rfl _ _ (w.heap.size + 1) (w.heap.size + 2) _ _ #[.slice a3 zs.length c3, .int .i64 (e : Int), .int .i64 (k : Int)] #[.int .i64 (n : Int), .slice (some ⟨g5, 0, none⟩) (e - n) c5] (0, 0) (0, 0) _ _ rfl ((set2_ne (by omega)).trans (set3 H6.out)) rfl (set2 ((set3_ne (by omega)).trans H7.out)) Try.underlying25 rfl (by kernel_rfl) Try.underlying29 rfl (by kernel_rfl)) rfl ?_
    obtain ⟨q1, q2, q3⟩ := send_ok HASK.out HQ.out
    rw [q1, q2, q3, HEE.out]
    have hown : OwnI w5 W4.heap.size (some ⟨g5, 0, none⟩) c5 (cutL zs n e) := own_whole hown5 HCL.out
    have hg5b := (own_lt2 hown _ rfl).1
    have hg5b : W4.heap.size ≤ g5 := hg5b
    refine ⟨a3, c3, some ⟨g5, 0, none⟩, c5, by show _ = Ending.returned (.tuple #[_, .agg #[_, .slice _ (cutL zs n e).length _], _]); rw [HCL.out]; rfl, ?_, ?_, ?_, below_set2 (below_set3 (HB4.out.trans (hb5.mono HB4.out.size)) (by omega) _ _ _) (by omega) _ _⟩
    · exact (HO4.out.kept (fun i h1 h2 => (set2_ne (by omega)).trans ((set3_ne (by omega)).trans (hb5.block _ h2)))).less (by omega)
    · exact (hown.kept (fun i h1 h2 => (set2_ne (by omega)).trans (set3_ne (by omega)))).less (by omega)
    · intro x y hx hy
      have h1 := HOL.out x hx
      injection hy with hy
      rw [← hy]
      show x.block ≠ g5
      omega
end Go.Proofs.Ytoiecicfmnpnoaa
