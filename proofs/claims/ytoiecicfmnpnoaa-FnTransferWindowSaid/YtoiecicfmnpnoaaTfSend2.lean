/- Transfers: the program's TransferSend. -/
import Derived.Test.YtoiecicfmnpnoaaTfSend
namespace Go.Proofs.Ytoiecicfmnpnoaa
open Go.RowKit Go.Conc
set_option linter.unusedVariables false

attribute [local go_sem ↓] Go.wp_at_zero Go.wp_at_succ

section
variable {P : Program} {b : Frame} {Q : Exit → Act → World → Prop} {a : Act} {w : World} {ops : Array Oper}
theorem mid_take {K : Act → World → Prop} (n : Nat) (rest : List Nat) (hn : decide (n ≤ ops.size) = true) (hK : ∀ a' w', K a' w' → MidN P b ops Q rest a' w') (h : wpList P ops (Ahead K) (ops.toList.take n) a w) : MidN P b ops Q (List.range' 0 n ++ rest) a w := by
  have hn := of_decide_eq_true hn
  have hl : (ops.toList.take n).length = n := by simp; omega
  have := mid_pre (b := b) (Q := Q) hK (ops.toList.take n) 0 a w (fun j hj => by rw [hl] at hj; rw [List.getElem?_take_of_lt hj]; simp) h
  rwa [hl] at this
theorem mid_drop (n : Nat) (h : wpList P ops Q (ops.toList.drop n) a w) : MidN P b ops Q (List.range' n (ops.size - n)) a w := by
  have := mid_list (b := b) (l := ops.toList.drop n) (k := n) (fun j => by simp [List.getElem?_drop]) h
  rwa [show (ops.toList.drop n).length = ops.size - n by simp] at this
end

theorem own_at {w w' : World} {base cap : Nat} {a : Option Addr} {zs : List Int} (h : OwnI w base a cap zs) (he : ∀ x, a = some x → w'.heap[x.block]? = w.heap[x.block]?) : OwnI w' base a cap zs := by
  refine ⟨h.1, ?_⟩
  rcases h.2 with h0 | ⟨g', cap', cur, hv, hb, hg, rest⟩
  · exact .inl h0
  · refine .inr ⟨g', cap', cur, hv, hb, ?_, rest⟩
    injection hv with hv _ _
    exact (he _ hv).trans hg
theorem send_with {t : Tf} {v : Int} (h : askB t v = true) : sendT t v = ⟨t.items, t.nxt + (sendC t v).items.length, t.ack⟩ := by
  cases hs : sendB t v
  · unfold sendB at hs
    rw [h, Bool.true_and, decide_eq_false_iff_not] at hs
    obtain ⟨q1, q2, q3⟩ := send_no2 h (by omega)
    rw [q1, q2]
    show t = ⟨t.items, t.nxt + ((0 : Nat) : Int), t.ack⟩
    rw [show t.nxt + ((0 : Nat) : Int) = t.nxt by omega]
  · obtain ⟨h1, h2, h3⟩ := send_yes hs
    obtain ⟨i1, i2, i3⟩ := (tfB_iff t).1 h1
    have he := end_le t v
    obtain ⟨q1, q2, q3⟩ := send_ok h h3
    rw [q1, q2]
    show (⟨t.items, endI t v, t.ack⟩ : Tf) = ⟨t.items, t.nxt + ((cutL t.items t.nxt (endI t v)).length : Int), t.ack⟩
    rw [cutL_len (by omega) (by omega) he.1, show t.nxt + (((endI t v - t.nxt).toNat : Nat) : Int) = endI t v by omega]

set_option maxHeartbeats 2000000 in
theorem psend_no (a : Option Addr) (cap : Nat) (t : Tf) (v : Int) (w : World) (h : IntsAt w a t.items) (hm : t.items.length ≤ maxLen) (hv : askB t v = false) :
    Calls Try.prog 7 #[.agg #[.slice a t.items.length cap, .int .i64 t.nxt, .int .i64 t.ack], .int .i64 v] w (NewTfC (sendT t v) (sendC t v) (sendB t v) w) := by
  have HI := Lib.hid h
  have HM := Lib.hid hm
  have HV := Lib.hid hv
  clear h hm
  obtain ⟨W, hW⟩ : ∃ W, W = ((w.alloc (.cells #[.slice a t.items.length cap, .int .i64 t.nxt, .int .i64 t.ack] 25)).alloc (.cells #[.slice none 0 0, .int .i64 0, .int .i64 0] 25)).alloc (.cells #[.int .i64 0, .slice none 0 0] 29) := ⟨_, rfl⟩
  obtain ⟨hs, hB, h1, h2, h3⟩ := three_newT hW
  have HB := Lib.hid hB
  have HW := Lib.hid hW
  have HS := Lib.hid hs
  have H2 := Lib.hid h2
  have H3 := Lib.hid h3
  obtain ⟨c0, c1, c2⟩ := cells3 h1
  clear hW hB hs h1 h2 h3
  have hend : ∀ w2, Below W.heap.size W w2 → w2.heap[w.heap.size + 1]? = some (.cells #[.slice none 0 0, .int .i64 0, .int .i64 0] 25 (0, 0)) ∧ w2.heap[w.heap.size + 2]? = some (.cells #[.int .i64 0, .slice none 0 0] 29 (0, 0)) := fun w2 hb => by
    have hz := HS.out
    exact ⟨(hb.block _ (by omega)).trans H2.out, (hb.block _ (by omega)).trans H3.out⟩
  have HE := Lib.hid hend
  clear hend
  cases ht : tfB t
  · have HT := Lib.hid ht
    clear ht hv
    go_enter Try.func7, Try.ntmps7
    go_wp2_with fail
    rw [← HW.out]
    go_wp2_with fail
    refine (ptv_as false a cap t W (HI.out.keepB HB.out (Nat.le_refl _)) HM.out HT.out).mono ?_
    rintro e w2 ⟨rfl, hb2⟩
    obtain ⟨h6, h7⟩ := HE.out w2 hb2
    obtain ⟨e0, e1, e2⟩ := cells3 h6
    obtain ⟨j0, j1⟩ := cells2 h7
    have g0 := frozen_of_cells h6 0
    have g1 := frozen_of_cells h6 1
    have g2 := frozen_of_cells h6 2
    have l0 := frozen_of_cells h7 0
    have l1 := frozen_of_cells h7 1
    have H6 := Lib.hid h6
    have H7 := Lib.hid h7
    have HB2 := Lib.hid (HB.out.trans (hb2.mono HB.out.size))
    clear h6 h7 hb2
    go_wp2
    refine bodyPost_ret (res_cct rfl _ _ (w.heap.size + 1) (w.heap.size + 2) _ _ #[.slice none 0 0, .int .i64 0, .int .i64 0] #[.int .i64 0, .slice none 0 0] (0, 0) (0, 0) _ _ rfl ((set2_ne (by omega)).trans (set3 H6.out)) rfl (set2 ((set3_ne (by omega)).trans H7.out)) Try.underlying25 rfl (by kernel_rfl) Try.underlying29 rfl (by kernel_rfl)) rfl ?_
    obtain ⟨q1, q2, q3⟩ := send_no1 HV.out
    rw [q1, q2, q3]
    exact ⟨none, 0, none, 0, rfl, own_nilI _ _, own_nilI _ _, (fun x y hx _ => by cases hx), below_set2 (below_set3 HB2.out (by omega) _ _ _) (by omega) _ _⟩
  · have HT := Lib.hid ht
    have hv2 : v < 0 ∨ 20 < v := by
      unfold askB at hv
      rw [ht, Bool.true_and] at hv
      unfold inB at hv
      rw [decide_eq_false_iff_not] at hv
      omega
    clear ht hv
    rcases hv2 with hv2 | hv2
    · go_enter Try.func7, Try.ntmps7
      go_wp2_with fail
      rw [← HW.out]
      go_wp2_with fail
      refine (ptv_as true a cap t W (HI.out.keepB HB.out (Nat.le_refl _)) HM.out HT.out).mono ?_
      rintro e w2 ⟨rfl, hb2⟩
      obtain ⟨h6, h7⟩ := HE.out w2 hb2
      obtain ⟨e0, e1, e2⟩ := cells3 h6
      obtain ⟨j0, j1⟩ := cells2 h7
      have g0 := frozen_of_cells h6 0
      have g1 := frozen_of_cells h6 1
      have g2 := frozen_of_cells h6 2
      have l0 := frozen_of_cells h7 0
      have l1 := frozen_of_cells h7 1
      have H6 := Lib.hid h6
      have H7 := Lib.hid h7
      have HB2 := Lib.hid (HB.out.trans (hb2.mono HB.out.size))
      clear h6 h7 hb2
      go_wp2
      refine bodyPost_ret (res_cct rfl _ _ (w.heap.size + 1) (w.heap.size + 2) _ _ #[.slice none 0 0, .int .i64 0, .int .i64 0] #[.int .i64 0, .slice none 0 0] (0, 0) (0, 0) _ _ rfl ((set2_ne (by omega)).trans (set3 H6.out)) rfl (set2 ((set3_ne (by omega)).trans H7.out)) Try.underlying25 rfl (by kernel_rfl) Try.underlying29 rfl (by kernel_rfl)) rfl ?_
      obtain ⟨q1, q2, q3⟩ := send_no1 HV.out
      rw [q1, q2, q3]
      exact ⟨none, 0, none, 0, rfl, own_nilI _ _, own_nilI _ _, (fun x y hx _ => by cases hx), below_set2 (below_set3 HB2.out (by omega) _ _ _) (by omega) _ _⟩
    · have hv3 : (0 : Int) ≤ v := by omega
      go_enter Try.func7, Try.ntmps7
      go_wp2_with fail
      rw [← HW.out]
      go_wp2_with fail
      refine (ptv_as true a cap t W (HI.out.keepB HB.out (Nat.le_refl _)) HM.out HT.out).mono ?_
      rintro e w2 ⟨rfl, hb2⟩
      obtain ⟨h6, h7⟩ := HE.out w2 hb2
      obtain ⟨e0, e1, e2⟩ := cells3 h6
      obtain ⟨j0, j1⟩ := cells2 h7
      have g0 := frozen_of_cells h6 0
      have g1 := frozen_of_cells h6 1
      have g2 := frozen_of_cells h6 2
      have l0 := frozen_of_cells h7 0
      have l1 := frozen_of_cells h7 1
      have H6 := Lib.hid h6
      have H7 := Lib.hid h7
      have HB2 := Lib.hid (HB.out.trans (hb2.mono HB.out.size))
      clear h6 h7 hb2
      go_wp2
      refine bodyPost_ret (res_cct rfl _ _ (w.heap.size + 1) (w.heap.size + 2) _ _ #[.slice none 0 0, .int .i64 0, .int .i64 0] #[.int .i64 0, .slice none 0 0] (0, 0) (0, 0) _ _ rfl ((set2_ne (by omega)).trans (set3 H6.out)) rfl (set2 ((set3_ne (by omega)).trans H7.out)) Try.underlying25 rfl (by kernel_rfl) Try.underlying29 rfl (by kernel_rfl)) rfl ?_
      obtain ⟨q1, q2, q3⟩ := send_no1 HV.out
      rw [q1, q2, q3]
      exact ⟨none, 0, none, 0, rfl, own_nilI _ _, own_nilI _ _, (fun x y hx _ => by cases hx), below_set2 (below_set3 HB2.out (by omega) _ _ _) (by omega) _ _⟩

set_option maxHeartbeats 4000000 in
theorem psend_yes (a : Option Addr) (cap : Nat) (t : Tf) (v : Int) (w : World) (h : IntsAt w a t.items) (hm : t.items.length ≤ maxLen) (hcap : t.items.length ≤ cap) (hv : askB t v = true) :
    Calls Try.prog 7 #[.agg #[.slice a t.items.length cap, .int .i64 t.nxt, .int .i64 t.ack], .int .i64 v] w (NewTfC (sendT t v) (sendC t v) (sendB t v) w) := by
  have hST := send_with hv
  have ht : tfB t = true ∧ inB v 0 20 = true := Bool.and_eq_true _ _ ▸ hv
  obtain ⟨hv0, hv1⟩ := (inB_iff _ _ _).1 ht.2
  have ht := ht.1
  obtain ⟨i1, ⟨i2, i3⟩, i4, i5⟩ := (tfB_iff t).1 ht
  have hl := items_len i1
  have HOUT : Hid (∀ w, IntsAt w a t.items → Calls Try.prog 17 #[.agg #[.slice a t.items.length cap, .int .i64 t.nxt, .int .i64 t.ack], .int .i64 v] w (OutCh t v w)) := fun w hi => by
    cases hs : sendB t v
    · exact pout_no a cap t v w hi ht hv0 hv1 hs
    · exact pout_yes a cap t v w hi hcap ht hv0 hv1 hs
  have hCl : (sendC t v).items.length ≤ 4 := by
    cases hs : sendB t v
    · rw [sendC, hs]; exact Nat.zero_le _
    · exact ((ckB_iff _).1 (sendC_ok hs)).2.1.2
  have HC0 : Hid (sendB t v = false → sendC t v = zCk) := fun hs => by rw [sendC, hs]; rfl
  have HTV := Lib.hid ht
  unfold OutCh at HOUT
  obtain ⟨C, hC⟩ : ∃ C, C = sendC t v := ⟨_, rfl⟩
  obtain ⟨V, hV⟩ : ∃ V, V = sendB t v := ⟨_, rfl⟩
  rw [← hC] at HOUT hCl HC0 hST ⊢
  rw [← hV] at HOUT HC0 ⊢
  rw [hST]
  have HI := Lib.hid h
  have HM := Lib.hid hm
  have hwr : IntKind.i64.wrap (t.nxt + (C.items.length : Int)) = t.nxt + (C.items.length : Int) := by rw [IntKind.wrap_i64]; omega
  clear h hm hC hV hv hST ht i1
  obtain ⟨W, hW⟩ : ∃ W, W = ((w.alloc (.cells #[.slice a t.items.length cap, .int .i64 t.nxt, .int .i64 t.ack] 25)).alloc (.cells #[.slice none 0 0, .int .i64 0, .int .i64 0] 25)).alloc (.cells #[.int .i64 0, .slice none 0 0] 29) := ⟨_, rfl⟩
  obtain ⟨hs, hB, h1, h2, h3⟩ := three_newT hW
  have HB := Lib.hid hB
  have HW := Lib.hid hW
  have HS := Lib.hid hs
  have H1 := Lib.hid h1
  have H2 := Lib.hid h2
  have H3 := Lib.hid h3
  obtain ⟨c0, c1, c2⟩ := cells3 h1
  clear hW hB hs h1 h2 h3
  have HE : Hid (∀ w2, Below W.heap.size W w2 → w2.heap[w.heap.size]? = some (.cells #[.slice a t.items.length cap, .int .i64 t.nxt, .int .i64 t.ack] 25 (0, 0)) ∧ w2.heap[w.heap.size + 1]? = some (.cells #[.slice none 0 0, .int .i64 0, .int .i64 0] 25 (0, 0)) ∧ w2.heap[w.heap.size + 2]? = some (.cells #[.int .i64 0, .slice none 0 0] 29 (0, 0))) := fun w2 hb => by
    have hz := HS.out
    exact ⟨(hb.block _ (by omega)).trans H1.out, (hb.block _ (by omega)).trans H2.out, (hb.block _ (by omega)).trans H3.out⟩
  refine calls_of_wpn Try.func7 rfl ?_
  simp only [Try.ntmps7, List.size_toArray, List.length_cons, List.length_nil, Nat.reduceAdd, Nat.reduceSub, Array.replicate_succ, Array.replicate_zero, List.push_toArray, List.append_toArray, List.nil_append, List.cons_append]
  refine wpn_seq_k fun K hK => ?_
  go_wp2
  rw [← HW.out]
  refine wpn_seq (wpn_seq_k fun K hK => ?_)
  go_wp2_with fail
  refine (ptv_as true a cap t W (HI.out.keepB HB.out (Nat.le_refl _)) HM.out HTV.out).mono ?_
  rintro e w2 ⟨rfl, hb2⟩
  have HB2 := Lib.hid hb2
  clear c0 c1 c2
  obtain ⟨c0, c1, c2⟩ := cells3 (HE.out w2 hb2).1
  clear hb2
  go_wp2
  refine wpn_cond (t := false) (by show Value.bool (decide (v < 0) || decide (20 < v)) = _; rw [decide_eq_false (by omega), decide_eq_false (by omega)]; rfl) ?_
  simp only [Bool.false_eq_true, if_false]
  refine wpn_of ?_
  go_wp2
  refine wpn_seq (wpn_region ?_)
  show MidN _ _ _ _ (List.range' 0 3 ++ [3, 4, 5, 6, 7, 8, 9]) _ _
  refine mid_take 3 [3, 4, 5, 6, 7, 8, 9] (by kernel_rfl) (K := fun a w => MidN _ _ _ _ [3, 4, 5, 6, 7, 8, 9] a w) (fun _ _ h => h) ?_
  simp only [List.take_succ_cons, List.take_zero]
  go_wp2_with fail
  refine (HOUT.out w2 (HI.out.keepB (HB.out.trans (HB2.out.mono HB.out.size)) (Nat.le_refl _))).mono ?_
  rintro e w3 ⟨c, rfl, hc1, hc2, hb3, hcase⟩
  have HB3 := Lib.hid (HB2.out.trans (hb3.mono HB2.out.size))
  have HC1 : Hid (W.heap.size ≤ c) := by have := HB2.out.size; show _ ≤ _; omega
  have HC2 := Lib.hid hc2
  have HCASE := Lib.hid hcase
  clear hc1 hc2 hb3 hcase c0 c1 c2
  go_wp2
  refine ⟨rfl, ?_⟩
  show MidN _ (base 7) _ _ [3, 4, 5, 6, 7, 8, 9] _ _
  have HIA : Hid (∀ w', Below W.heap.size W w' → IntsAt w' a t.items) := fun w' hb => HI.out.keepB (HB.out.trans (hb.mono HB.out.size)) (Nat.le_refl _)
  have HLW : Hid (W.heap.size ≤ w2.heap.size) := HB2.out.size
  have HL6 : Hid (t.items.length ≤ 1000000) := by show _ ≤ _; omega
  rcases HCASE.out with ⟨hV, b, cb, hch, hob, hbc⟩ | ⟨hV, hch⟩
  · refine mid_recv (c := c) (z := .agg #[.int .i64 0, .slice none 0 0]) (w₁ := w3) (o := ⟨some 26, .recv 42 (.tmp 25) true, _, _, _, _⟩) (by decide) rfl rfl (by simp [go_sem, rcase]) hch (by simp) ?_
    simp only [Act.put]
    obtain ⟨w4, hw4⟩ : ∃ w4, w4 = w3.setChan c 1 (#[Value.agg #[.int .i64 C.pos, .slice b C.items.length cb]].extract 1 (#[Value.agg #[.int .i64 C.pos, .slice b C.items.length cb]] : Array Value).size) true 1 (0 + 1) false := ⟨_, rfl⟩
    have HB4 : Hid (Below W.heap.size W w4) := by show Below _ _ _; rw [hw4]; exact below_setChan HB3.out HC1.out _ _ _ _ _ _
    have HO4 : Hid (OwnI w4 w2.heap.size b cb C.items) := by
      show OwnI _ _ _ _ _
      refine own_at hob fun x hx => ?_
      rw [hw4]; simp only [World.setChan]; rw [Array.getElem?_setIfInBounds_ne (Ne.symm (hbc x hx))]
    rw [← hw4]
    subst hV
    clear hw4 hch hob hbc
    show MidN _ _ _ _ (List.range' 4 6) _ _
    refine mid_drop 4 ?_
    simp only [List.drop_succ_cons, List.drop_zero]
    go_wp2
    obtain ⟨S4, hS4⟩ : ∃ S4, S4 = w4.alloc (.cells #[.int .i64 C.pos, .slice b C.items.length cb] 29) := ⟨_, rfl⟩
    rw [← hS4]
    have HK4 : Hid (Below W.heap.size W S4) := by show Below _ _ _; rw [hS4]; exact HB4.out.alloc HB4.out.size _
    have HZS : Hid (S4.heap.size = w4.heap.size + 1) := by show _ = _; rw [hS4]; simp
    have hcc : S4.heap[w4.heap.size]? = some (.cells #[.int .i64 C.pos, .slice b C.items.length cb] 29 (0, 0)) := by rw [hS4]; exact heap_alloc_new w4 _
    have HCC := Lib.hid hcc
    have HOS : Hid (OwnI S4 w2.heap.size b cb C.items) := by show OwnI _ _ _ _ _; rw [hS4]; exact HO4.out.keepB ((Below.refl _ _).alloc (Nat.le_refl _) _) (Nat.le_refl _)
    have HBL : Hid (∀ x, b = some x → w2.heap.size ≤ x.block ∧ x.block < w4.heap.size) := own_lt2 HO4.out
    have HSZ : Hid (w.heap.size + 3 = W.heap.size ∧ W.heap.size ≤ w4.heap.size) := ⟨HS.out.symm, HB4.out.size⟩
    clear hS4 hcc
    have HSK : Hid (∀ w', Below S4.heap.size S4 w' → (w'.cell? ⟨w.heap.size, 0, none⟩ = some (.slice a t.items.length cap) ∧ w'.cell? ⟨w.heap.size, 1, none⟩ = some (.int .i64 t.nxt) ∧ w'.cell? ⟨w.heap.size, 2, none⟩ = some (.int .i64 t.ack) ∧ w'.cell? ⟨w4.heap.size, 0, none⟩ = some (.int .i64 C.pos) ∧ w'.cell? ⟨w4.heap.size, 1, none⟩ = some (.slice b C.items.length cb))) := fun w' hb => by
      have z := HSZ.out
      have zz := HZS.out
      obtain ⟨x0, x1, x2⟩ := cells3 (HE.out w' (HK4.out.trans (hb.mono HK4.out.size))).1
      obtain ⟨y0, y1⟩ := cells2 ((hb.block w4.heap.size (by omega)).trans HCC.out)
      exact ⟨x0, x1, x2, y0, y1⟩
    have HST : Hid (∀ w' (u0 u1 u2 : Value), Below S4.heap.size S4 w' → ((((w'.setCell ⟨w.heap.size + 1, 0, none⟩ u0).setCell ⟨w.heap.size + 1, 1, none⟩ u1).setCell ⟨w.heap.size + 1, 2, none⟩ u2).cell? ⟨w.heap.size, 0, none⟩ = some (.slice a t.items.length cap) ∧ (((w'.setCell ⟨w.heap.size + 1, 0, none⟩ u0).setCell ⟨w.heap.size + 1, 1, none⟩ u1).setCell ⟨w.heap.size + 1, 2, none⟩ u2).cell? ⟨w.heap.size, 1, none⟩ = some (.int .i64 t.nxt) ∧ (((w'.setCell ⟨w.heap.size + 1, 0, none⟩ u0).setCell ⟨w.heap.size + 1, 1, none⟩ u1).setCell ⟨w.heap.size + 1, 2, none⟩ u2).cell? ⟨w.heap.size, 2, none⟩ = some (.int .i64 t.ack) ∧ (((w'.setCell ⟨w.heap.size + 1, 0, none⟩ u0).setCell ⟨w.heap.size + 1, 1, none⟩ u1).setCell ⟨w.heap.size + 1, 2, none⟩ u2).cell? ⟨w4.heap.size, 0, none⟩ = some (.int .i64 C.pos) ∧ (((w'.setCell ⟨w.heap.size + 1, 0, none⟩ u0).setCell ⟨w.heap.size + 1, 1, none⟩ u1).setCell ⟨w.heap.size + 1, 2, none⟩ u2).cell? ⟨w4.heap.size, 1, none⟩ = some (.slice b C.items.length cb))) := fun w' u0 u1 u2 hb => by
      have z := HSZ.out
      obtain ⟨x0, x1, x2, y0, y1⟩ := HSK.out w' hb
      exact ⟨(set3_cell (by omega)).trans x0, (set3_cell (by omega)).trans x1, (set3_cell (by omega)).trans x2, (set3_cell (by omega)).trans y0, (set3_cell (by omega)).trans y1⟩
    have HST2 : Hid (∀ w' (u0 u1 u2 v0 v1 : Value), Below S4.heap.size S4 w' → ((((((w'.setCell ⟨w.heap.size + 1, 0, none⟩ u0).setCell ⟨w.heap.size + 1, 1, none⟩ u1).setCell ⟨w.heap.size + 1, 2, none⟩ u2).setCell ⟨w.heap.size + 2, 0, none⟩ v0).setCell ⟨w.heap.size + 2, 1, none⟩ v1).cell? ⟨w.heap.size, 0, none⟩ = some (.slice a t.items.length cap) ∧ (((((w'.setCell ⟨w.heap.size + 1, 0, none⟩ u0).setCell ⟨w.heap.size + 1, 1, none⟩ u1).setCell ⟨w.heap.size + 1, 2, none⟩ u2).setCell ⟨w.heap.size + 2, 0, none⟩ v0).setCell ⟨w.heap.size + 2, 1, none⟩ v1).cell? ⟨w.heap.size, 1, none⟩ = some (.int .i64 t.nxt) ∧ (((((w'.setCell ⟨w.heap.size + 1, 0, none⟩ u0).setCell ⟨w.heap.size + 1, 1, none⟩ u1).setCell ⟨w.heap.size + 1, 2, none⟩ u2).setCell ⟨w.heap.size + 2, 0, none⟩ v0).setCell ⟨w.heap.size + 2, 1, none⟩ v1).cell? ⟨w.heap.size, 2, none⟩ = some (.int .i64 t.ack) ∧ (((((w'.setCell ⟨w.heap.size + 1, 0, none⟩ u0).setCell ⟨w.heap.size + 1, 1, none⟩ u1).setCell ⟨w.heap.size + 1, 2, none⟩ u2).setCell ⟨w.heap.size + 2, 0, none⟩ v0).setCell ⟨w.heap.size + 2, 1, none⟩ v1).cell? ⟨w4.heap.size, 0, none⟩ = some (.int .i64 C.pos) ∧ (((((w'.setCell ⟨w.heap.size + 1, 0, none⟩ u0).setCell ⟨w.heap.size + 1, 1, none⟩ u1).setCell ⟨w.heap.size + 1, 2, none⟩ u2).setCell ⟨w.heap.size + 2, 0, none⟩ v0).setCell ⟨w.heap.size + 2, 1, none⟩ v1).cell? ⟨w4.heap.size, 1, none⟩ = some (.slice b C.items.length cb))) := fun w' u0 u1 u2 v0 v1 hb => by
      have z := HSZ.out
      obtain ⟨x0, x1, x2, y0, y1⟩ := HST.out w' u0 u1 u2 hb
      exact ⟨(set2_cell (by omega)).trans x0, (set2_cell (by omega)).trans x1, (set2_cell (by omega)).trans x2, (set2_cell (by omega)).trans y0, (set2_cell (by omega)).trans y1⟩
    have HD : Hid (∀ w', Below S4.heap.size S4.drew w' → Below S4.heap.size S4 w') := fun w' hb => ((Below.refl _ _).drew).trans hb
    obtain ⟨d0, d1, d2, d3, d4⟩ := HSK.out S4 (Below.refl _ _)
    refine wpn_seq_k fun K hK => ?_
    go_region_held3 (fun w' => w'.cell? ⟨w.heap.size, 0, none⟩ = some (.slice a t.items.length cap) ∧ w'.cell? ⟨w.heap.size, 1, none⟩ = some (.int .i64 t.nxt) ∧ w'.cell? ⟨w.heap.size, 2, none⟩ = some (.int .i64 t.ack) ∧ w'.cell? ⟨w4.heap.size, 0, none⟩ = some (.int .i64 C.pos) ∧ w'.cell? ⟨w4.heap.size, 1, none⟩ = some (.slice b C.items.length cb)) (first | (with_reducible exact HSK.out _ ((Below.refl _ _).drew)) | (with_reducible exact HSK.out _ (HB5.out)) | (with_reducible exact HST.out _ _ _ _ (HB5.out)) | (with_reducible exact HST2.out _ _ _ _ _ _ (HB5.out))) (first | (go_at_call 18; refine (pwith_any a _ t _ _ _ (HIA.out _ (HK4.out.drew)) HL6.out).mono ?_; rintro e w5 ⟨ax, cx, rfl, ho, hb5⟩; have HB5 := Lib.hid (HD.out _ hb5); have h7 := (HE.out _ (HK4.out.trans (HB5.out.mono HK4.out.size))).2.1; have h8 := (HE.out _ (HK4.out.trans (HB5.out.mono HK4.out.size))).2.2; obtain ⟨e0, e1, e2⟩ := cells3 h7; obtain ⟨j0, j1⟩ := cells2 h8; have g0 := frozen_of_cells h7 0; have g1 := frozen_of_cells h7 1; have g2 := frozen_of_cells h7 2; have l0 := frozen_of_cells h8 0; have l1 := frozen_of_cells h8 1; have H7 := Lib.hid h7; have H8 := Lib.hid h8; have HOX := Lib.hid ho; clear h7 h8 hb5 ho))
    go_wp2
    refine wpn_of (wp_ret ?_)
    have z1 := HSZ.out.1
    have z2 := HSZ.out.2
    have z3 := HZS.out
    have z4 := HLW.out
    have z5 : ∀ x, ax = some x → S4.heap.size ≤ x.block := fun x hx => (own_lt2 HOX.out x hx).1
    refine ⟨.inr rfl, rfl, _, res_cct rfl _ _ (w.heap.size + 1) (w.heap.size + 2) _ _ #[.slice ax t.items.length cx, .int .i64 (t.nxt + (C.items.length : Int)), .int .i64 t.ack] #[.int .i64 C.pos, .slice b C.items.length cb] (0, 0) (0, 0) _ _ rfl ((set2_ne (by omega)).trans (set3 H7.out)) rfl (set2 ((set3_ne (by omega)).trans H8.out)) Try.underlying25 rfl (by kernel_rfl) Try.underlying29 rfl (by kernel_rfl), ?_⟩
    refine ⟨ax, cx, b, cb, rfl, ?_, ?_, ?_, below_set2 (below_set3 (HB.out.trans ((HK4.out.trans (HB5.out.mono HK4.out.size)).mono HB.out.size)) (by omega) _ _ _) (by omega) _ _⟩
    · exact (HOX.out.kept (fun i h1 h2 => (set2_ne (by have h1 : S4.heap.size ≤ i := h1; omega)).trans (set3_ne (by have h1 : S4.heap.size ≤ i := h1; omega)))).less (by show w.heap.size ≤ S4.heap.size; omega)
    · exact ((HOS.out.keepB HB5.out (Nat.le_refl _)).kept (fun i h1 h2 => (set2_ne (by omega)).trans (set3_ne (by omega)))).less (by omega)
    · intro x y hx hy
      have h1 := z5 x hx
      have h2 := (HBL.out y hy).2
      omega
  · have hC := HC0.out hV
    have hp : C.pos = 0 := by rw [hC]; rfl
    have hi : C.items = [] := by rw [hC]; rfl
    refine mid_shut (c := c) (z := .agg #[.int .i64 C.pos, .slice none C.items.length 0]) (w₁ := w3) (o := ⟨some 26, .recv 42 (.tmp 25) true, _, _, _, _⟩) (by decide) rfl rfl (by rw [hp, hi]; simp [go_sem, rcase]) hch ?_
    simp only [Act.put]
    obtain ⟨w4, hw4⟩ : ∃ w4, w4 = w3 := ⟨_, rfl⟩
    obtain ⟨b, hb⟩ : ∃ b : Option Addr, b = none := ⟨_, rfl⟩
    obtain ⟨cb, hcb⟩ : ∃ cb : Nat, cb = 0 := ⟨_, rfl⟩
    have HB4 : Hid (Below W.heap.size W w4) := by show Below _ _ _; rw [hw4]; exact HB3.out
    have HO4 : Hid (OwnI w4 w2.heap.size b cb C.items) := by show OwnI _ _ _ _ _; rw [hb, hcb, hi]; exact own_nilI _ _
    rw [← hw4, ← hb]
    subst hV
    have hz : (.slice b C.items.length 0 : Value) = .slice b C.items.length cb := by rw [hcb]
    rw [hz]
    clear hw4 hch hb hcb hC hp hi hz
    show MidN _ _ _ _ (List.range' 4 6) _ _
    refine mid_drop 4 ?_
    simp only [List.drop_succ_cons, List.drop_zero]
    go_wp2
    obtain ⟨S4, hS4⟩ : ∃ S4, S4 = w4.alloc (.cells #[.int .i64 C.pos, .slice b C.items.length cb] 29) := ⟨_, rfl⟩
    rw [← hS4]
    have HK4 : Hid (Below W.heap.size W S4) := by show Below _ _ _; rw [hS4]; exact HB4.out.alloc HB4.out.size _
    have HZS : Hid (S4.heap.size = w4.heap.size + 1) := by show _ = _; rw [hS4]; simp
    have hcc : S4.heap[w4.heap.size]? = some (.cells #[.int .i64 C.pos, .slice b C.items.length cb] 29 (0, 0)) := by rw [hS4]; exact heap_alloc_new w4 _
    have HCC := Lib.hid hcc
    have HOS : Hid (OwnI S4 w2.heap.size b cb C.items) := by show OwnI _ _ _ _ _; rw [hS4]; exact HO4.out.keepB ((Below.refl _ _).alloc (Nat.le_refl _) _) (Nat.le_refl _)
    have HBL : Hid (∀ x, b = some x → w2.heap.size ≤ x.block ∧ x.block < w4.heap.size) := own_lt2 HO4.out
    have HSZ : Hid (w.heap.size + 3 = W.heap.size ∧ W.heap.size ≤ w4.heap.size) := ⟨HS.out.symm, HB4.out.size⟩
    clear hS4 hcc
    have HSK : Hid (∀ w', Below S4.heap.size S4 w' → (w'.cell? ⟨w.heap.size, 0, none⟩ = some (.slice a t.items.length cap) ∧ w'.cell? ⟨w.heap.size, 1, none⟩ = some (.int .i64 t.nxt) ∧ w'.cell? ⟨w.heap.size, 2, none⟩ = some (.int .i64 t.ack) ∧ w'.cell? ⟨w4.heap.size, 0, none⟩ = some (.int .i64 C.pos) ∧ w'.cell? ⟨w4.heap.size, 1, none⟩ = some (.slice b C.items.length cb))) := fun w' hb => by
      have z := HSZ.out
      have zz := HZS.out
      obtain ⟨x0, x1, x2⟩ := cells3 (HE.out w' (HK4.out.trans (hb.mono HK4.out.size))).1
      obtain ⟨y0, y1⟩ := cells2 ((hb.block w4.heap.size (by omega)).trans HCC.out)
      exact ⟨x0, x1, x2, y0, y1⟩
    have HST : Hid (∀ w' (u0 u1 u2 : Value), Below S4.heap.size S4 w' → ((((w'.setCell ⟨w.heap.size + 1, 0, none⟩ u0).setCell ⟨w.heap.size + 1, 1, none⟩ u1).setCell ⟨w.heap.size + 1, 2, none⟩ u2).cell? ⟨w.heap.size, 0, none⟩ = some (.slice a t.items.length cap) ∧ (((w'.setCell ⟨w.heap.size + 1, 0, none⟩ u0).setCell ⟨w.heap.size + 1, 1, none⟩ u1).setCell ⟨w.heap.size + 1, 2, none⟩ u2).cell? ⟨w.heap.size, 1, none⟩ = some (.int .i64 t.nxt) ∧ (((w'.setCell ⟨w.heap.size + 1, 0, none⟩ u0).setCell ⟨w.heap.size + 1, 1, none⟩ u1).setCell ⟨w.heap.size + 1, 2, none⟩ u2).cell? ⟨w.heap.size, 2, none⟩ = some (.int .i64 t.ack) ∧ (((w'.setCell ⟨w.heap.size + 1, 0, none⟩ u0).setCell ⟨w.heap.size + 1, 1, none⟩ u1).setCell ⟨w.heap.size + 1, 2, none⟩ u2).cell? ⟨w4.heap.size, 0, none⟩ = some (.int .i64 C.pos) ∧ (((w'.setCell ⟨w.heap.size + 1, 0, none⟩ u0).setCell ⟨w.heap.size + 1, 1, none⟩ u1).setCell ⟨w.heap.size + 1, 2, none⟩ u2).cell? ⟨w4.heap.size, 1, none⟩ = some (.slice b C.items.length cb))) := fun w' u0 u1 u2 hb => by
      have z := HSZ.out
      obtain ⟨x0, x1, x2, y0, y1⟩ := HSK.out w' hb
      exact ⟨(set3_cell (by omega)).trans x0, (set3_cell (by omega)).trans x1, (set3_cell (by omega)).trans x2, (set3_cell (by omega)).trans y0, (set3_cell (by omega)).trans y1⟩
    have HST2 : Hid (∀ w' (u0 u1 u2 v0 v1 : Value), Below S4.heap.size S4 w' → ((((((w'.setCell ⟨w.heap.size + 1, 0, none⟩ u0).setCell ⟨w.heap.size + 1, 1, none⟩ u1).setCell ⟨w.heap.size + 1, 2, none⟩ u2).setCell ⟨w.heap.size + 2, 0, none⟩ v0).setCell ⟨w.heap.size + 2, 1, none⟩ v1).cell? ⟨w.heap.size, 0, none⟩ = some (.slice a t.items.length cap) ∧ (((((w'.setCell ⟨w.heap.size + 1, 0, none⟩ u0).setCell ⟨w.heap.size + 1, 1, none⟩ u1).setCell ⟨w.heap.size + 1, 2, none⟩ u2).setCell ⟨w.heap.size + 2, 0, none⟩ v0).setCell ⟨w.heap.size + 2, 1, none⟩ v1).cell? ⟨w.heap.size, 1, none⟩ = some (.int .i64 t.nxt) ∧ (((((w'.setCell ⟨w.heap.size + 1, 0, none⟩ u0).setCell ⟨w.heap.size + 1, 1, none⟩ u1).setCell ⟨w.heap.size + 1, 2, none⟩ u2).setCell ⟨w.heap.size + 2, 0, none⟩ v0).setCell ⟨w.heap.size + 2, 1, none⟩ v1).cell? ⟨w.heap.size, 2, none⟩ = some (.int .i64 t.ack) ∧ (((((w'.setCell ⟨w.heap.size + 1, 0, none⟩ u0).setCell ⟨w.heap.size + 1, 1, none⟩ u1).setCell ⟨w.heap.size + 1, 2, none⟩ u2).setCell ⟨w.heap.size + 2, 0, none⟩ v0).setCell ⟨w.heap.size + 2, 1, none⟩ v1).cell? ⟨w4.heap.size, 0, none⟩ = some (.int .i64 C.pos) ∧ (((((w'.setCell ⟨w.heap.size + 1, 0, none⟩ u0).setCell ⟨w.heap.size + 1, 1, none⟩ u1).setCell ⟨w.heap.size + 1, 2, none⟩ u2).setCell ⟨w.heap.size + 2, 0, none⟩ v0).setCell ⟨w.heap.size + 2, 1, none⟩ v1).cell? ⟨w4.heap.size, 1, none⟩ = some (.slice b C.items.length cb))) := fun w' u0 u1 u2 v0 v1 hb => by
      have z := HSZ.out
      obtain ⟨x0, x1, x2, y0, y1⟩ := HST.out w' u0 u1 u2 hb
      exact ⟨(set2_cell (by omega)).trans x0, (set2_cell (by omega)).trans x1, (set2_cell (by omega)).trans x2, (set2_cell (by omega)).trans y0, (set2_cell (by omega)).trans y1⟩
    have HD : Hid (∀ w', Below S4.heap.size S4.drew w' → Below S4.heap.size S4 w') := fun w' hb => ((Below.refl _ _).drew).trans hb
    obtain ⟨d0, d1, d2, d3, d4⟩ := HSK.out S4 (Below.refl _ _)
    refine wpn_seq_k fun K hK => ?_
    go_region_held3 (fun w' => w'.cell? ⟨w.heap.size, 0, none⟩ = some (.slice a t.items.length cap) ∧ w'.cell? ⟨w.heap.size, 1, none⟩ = some (.int .i64 t.nxt) ∧ w'.cell? ⟨w.heap.size, 2, none⟩ = some (.int .i64 t.ack) ∧ w'.cell? ⟨w4.heap.size, 0, none⟩ = some (.int .i64 C.pos) ∧ w'.cell? ⟨w4.heap.size, 1, none⟩ = some (.slice b C.items.length cb)) (first | (with_reducible exact HSK.out _ ((Below.refl _ _).drew)) | (with_reducible exact HSK.out _ (HB5.out)) | (with_reducible exact HST.out _ _ _ _ (HB5.out)) | (with_reducible exact HST2.out _ _ _ _ _ _ (HB5.out))) (first | (go_at_call 18; refine (pwith_any a _ t _ _ _ (HIA.out _ (HK4.out.drew)) HL6.out).mono ?_; rintro e w5 ⟨ax, cx, rfl, ho, hb5⟩; have HB5 := Lib.hid (HD.out _ hb5); have h7 := (HE.out _ (HK4.out.trans (HB5.out.mono HK4.out.size))).2.1; have h8 := (HE.out _ (HK4.out.trans (HB5.out.mono HK4.out.size))).2.2; obtain ⟨e0, e1, e2⟩ := cells3 h7; obtain ⟨j0, j1⟩ := cells2 h8; have g0 := frozen_of_cells h7 0; have g1 := frozen_of_cells h7 1; have g2 := frozen_of_cells h7 2; have l0 := frozen_of_cells h8 0; have l1 := frozen_of_cells h8 1; have H7 := Lib.hid h7; have H8 := Lib.hid h8; have HOX := Lib.hid ho; clear h7 h8 hb5 ho))
    go_wp2
    refine wpn_of (wp_ret ?_)
    have z1 := HSZ.out.1
    have z2 := HSZ.out.2
    have z3 := HZS.out
    have z4 := HLW.out
    have z5 : ∀ x, ax = some x → S4.heap.size ≤ x.block := fun x hx => (own_lt2 HOX.out x hx).1
    refine ⟨.inr rfl, rfl, _, res_cct rfl _ _ (w.heap.size + 1) (w.heap.size + 2) _ _ #[.slice ax t.items.length cx, .int .i64 (t.nxt + (C.items.length : Int)), .int .i64 t.ack] #[.int .i64 C.pos, .slice b C.items.length cb] (0, 0) (0, 0) _ _ rfl ((set2_ne (by omega)).trans (set3 H7.out)) rfl (set2 ((set3_ne (by omega)).trans H8.out)) Try.underlying25 rfl (by kernel_rfl) Try.underlying29 rfl (by kernel_rfl), ?_⟩
    refine ⟨ax, cx, b, cb, rfl, ?_, ?_, ?_, below_set2 (below_set3 (HB.out.trans ((HK4.out.trans (HB5.out.mono HK4.out.size)).mono HB.out.size)) (by omega) _ _ _) (by omega) _ _⟩
    · exact (HOX.out.kept (fun i h1 h2 => (set2_ne (by have h1 : S4.heap.size ≤ i := h1; omega)).trans (set3_ne (by have h1 : S4.heap.size ≤ i := h1; omega)))).less (by show w.heap.size ≤ S4.heap.size; omega)
    · exact ((HOS.out.keepB HB5.out (Nat.le_refl _)).kept (fun i h1 h2 => (set2_ne (by omega)).trans (set3_ne (by omega)))).less (by omega)
    · intro x y hx hy
      have h1 := z5 x hx
      have h2 := (HBL.out y hy).2
      omega
theorem psend_any (a : Option Addr) (cap : Nat) (t : Tf) (v : Int) (w : World) (h : IntsAt w a t.items) (hm : t.items.length ≤ maxLen) (hcap : t.items.length ≤ cap) :
    Calls Try.prog 7 #[.agg #[.slice a t.items.length cap, .int .i64 t.nxt, .int .i64 t.ack], .int .i64 v] w (NewTfC (sendT t v) (sendC t v) (sendB t v) w) := by
  cases hv : askB t v
  · exact psend_no a cap t v w h hm hv
  · exact psend_yes a cap t v w h hm hcap hv
end Go.Proofs.Ytoiecicfmnpnoaa
