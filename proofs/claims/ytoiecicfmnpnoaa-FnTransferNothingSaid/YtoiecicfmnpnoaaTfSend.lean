/- Transfers: the program's TransferSend, whose chunk passes through a channel. -/
import Derived.Test.YtoiecicfmnpnoaaTfP3
import Derived.Test.YtoiecicfmnpnoaaChan
namespace Go.Proofs.Ytoiecicfmnpnoaa
open Go.RowKit Go.Conc
set_option linter.unusedVariables false

attribute [local go_sem ↓] Go.wp_at_zero Go.wp_at_succ

theorem run_min3p {P : Program} (ts : Array TypeId) (t : TypeId) (k k' k'' : IntKind) (x y z : Int) (w : World) : (Builtin.min_ ts t #[.int k x, .int k' y, .int k'' z]).run P w = .ok (.int k (min (min x y) z)) w := by
  simp [Builtin.min_, Builtin.min2]; omega
attribute [local go_sem ↓] run_min3p

theorem anyS_op {P : Program} {ops : Array Oper} {S : World → Prop} {K : Act → World → Prop} {n : Nat} {a : Act} {w : World} (i : Nat) {o : Oper} {f : Nat} {listed : Array Bool} (hi : ops[i]? = some o) (hg : o.guard = none) (hr : decide (Region.ready .any ops listed = [i]) = true)
    (h : ∀ K' : Act → World → Prop, (∀ a' w', S w' → anyS P ops S K n f (listed.setIfInBounds i true) a' w' → K' a' w') → o.wp P a w K' (Ahead K)) : anyS P ops S K n (f + 1) listed a w := by
  refine anyS_one i hr ?_
  unfold wpOp
  have hw : Region.wanted o (yielded ops a.tmps) = true := by simp [Region.wanted, hg]
  simp only [hi, if_pos hw]
  exact .inl (h _ (fun a' w' h1 h2 => ⟨h1, h2⟩))
theorem wpn_seq_k {P : Program} {b : Frame} {Q : Exit → Act → World → Prop} {a : Act} {w : World} {x y : Code} (h : ∀ K : Act → World → Prop, (∀ a w, WpN P b y Q a w → K a w) → x.wp P (Exit.then K Q) a w) : WpN P b (.seq x y) Q a w :=
  wpn_seq (wpn_of (h _ fun _ _ h => h))

set_option maxHeartbeats 1000000 in
theorem proom_any (a : Option Addr) (cap : Nat) (t : Tf) (v : Int) (w : World) (ht : tfB t = true) (h0 : 0 ≤ v) (h1 : v ≤ 20) :
    Calls Try.prog 25 #[.agg #[.slice a t.items.length cap, .int .i64 t.nxt, .int .i64 t.ack], .int .i64 v] w fun e w' => e = .returned (.int .i64 (endI t v - t.nxt)) ∧ Below w.heap.size w w' := by
  obtain ⟨i1, ⟨n0, n1⟩, k0, k1⟩ := (tfB_iff t).1 ht
  have hl := items_len i1
  clear i1 ht
  obtain ⟨W, hW⟩ : ∃ W, W = w.alloc (.cells #[.slice a t.items.length cap, .int .i64 t.nxt, .int .i64 t.ack] 25) := ⟨_, rfl⟩
  have hB : Below w.heap.size w W := by rw [hW]; exact (Below.refl _ _).alloc (Nat.le_refl _) _
  have hh : W.heap[w.heap.size]? = some (.cells #[.slice a t.items.length cap, .int .i64 t.nxt, .int .i64 t.ack] 25 (0, 0)) := by rw [hW]; exact heap_alloc_new w _
  obtain ⟨c0, c1, c2⟩ := cells3 hh
  have HB := Lib.hid hB
  have HW := Lib.hid hW
  clear hh hW hB
  go_enter Try.func25, Try.ntmps25
  go_wp2_with fail
  rw [← HW.out]
  go_wp2
  go_ret
  refine ⟨?_, HB.out⟩
  have e : min (4 : Int) (min (t.items.length - t.nxt) (v - (t.nxt - t.ack))) = endI t v - t.nxt := by unfold endI; omega
  rw [← e]; rfl

theorem bytesCk : ∃ i, Try.prog.info? 29 = some i ∧ i.bytes = 32 := by
  have h : (Try.prog.info? 29).map (·.bytes) = some 32 := by kernel_rfl
  obtain ⟨i, hi, hb⟩ := Option.map_eq_some_iff.1 h
  exact ⟨i, hi, hb⟩
theorem mkCh (w : World) : (Instr.makeChan 53 (.int .i64 1)).run Try.prog w = .ok (.chan (some w.heap.size)) (w.alloc (.chan 1 #[] false 0 0 false)) := by
  obtain ⟨i, hi, hb⟩ := bytesCk
  simpa using run_makeChan (P := Try.prog) (w := w) Try.underlying53 hi .i64 1 (by omega) (by rw [hb]; omega)

/-- a closed channel through which the next chunk passes, if there is one -/
def OutCh (t : Tf) (v : Int) (w : World) (e : Ending) (w' : World) : Prop :=
  ∃ c, e = .returned (.chan (some c)) ∧ w.heap.size ≤ c ∧ c < w'.heap.size ∧ Below w.heap.size w w' ∧
    ((sendB t v = true ∧ ∃ b cb, w'.heap[c]? = some (.chan 1 #[.agg #[.int .i64 (sendC t v).pos, .slice b (sendC t v).items.length cb]] true 1 0 false) ∧ OwnI w' w.heap.size b cb (sendC t v).items ∧ ∀ x, b = some x → x.block ≠ c) ∨
     (sendB t v = false ∧ w'.heap[c]? = some (.chan 1 #[] true 0 0 false)))

set_option maxHeartbeats 4000000 in
theorem pout_no (a : Option Addr) (cap : Nat) (t : Tf) (v : Int) (w : World) (h : IntsAt w a t.items) (ht : tfB t = true) (h0 : 0 ≤ v) (h1 : v ≤ 20) (hs : sendB t v = false) :
    Calls Try.prog 17 #[.agg #[.slice a t.items.length cap, .int .i64 t.nxt, .int .i64 t.ack], .int .i64 v] w (OutCh t v w) := by
  have hle : endI t v - t.nxt ≤ 0 := by
    unfold sendB askB at hs
    rw [ht, (inB_iff v 0 20).2 ⟨h0, h1⟩] at hs
    simp at hs; omega
  have HT := Lib.hid ht
  have HI := Lib.hid h
  have HSB := Lib.hid hs
  clear ht h hs
  obtain ⟨W, hW⟩ : ∃ W, W = (w.alloc (.cells #[.slice a t.items.length cap, .int .i64 t.nxt, .int .i64 t.ack] 25)).alloc (.chan 1 #[] false 0 0 false) := ⟨_, rfl⟩
  obtain ⟨hs, hB, h1', h2⟩ := two_newT hW
  obtain ⟨c0, c1, c2⟩ := cells3 h1'
  have HB := Lib.hid hB
  have HW := Lib.hid hW
  have HS := Lib.hid hs
  have H2 := Lib.hid h2
  have hmc := mkCh
  clear hW hB hs h1' h2
  refine calls_of_wpn Try.func17 rfl ?_
  simp only [Try.ntmps17, List.size_toArray, List.length_cons, List.length_nil, Nat.reduceAdd, Nat.reduceSub, Array.replicate_succ, Array.replicate_zero, List.push_toArray, List.append_toArray, List.nil_append, List.cons_append]
  refine wpn_seq_k fun K hK => ?_
  go_wp2
  refine wpn_seq_k fun K hK => ?_
  go_wp2
  rw [← HW.out]
  refine wpn_seq (wpn_seq_k fun K hK => ?_)
  go_wp2_with fail
  refine (proom_any a cap t v W HT.out h0 h1).mono ?_
  rintro e w3 ⟨rfl, hb3⟩
  have hz := HS.out
  have hc3 := (hb3.block (w.heap.size + 1) (by omega)).trans H2.out
  have HC3 := Lib.hid hc3
  have HB3 := Lib.hid (HB.out.trans (hb3.mono HB.out.size))
  have hlt3 : w.heap.size + 1 < w3.heap.size := by have := hb3.size; omega
  clear hb3 hz hc3
  go_wp2
  refine wpn_seq_k fun K hK => ?_
  go_wp2
  refine wpn_cond (t := false) (by show Value.bool (decide (t.nxt < endI t v)) = _; rw [decide_eq_false (by omega)]) ?_
  simp only [Bool.false_eq_true, if_false]
  refine wpn_of ?_
  go_wp2
  have hcl := fun ats ty => run_close_open (P := Try.prog) (w := w3) ats ty HC3.out
  refine wpn_seq_k fun K hK => ?_
  go_wp2
  clear hcl
  refine wpn_seq_k fun K hK => ?_
  go_wp2
  refine wpn_of (wp_ret ?_)
  refine ⟨.inr rfl, rfl, _, results_tmp rfl _ _ _, w.heap.size + 1, rfl, by omega, ?_, ?_, .inr ⟨HSB.out, heap_setChan w3 (w.heap.size + 1) 1 #[] true 0 0 false hlt3⟩⟩
  · show _ < (w3.setChan (w.heap.size + 1) 1 #[] true 0 0 false).heap.size
    rw [size_setChan]; exact hlt3
  · exact below_setChan HB3.out (by omega) 1 #[] true 0 0 false

set_option maxHeartbeats 4000000 in
theorem pout_yes (a : Option Addr) (cap : Nat) (t : Tf) (v : Int) (w : World) (h : IntsAt w a t.items) (hcap : t.items.length ≤ cap) (ht : tfB t = true) (h0 : 0 ≤ v) (h1 : v ≤ 20) (hs : sendB t v = true) :
    Calls Try.prog 17 #[.agg #[.slice a t.items.length cap, .int .i64 t.nxt, .int .i64 t.ack], .int .i64 v] w (OutCh t v w) := by
  obtain ⟨zs, n, k⟩ := t
  obtain ⟨i1, ⟨n0, n1⟩, k0, k1⟩ := (tfB_iff _).1 ht
  have n0 : 0 ≤ n := n0
  have n1 : n ≤ zs.length := n1
  have k0 : 0 ≤ k := k0
  have k1 : k ≤ n := k1
  have hzl : zs.length ≤ 20 := items_len i1
  have hcap : zs.length ≤ cap := hcap
  obtain ⟨n, rfl⟩ : ∃ m : Nat, n = (m : Int) := ⟨n.toNat, by omega⟩
  have he := end_le ⟨zs, (n : Int), k⟩ v
  have he1 : endI ⟨zs, (n : Int), k⟩ v ≤ zs.length := he.1
  have hse : (n : Int) < endI ⟨zs, (n : Int), k⟩ v := (send_yes hs).2.2
  obtain ⟨M, hM⟩ : ∃ M : Nat, endI ⟨zs, (n : Int), k⟩ v = ((n + M : Nat) : Int) := ⟨(endI ⟨zs, (n : Int), k⟩ v).toNat - n, by omega⟩
  rw [hM] at he1 hse
  have hm1 : n + M ≤ zs.length := by omega
  have hm0 : 0 < M := by omega
  have HRM : Hid (∀ w, Calls Try.prog 25 #[.agg #[.slice a zs.length cap, .int .i64 (n : Int), .int .i64 k], .int .i64 v] w fun e w' => e = .returned (.int .i64 (M : Int)) ∧ Below w.heap.size w w') := fun w => by
    refine (proom_any a cap ⟨zs, (n : Int), k⟩ v w ht h0 h1).mono ?_
    rintro e w' ⟨rfl, hb⟩
    refine ⟨?_, hb⟩
    rw [hM]; show Ending.returned (.int .i64 (((n + M : Nat) : Int) - (n : Int))) = _
    rw [show ((n + M : Nat) : Int) - (n : Int) = M by omega]
  have HSC : Hid (sendC ⟨zs, (n : Int), k⟩ v = ⟨(n : Int), cutL zs (n : Int) ((n + M : Nat) : Int)⟩) := by show _ = _; rw [sendC, if_pos hs, hM]
  have HI : Hid (IntsAt w a zs) := h
  have HSB := Lib.hid hs
  have HCL : Hid ((cutL zs (n : Int) ((n + M : Nat) : Int)).length = M) := by show _ = _; rw [cutL_len' (by omega) hm1]; omega
  have hsl := fun w => run_slcLH w a zs.length cap n (n + M) (by omega) (by omega)
  rw [show n + M - n = M by omega, show ((n + M : Nat) : Int) = (n : Int) + (M : Int) by omega] at hsl
  have hwr : IntKind.i64.wrap ((n : Int) + (M : Int)) = (n : Int) + (M : Int) := by rw [IntKind.wrap_i64]; omega
  have HSL : Hid (∀ w', IntsAt w' a zs → IntsAt w' (slA a cap n) (cutL zs (n : Int) ((n + M : Nat) : Int))) := fun w' hi => ints_slc hi (by omega) hm1 hcap
  clear ht h hs he he1 hse hM i1
  show Calls _ _ #[.agg #[.slice a zs.length cap, .int .i64 (n : Int), .int .i64 k], .int .i64 v] _ _
  obtain ⟨W, hW⟩ : ∃ W, W = (w.alloc (.cells #[.slice a zs.length cap, .int .i64 (n : Int), .int .i64 k] 25)).alloc (.chan 1 #[] false 0 0 false) := ⟨_, rfl⟩
  obtain ⟨hs, hB, h1', h2⟩ := two_newT hW
  obtain ⟨c0, c1, c2⟩ := cells3 h1'
  have HB := Lib.hid hB
  have HW := Lib.hid hW
  have HS := Lib.hid hs
  have H1 := Lib.hid h1'
  have H2 := Lib.hid h2
  have hmc := mkCh
  clear hW hB hs h1' h2
  refine calls_of_wpn Try.func17 rfl ?_
  simp only [Try.ntmps17, List.size_toArray, List.length_cons, List.length_nil, Nat.reduceAdd, Nat.reduceSub, Array.replicate_succ, Array.replicate_zero, List.push_toArray, List.append_toArray, List.nil_append, List.cons_append]
  refine wpn_seq_k fun K hK => ?_
  go_wp2
  refine wpn_seq_k fun K hK => ?_
  go_wp2
  rw [← HW.out]
  clear hmc
  refine wpn_seq (wpn_seq_k fun K hK => ?_)
  go_wp2_with fail
  refine (HRM.out W).mono ?_
  rintro e w3 ⟨rfl, hb3⟩
  have hz := HS.out
  have hc3 := (hb3.block (w.heap.size + 1) (by omega)).trans H2.out
  have hc4 := (hb3.block w.heap.size (by omega)).trans H1.out
  have HC3 := Lib.hid hc3
  have HB3 := Lib.hid (HB.out.trans (hb3.mono HB.out.size))
  have HZ3 : Hid (w.heap.size + 1 < w3.heap.size) := by have := hb3.size; show _ < _; omega
  clear c0 c1 c2
  obtain ⟨c0, c1, c2⟩ := cells3 hc4
  clear hb3 hz hc3 hc4
  go_wp2
  refine wpn_seq_k fun K hK => ?_
  go_wp2
  refine wpn_cond (t := true) rfl ?_
  simp only [if_true]
  have hS : w3.drew.cell? ⟨w.heap.size, 0, none⟩ = some (.slice a zs.length cap) ∧ w3.drew.cell? ⟨w.heap.size, 1, none⟩ = some (.int .i64 (n : Int)) := ⟨c0, c1⟩
  clear c0 c1 c2
  refine wpn_draw_last (fun w' => w'.cell? ⟨w.heap.size, 0, none⟩ = some (.slice a zs.length cap) ∧ w'.cell? ⟨w.heap.size, 1, none⟩ = some (.int .i64 (n : Int))) 14 (by kernel_rfl) (by kernel_rfl) (K := fun a w => MidN _ _ _ _ _ a w) (fun _ _ h => h) ?_
  refine anyS_take 0 (.chan (some (w.heap.size + 1))) rfl (by kernel_rfl) (.inl ⟨rfl, fun w' hS => by obtain ⟨s0, s1⟩ := hS; go_simp⟩) hS ?_
  simp only [Act.put, List.setIfInBounds_toArray]
  refine anyS_take 1 (.pointer (some ⟨w.heap.size, 1, none⟩)) rfl (by kernel_rfl) (.inl ⟨rfl, fun w' hS => by obtain ⟨s0, s1⟩ := hS; go_simp⟩) hS ?_
  simp only [Act.put]
  refine anyS_take 2 (.int .i64 (n : Int)) rfl (by kernel_rfl) (.inl ⟨rfl, fun w' hS => by obtain ⟨s0, s1⟩ := hS; go_simp⟩) hS ?_
  simp only [Act.put]
  refine anyS_take 3 (.pointer (some ⟨w.heap.size, 0, none⟩)) rfl (by kernel_rfl) (.inl ⟨rfl, fun w' hS => by obtain ⟨s0, s1⟩ := hS; go_simp⟩) hS ?_
  simp only [Act.put]
  refine anyS_take 4 (.slice a zs.length cap) rfl (by kernel_rfl) (.inl ⟨rfl, fun w' hS => by obtain ⟨s0, s1⟩ := hS; go_simp⟩) hS ?_
  simp only [Act.put]
  refine anyS_take 5 (.pointer (some ⟨w.heap.size, 1, none⟩)) rfl (by kernel_rfl) (.inl ⟨rfl, fun w' hS => by obtain ⟨s0, s1⟩ := hS; go_simp⟩) hS ?_
  simp only [Act.put]
  refine anyS_take 6 (.int .i64 (n : Int)) rfl (by kernel_rfl) (.inl ⟨rfl, fun w' hS => by obtain ⟨s0, s1⟩ := hS; go_simp⟩) hS ?_
  simp only [Act.put]
  refine anyS_take 7 (.pointer (some ⟨w.heap.size, 1, none⟩)) rfl (by kernel_rfl) (.inl ⟨rfl, fun w' hS => by obtain ⟨s0, s1⟩ := hS; go_simp⟩) hS ?_
  simp only [Act.put]
  refine anyS_take 8 (.int .i64 (n : Int)) rfl (by kernel_rfl) (.inl ⟨rfl, fun w' hS => by obtain ⟨s0, s1⟩ := hS; go_simp⟩) hS ?_
  simp only [Act.put]
  refine anyS_take 9 (.int .i64 (M : Int)) rfl (by kernel_rfl) (.inl ⟨rfl, fun w' hS => by obtain ⟨s0, s1⟩ := hS; go_simp⟩) hS ?_
  simp only [Act.put]
  refine anyS_take 10 (.int .i64 ((n : Int) + (M : Int))) rfl (by kernel_rfl) (.inl ⟨rfl, fun w' hS => by obtain ⟨s0, s1⟩ := hS; go_simp⟩) hS ?_
  simp only [Act.put]
  refine anyS_take 11 (.slice (slA a cap n) M (cap - n)) rfl (by kernel_rfl) (.inl ⟨rfl, fun w' hS => by obtain ⟨s0, s1⟩ := hS; go_simp⟩) hS ?_
  simp only [Act.put]
  have HD3 : Hid (Below w.heap.size w w3.drew) := HB3.out.drew
  have HSK : Hid (∀ w', Below w3.heap.size w3.drew w' → w'.cell? ⟨w.heap.size, 0, none⟩ = some (.slice a zs.length cap) ∧ w'.cell? ⟨w.heap.size, 1, none⟩ = some (.int .i64 (n : Int))) := fun w' hb =>
    ⟨(hb.cell (p := ⟨w.heap.size, 0, none⟩) (by have := HZ3.out; show w.heap.size < _; omega)).trans hS.1, (hb.cell (p := ⟨w.heap.size, 1, none⟩) (by have := HZ3.out; show w.heap.size < _; omega)).trans hS.2⟩
  refine anyS_op 12 rfl rfl (by kernel_rfl) fun K hK => ?_
  go_simp
  refine (pclone_any (slA a cap n) M (cap - n) (cutL zs (n : Int) ((n + M : Nat) : Int)) w3.drew (HSL.out _ (HI.out.keepB HD3.out (Nat.le_refl _))) HCL.out (by omega)).mono ?_
  rintro e w5 ⟨b, cb, rfl, ho5, hb5⟩
  have HO5 := Lib.hid ho5
  have HB5 := Lib.hid hb5
  have hl5 : Hid (∀ x, b = some x → w3.heap.size ≤ x.block) := fun x hx => (own_lt2 ho5 x hx).1
  clear ho5 hb5
  refine hK _ _ (HSK.out _ HB5.out) ?_
  clear hK K
  rw [HCL.out]
  refine anyS_take 13 (.agg #[.int .i64 (n : Int), .slice b M cb]) rfl (by kernel_rfl) (.inl ⟨rfl, fun w' hS => by go_simp⟩) (HSK.out _ HB5.out) ?_
  simp only [Act.put]
  refine anyS_done (by kernel_rfl) ?_
  have hc5 : w5.heap[w.heap.size + 1]? = some (.chan 1 #[] false 0 0 false) := (HB5.out.block (w.heap.size + 1) HZ3.out).trans HC3.out
  have hlt5 : w.heap.size + 1 < w5.heap.size := by have := HZ3.out; have := HB5.out.size; have e : w3.drew.heap.size = w3.heap.size := rfl; omega
  have HLT5 := Lib.hid hlt5
  refine mid_send (c := w.heap.size + 1) (v := .agg #[.int .i64 (n : Int), .slice b M cb]) (z := .tuple #[]) (w₁ := w5) (by decide) rfl rfl (by simp [execOp, scase, Act.eval]) hc5 (by simp) ?_
  refine mid_ops ?_
  have h6 := heap_setChan w5 (w.heap.size + 1) 1 (#[].push (.agg #[.int .i64 (n : Int), .slice b M cb])) false (0 + 1) 0 false hlt5
  obtain ⟨w6, hw6⟩ : ∃ w6, w6 = w5.setChan (w.heap.size + 1) 1 (#[].push (.agg #[.int .i64 (n : Int), .slice b M cb])) false (0 + 1) 0 false := ⟨_, rfl⟩
  have hz6 : w6.heap.size = w5.heap.size := by rw [hw6, size_setChan]
  have HB6 : Hid (Below w.heap.size w w6) := by show Below _ _ _; rw [hw6]; exact below_setChan (HD3.out.trans (HB5.out.mono HD3.out.size)) (by omega) _ _ _ _ _ _
  have HN6 : Hid (∀ i, i ≠ w.heap.size + 1 → w6.heap[i]? = w5.heap[i]?) := fun i hi => by rw [hw6]; simp only [World.setChan]; rw [Array.getElem?_setIfInBounds_ne (by omega)]
  rw [← hw6] at h6 ⊢
  have HZ6 := Lib.hid hz6
  clear hw6 hc5 hlt5 hz6
  have H6 : Hid (w6.heap[w.heap.size + 1]? = some (.chan 1 #[.agg #[.int .i64 (n : Int), .slice b M cb]] false 1 0 false)) := h6
  clear h6
  show WpN _ _ _ _ _ _
  have hcl := fun ats ty => run_close_open (P := Try.prog) (w := w6) ats ty H6.out
  refine wpn_seq_k fun K hK => ?_
  go_wp2
  clear hcl
  refine wpn_seq_k fun K hK => ?_
  go_wp2
  refine wpn_of (wp_ret ?_)
  have hlt6 : w.heap.size + 1 < w6.heap.size := by rw [HZ6.out]; exact HLT5.out
  have hnb : ∀ x, b = some x → x.block ≠ w.heap.size + 1 := fun x hx => by have := hl5.out x hx; have := HZ3.out; omega
  refine ⟨.inr rfl, rfl, _, results_tmp rfl _ _ _, w.heap.size + 1, rfl, by omega, ?_, ?_, .inl ⟨HSB.out, ?_⟩⟩
  · show _ < (w6.setChan (w.heap.size + 1) 1 #[.agg #[.int .i64 (n : Int), .slice b M cb]] true 1 0 false).heap.size
    rw [size_setChan]; exact hlt6
  · exact below_setChan HB6.out (by omega) 1 #[.agg #[.int .i64 (n : Int), .slice b M cb]] true 1 0 false
  · rw [HSC.out]
    refine ⟨b, cb, ?_, ?_, hnb⟩
    · show _ = some (Obj.chan 1 #[.agg #[.int .i64 (n : Int), .slice b (cutL zs (n : Int) ((n + M : Nat) : Int)).length cb]] true 1 0 false)
      rw [HCL.out]
      exact heap_setChan w6 (w.heap.size + 1) 1 #[.agg #[.int .i64 (n : Int), .slice b M cb]] true 1 0 false hlt6
    · show OwnI (w6.setChan (w.heap.size + 1) 1 #[.agg #[.int .i64 (n : Int), .slice b M cb]] true 1 0 false) w.heap.size b cb (cutL zs (n : Int) ((n + M : Nat) : Int))
      refine (HO5.out.kept fun g h1 h2 => ?_).less (by have := HZ3.out; show w.heap.size ≤ w3.heap.size; omega)
      have h1 : w3.heap.size ≤ g := h1
      have hne : g ≠ w.heap.size + 1 := by have := HZ3.out; omega
      simp only [World.setChan]
      rw [Array.getElem?_setIfInBounds_ne (by omega)]
      exact HN6.out g hne
end Go.Proofs.Ytoiecicfmnpnoaa
