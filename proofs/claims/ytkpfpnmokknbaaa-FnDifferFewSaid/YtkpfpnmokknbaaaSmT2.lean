/- Trees of sums: a tree out of its sums, a tree with another leaf, a tree as a slice. -/
import Derived.Test.YtkpfpnmokknbaaaSmT
import Derived.Deep.RegionHeld3
import Derived.BigQuiet
import Derived.Lib.SliceRun
namespace Go.Proofs.Ytkpfpnmokknbaaa
open Go.RowKit
set_option linter.unusedVariables false

attribute [local go_sem ↓] Go.wp_at_zero Go.wp_at_succ

theorem heap_T_ints {w : World} {g : Nat} {ts : List Int} {t : TypeId} (hg : w.heap[g]? = some (.cells (cellsT ts) t (0, 0))) : IntsAt w (some ⟨g, 0, none⟩) ts :=
  .inr ⟨g, 0, rfl, heap_lt hg, fun i hi => by rw [Nat.zero_add, cell_of_cells hg]; exact cellsT_get hi⟩

set_option maxHeartbeats 1000000 in
theorem clone_any (g cap : Nat) (zs : List Int) (w : World) (h : IntsAt w (some ⟨g, 0, none⟩) zs) (hz : zs.length = 31) :
    Calls Try.prog 45 #[.slice (some ⟨g, 0, none⟩) 31 cap] w (NewInts zs w) := by
  have hsrc : ∀ j v, (vals zs)[j]? = some v → (w.alloc (.cells #[] 3)).cell? ((⟨g, 0, none⟩ : Addr).add j) = some v := by
    intro j v hv
    have hj : j < zs.length := by have := (List.getElem?_eq_some_iff.1 hv).1; rwa [vals_len] at this
    rcases h with h0 | ⟨b, off, ha, hb, hc⟩
    · rw [h0] at hz; simp at hz
    · injection ha with ha; injection ha with ha ho; subst ha ho
      rw [vals_get hj] at hv
      have hB : Below w.heap.size w (w.alloc (.cells #[] 3)) := (Below.refl _ _).alloc (Nat.le_refl _) _
      rw [add_plain, hB.cell (p := ⟨g, 0 + j, none⟩) hb, hc j hj, hv]
  have HS := Lib.hid hsrc
  have HZ := Lib.hid hz
  clear hsrc h hz
  have hq := fun w => Lib.run_eql_slice_nil (P := Try.prog) w 23 3 (some ⟨g, 0, none⟩) 31 cap 0 0 Try.underlying23
  simp only [Option.isNone_some] at hq
  go_enter Try.func45, Try.ntmps45
  go_wp2_with (at_builtin; refine wl_app _ (by rfl) _ _ (by rfl) w.heap.size w.heap.size 0 0 [] (by rfl) (own_empty (heap_alloc_new w _) (Nat.le_refl _)) ⟨g, 0, none⟩ 31 cap (vals zs) (by rfl) (by rw [vals_len, HZ.out]) HS.out (vals_one zs) 31 (vals zs) (by omega) (by simp) (by omega) (by simp) ?_; intro g' c' w' hown hgr hat; have HO := Lib.hid hown; have hB : Below w.heap.size w w' := ((Below.refl _ _).alloc (Nat.le_refl _) _ : Below w.heap.size w (w.alloc _)).grown hgr (by simp) (fun k hk => by injection hk with hk; omega); clear hown hgr hat)
  go_ret
  exact ⟨g', c', by rw [HZ.out]; rfl, by unfold OwnI; rw [HZ.out]; exact HO.out, hB⟩

set_option maxHeartbeats 1000000 in
theorem slice_any (ts : List Int) (w : World) (hl : ts.length = 31) :
    Calls Try.prog 32 #[.agg (cellsT ts)] w (NewInts ts w) := by
  have HL := Lib.hid hl
  clear hl
  go_enter Try.func32, Try.ntmps32
  go_wp2_with fail
  refine (clone_any w.heap.size 31 ts _ (heap_T_ints (heap_alloc_new w _)) HL.out).mono ?_
  rintro e w2 ⟨g, c, rfl, ho, hb⟩
  have HO := Lib.hid (new_mono ⟨g, c, rfl, ho, hb⟩ ((Below.refl _ w).alloc (Nat.le_refl _) _) : NewInts ts w _ w2)
  clear ho hb
  go_wp2
  go_ret
  exact HO.out

theorem bcase (b : Bool) : b = true ∨ b = false := by cases b <;> simp
set_option maxHeartbeats 1000000 in
theorem equal_any (a1 a2 : Option Addr) (l1 l2 c1 c2 : Nat) (xs ys : List Int) (w : World) (h1 : IntsAt w a1 xs) (h2 : IntsAt w a2 ys) (hx : xs.length = l1) (hy : ys.length = l2) (hl : l1 = l2) (hm : l1 ≤ 1048576) :
    Calls Try.prog 47 #[.slice a1 l1 c1, .slice a2 l2 c2] w fun e w' => e = .returned (.bool (decide (xs = ys))) ∧ Same w w' := by
  subst hl
  have H1 := Lib.hid h1
  have H2 := Lib.hid h2
  have HX := Lib.hid hx
  have HY := Lib.hid hy
  clear h1 h2 hx hy
  have hne : ((l1 : Int) != (l1 : Int)) = false := by simp
  go_enter Try.func47, Try.ntmps47
  go_wp2
  go_loopw [13] (fun i wr => ∃ k : Nat, k ≤ l1 ∧ i = .int .i64 k ∧ Same w wr ∧ ∀ j, j < k → gt xs j = gt ys j) (fun i _ => l1 - (intOf i).toNat)
  case atStart => exact ⟨0, by omega, rfl, Same.refl _, fun j hj => absurd hj (by omega)⟩
  case round =>
    obtain ⟨k, hk, rfl, hsame, hall⟩ := hrel
    have HA := Lib.hid hall
    clear hall
    by_cases hlt : k < l1
    · have h' : ∃ b off, a1 = some ⟨b, off, none⟩ ∧ wr.cell? ⟨b, off + k, none⟩ = some (.int .i64 (gt xs k)) := by
        rcases H1.out with h0 | ⟨b, off, ha, hb, hc⟩
        · have := HX.out; rw [h0] at this; simp at this; omega
        · exact ⟨b, off, ha, (hsame.cell _).trans (hc k (by rw [HX.out]; exact hlt))⟩
      have h'' : ∃ b off, a2 = some ⟨b, off, none⟩ ∧ wr.cell? ⟨b, off + k, none⟩ = some (.int .i64 (gt ys k)) := by
        rcases H2.out with h0 | ⟨b, off, ha, hb, hc⟩
        · have := HY.out; rw [h0] at this; simp at this; omega
        · exact ⟨b, off, ha, (hsame.cell _).trans (hc k (by rw [HY.out]; exact hlt))⟩
      obtain ⟨b, off, ha, hc⟩ := h'
      obtain ⟨b2, off2, ha2, hc2⟩ := h''
      subst ha ha2
      have hlt' : (k : Int) < (l1 : Int) := by omega
      have h0' : (0 : Int) ≤ (k : Int) := by omega
      obtain ⟨x, hx⟩ : ∃ x, x = gt xs k := ⟨_, rfl⟩
      obtain ⟨y, hy⟩ : ∃ y, y = gt ys k := ⟨_, rfl⟩
      rw [← hx] at hc
      rw [← hy] at hc2
      have HEX := Lib.hid hx
      have HEY := Lib.hid hy
      clear hx hy
      rcases bcase (x != y) with hv | hv
      · have hne' : Hid (x ≠ y) := by show x ≠ y; simpa using hv
        go_wp2
        go_quiet (fail)
        go_wp2
        go_ret
        refine ⟨ret_bool ?_, hsame.drewN _⟩
        symm
        rw [decide_eq_false_iff_not]
        intro e
        apply hne'.out
        rw [HEX.out, HEY.out, e]
      · have heq : Hid (x = y) := by show x = y; simpa using hv
        go_wp2
        go_quiet (fail)
        go_wp2
        go_roundw
        case rel =>
          refine ⟨k + 1, by omega, by go_num, hsame.drewN _, fun j hj => ?_⟩
          rcases Nat.lt_or_ge j k with e | e
          · exact HA.out j e
          · have : j = k := by omega
            subst this; rw [← HEX.out, ← HEY.out, heq.out]
        case measure => simp [intOf]; omega
    · have hkl : k = l1 := by omega
      have HK := Lib.hid hkl
      clear hkl
      go_wp2
      go_ret
      refine ⟨ret_bool ?_, hsame⟩
      symm
      rw [decide_eq_true_eq]
      exact list_gt (by rw [HX.out, HY.out]) (fun j hj => HA.out j (by have := HK.out; have := HX.out; omega))

theorem below_setCells {B g : Nat} {w0 : World} : ∀ {w : World}, Below B w0 w → B ≤ g → ∀ (vs : List Value) (o : Nat), Below B w0 (w.setCells g o vs)
  | w, h, hB, [], o => h
  | w, h, hB, v :: r, o => below_setCells (h.setCell (by exact hB) v) hB r (o + 1)
/-- the part behind a place -/
theorem IntsAt.drop {w : World} {b off : Nat} {zs : List Int} (h : IntsAt w (some ⟨b, off, none⟩) zs) (k : Nat) : IntsAt w (some ⟨b, off + k, none⟩) (zs.drop k) := by
  rcases h with h0 | ⟨b', off', ha, hb, hc⟩
  · left; rw [h0]; simp
  · injection ha with ha; injection ha with ha ho; subst ha ho
    refine .inr ⟨b, off + k, rfl, hb, fun i hi => ?_⟩
    rw [List.length_drop] at hi
    rw [gt_drop, show off + k + i = off + (k + i) by omega]
    exact hc _ (by omega)

set_option maxHeartbeats 1000000 in
theorem treefrom_any (a : Option Addr) (len cap : Nat) (zs : List Int) (w : World) (h : IntsAt w a zs) (hz : zs.length = len) (hm : len ≤ maxLen) (hcap : len ≤ cap) :
    Calls Try.prog 35 #[.slice a len cap] w (TreeRes (treeB zs) zs w) := by
  have HM := Lib.hid hm
  unfold maxLen at hm
  have HI := Lib.hid h
  have HZ := Lib.hid hz
  clear h
  by_cases hl : len = 31
  · subst hl
    have hsrc : ∃ b off, a = some ⟨b, off, none⟩ := by
      rcases HI.out with h0 | ⟨b, off, ha, hb, hc⟩
      · have := HZ.out; rw [h0] at this; simp at this
      · exact ⟨b, off, ha⟩
    obtain ⟨b, off, rfl⟩ := hsrc
    have hc15 : ¬ cap = 15 := by omega
    have hc15' : (15 : Int) ≤ (cap : Int) := by omega
    have HI15 : Hid (IntsAt w (some ⟨b, off + 15, none⟩) (zs.drop 15)) := HI.out.drop 15
    have HL15 : Hid ((zs.drop 15).length = 16) := by show _ = _; rw [List.length_drop, HZ.out]
    clear hz hcap
    go_enter Try.func35, Try.ntmps35
    go_wp2_with fail
    rw [lit_zero]
    refine (treeof_any (some ⟨b, off + 15, none⟩) 16 (cap - 15) (zs.drop 15) _ (HI15.out.keepB ((Below.refl _ w).alloc (Nat.le_refl _) _) (Nat.le_refl _)) HL15.out (by unfold maxLen; omega)).mono ?_
    rintro e w2 ⟨ts, htl, rfl, hb2, hok⟩
    have HTL := Lib.hid htl
    have HB2 : Hid (Below w.heap.size w w2) := ((Below.refl _ w).alloc (Nat.le_refl _) _).trans (hb2.mono (by simp))
    have hz2 : Hid (w2.heap[w.heap.size]? = some (.cells (cellsT zT) 43 (0, 0))) := (hb2.block _ (by simp)).trans (heap_alloc_new w _)
    have HOK := Lib.hid hok
    have hsz : w.heap.size < w2.heap.size := by have := hb2.size; simp at this; omega
    clear htl hb2 hok
    go_wp2_with (refine wl_storeT (by rfl) _ _ (by rfl) w2.heap.size (by rfl) ts (by rfl) HTL.out _ (heap_alloc_new w2 _) rfl w2.heap.size w2 ((Below.refl _ w2).alloc (Nat.le_refl _) _) (Nat.le_refl _) ?_; intro w3 hw3 hb3 hz3)
    have hN3 : Hid (w3.heap[w.heap.size]? = some (.cells (cellsT zT) 43 (0, 0))) := (hb3.block _ hsz).trans hz2.out
    have HB3 : Hid (Below w.heap.size w w3) := HB2.out.trans (hb3.mono (by omega))
    clear hb3 hz2
    have HHSZ := Lib.hid hsz
    have HHZ3 := Lib.hid hz3
    clear hsz hz3
    have hu := Try.underlying43
    have hi : (Try.prog.info? 43).map (·.size) = some (vals ts).length := by rw [treeSize, vals_len, HTL.out]
    have hln : (vals ts).length = 31 := by rw [vals_len, HTL.out]
    have hone := vals_one ts
    have hr3 : w3.rangeAt w2.heap.size 0 (vals ts) := by
      intro j v hj
      have hjl : j < ts.length := by have := (List.getElem?_eq_some_iff.1 hj).1; rwa [vals_len] at this
      rw [Nat.zero_add, cell_T hw3.out hjl, ← vals_get hjl, hj]
    have ht3 : w3.there w.heap.size 0 31 := by
      intro j hj
      rw [Nat.zero_add]
      exact ⟨by rw [cell_T hN3.out (by rw [zT_len]; omega)]; rfl, frozen_of_cells hN3.out _⟩
    have HSAME : Hid (∀ W W' : World, Same W W' → (W.rangeAt w2.heap.size 0 (vals ts) ∧ W.there w.heap.size 0 31) → (W'.rangeAt w2.heap.size 0 (vals ts) ∧ W'.there w.heap.size 0 31)) := by
      rintro W W' hs ⟨h1, h2⟩
      exact ⟨fun j v hj => (hs.cell _).trans (h1 j v hj), fun j hj => ⟨by rw [hs.cell]; exact (h2 j hj).1, by rw [hs.frozen]; exact (h2 j hj).2⟩⟩
    have HKEEP : Hid (∀ W : World, (W.rangeAt w2.heap.size 0 (vals ts) ∧ W.there w.heap.size 0 31) → ((W.setCells w.heap.size 0 (vals ts)).rangeAt w2.heap.size 0 (vals ts) ∧ (W.setCells w.heap.size 0 (vals ts)).there w.heap.size 0 31)) := fun W h =>
      ⟨World.rangeAt_setCells_apart h.1 _ _ _ (.inl (by have := HHSZ.out; omega)), World.there_setCells h.2 _ _ _⟩
    have HFIN : Hid (∀ W : World, Same w3 W → (W.setCells w.heap.size 0 (vals ts)).rangeAt w.heap.size 0 (vals ts) ∧ Below w.heap.size w (W.setCells w.heap.size 0 (vals ts))) := fun W hs =>
      ⟨World.rangeAt_setCells_same _ _ _ _ (by rw [vals_len, HTL.out]; exact fun j hj => by rw [hs.cell, hs.frozen]; exact ht3 j hj), below_setCells (HB3.out.trans (hs.below _)) (Nat.le_refl _) _ _⟩
    cases hv : leavesB (zs.drop 15)
    · have hf : treeB zs = false := by
        cases e : treeB zs
        · rfl
        · rw [(treeB_yes e).2.1] at hv; cases hv
      have HF := Lib.hid hf
      clear hf hv
      refine wp_region_held_drew (S := (fun w' : World => w'.rangeAt w2.heap.size 0 (vals ts) ∧ w'.there w.heap.size 0 31)) (by kernel_rfl) ⟨by exact hr3, by exact ht3⟩ (fun hH => ?_)
      refine wpAnyH_take (i := 0) (oi := ?o0) (v := .agg (vals ts).toArray) ?ho0 (by kernel_rfl) (by kernel_rfl) (by kernel_rfl) ?hq0 ?hy0 hH ?rest0
      case ho0 => simp only [List.getElem?_toArray, List.getElem?_cons_zero]; rfl
      case hq0 => exact fun _ _ _ h => h
      case hy0 => exact yieldsIf_load_mid (by rfl) _ _ rfl _ _ rfl _ _ (fun w h => h.1) hu rfl hi
      simp only [Act.put, List.setIfInBounds_toArray, List.set_cons_zero, List.set_cons_succ]
      refine wpAnyH_take (i := 1) (oi := ?o1) (v := .bool false) ?ho1 (by kernel_rfl) (by kernel_rfl) (by kernel_rfl) ?hq1 ?hy1 hH ?rest1
      case ho1 => simp only [List.getElem?_toArray, List.getElem?_cons_succ, List.getElem?_cons_zero]; rfl
      case hq1 => exact fun _ _ _ h => h
      case hy1 => exact Or.inl ⟨by rfl, fun w h => by go_simp⟩
      simp only [Act.put, List.setIfInBounds_toArray, List.set_cons_zero, List.set_cons_succ]
      refine wpAnyH_take (i := 2) (oi := ?o2) (v := .bool false) ?ho2 (by kernel_rfl) (by kernel_rfl) (by kernel_rfl) ?hq2 ?hy2 hH ?rest2
      case ho2 => simp only [List.getElem?_toArray, List.getElem?_cons_succ, List.getElem?_cons_zero]; rfl
      case hq2 => exact fun _ _ _ h => h
      case hy2 => exact Or.inl ⟨by rfl, fun w h => by go_simp⟩
      simp only [Act.put, List.setIfInBounds_toArray, List.set_cons_zero, List.set_cons_succ]
      refine wpAnyH_take (i := 3) (oi := ?o3) (v := undef) ?ho3 (by kernel_rfl) (by kernel_rfl) (by kernel_rfl) ?hq3 ?hy3 hH ?rest3
      case ho3 => simp only [List.getElem?_toArray, List.getElem?_cons_succ, List.getElem?_cons_zero]; rfl
      case hq3 => exact fun _ _ _ h => h
      case hy3 => exact Or.inr ⟨by rfl, rfl⟩
      simp only [Act.put, List.setIfInBounds_toArray, List.set_cons_zero, List.set_cons_succ]
      refine wpAnyH_take (i := 4) (oi := ?o4) (v := undef) ?ho4 (by kernel_rfl) (by kernel_rfl) (by kernel_rfl) ?hq4 ?hy4 hH ?rest4
      case ho4 => simp only [List.getElem?_toArray, List.getElem?_cons_succ, List.getElem?_cons_zero]; rfl
      case hq4 => exact fun _ _ _ h => h
      case hy4 => exact Or.inr ⟨by rfl, rfl⟩
      simp only [Act.put, List.setIfInBounds_toArray, List.set_cons_zero, List.set_cons_succ]
      refine wpAnyH_take (i := 5) (oi := ?o5) (v := undef) ?ho5 (by kernel_rfl) (by kernel_rfl) (by kernel_rfl) ?hq5 ?hy5 hH ?rest5
      case ho5 => simp only [List.getElem?_toArray, List.getElem?_cons_succ, List.getElem?_cons_zero]; rfl
      case hq5 => exact fun _ _ _ h => h
      case hy5 => exact Or.inr ⟨by rfl, rfl⟩
      simp only [Act.put, List.setIfInBounds_toArray, List.set_cons_zero, List.set_cons_succ]
      refine wpAnyH_take (i := 6) (oi := ?o6) (v := .bool false) ?ho6 (by kernel_rfl) (by kernel_rfl) (by kernel_rfl) ?hq6 ?hy6 hH ?rest6
      case ho6 => simp only [List.getElem?_toArray, List.getElem?_cons_succ, List.getElem?_cons_zero]; rfl
      case hq6 => exact fun _ _ _ h => h
      case hy6 => exact Or.inl ⟨by rfl, fun w h => by go_simp⟩
      simp only [Act.put, List.setIfInBounds_toArray, List.set_cons_zero, List.set_cons_succ]
      refine wpAnyH_ready (rs := [7]) (by kernel_rfl) (by simp) ?_
      refine AllReadyH.cons (o := ?o7) ?ho7 (fun K hK => ?_) AllReadyH.nil
      case ho7 => simp only [List.getElem?_toArray, List.getElem?_cons_succ, List.getElem?_cons_zero]; rfl
      rw [if_pos (by rfl)]
      refine wp_store_mid _ _ _ rfl _ _ (vals ts).toArray rfl rfl ?_ ?_ (all_oneCell_toArray hone) ?_
      · rw [show (vals ts).toArray.size = 31 from hln]; exact hH.2
      · exact hi
      refine hK.out _ _ (HKEEP.out _ hH) (fun hH => ?_)
      clear hK K
      simp only [Act.put]
      refine wpAnyH_take (i := 8) (oi := ?o8) (v := .bool false) ?ho8 (by kernel_rfl) (by kernel_rfl) (by kernel_rfl) ?hq8 ?hy8 hH ?rest8
      case ho8 => simp only [List.getElem?_toArray, List.getElem?_cons_succ, List.getElem?_cons_zero]; rfl
      case hq8 => exact fun _ _ _ h => h
      case hy8 => exact Or.inl ⟨by rfl, fun w h => by go_simp⟩
      simp only [Act.put, List.setIfInBounds_toArray, List.set_cons_zero, List.set_cons_succ]
      refine wpAnyH_done (by kernel_rfl) ?_ _
      go_wp2
      have hq := HFIN.out w3.drew ⟨1, rfl⟩
      exact ret_treeR rfl rfl rfl rfl HTL.out hq.1 ⟨ts, HTL.out, by rw [HF.out]; rfl, hq.2, fun h => by rw [HF.out] at h; cases h⟩
    · have HE : Hid (ts = bld (zs.drop 15)) := HOK.out hv
      have hf : treeB zs = decide (ts = zs) := by
        rw [HE.out]
        unfold treeB
        rw [HZ.out, (leavesB_yes hv).2]
        simp
      have HF := Lib.hid hf
      have HV := Lib.hid hv
      clear hf hv
      have HEQ : Hid (∀ (c1 c2 : Nat) (W : World), Same w3 W → Calls Try.prog 47 #[.slice (some ⟨w2.heap.size, 0, none⟩) 31 c1, .slice (some ⟨b, off, none⟩) 31 c2] W fun e w' => e = .returned (.bool (decide (ts = zs))) ∧ Same W w') := fun c1 c2 W hs =>
        equal_any _ _ 31 31 _ _ ts zs _ ((heap_T_ints hw3.out).same hs) ((HI.out.keepB HB3.out (Nat.le_refl _)).same hs) HTL.out HZ.out rfl (by omega)
      go_region_held3 (fun w' => w'.rangeAt w2.heap.size 0 (vals ts) ∧ w'.there w.heap.size 0 31) (first | (exact ⟨by assumption, by assumption⟩) | (exact HSAME.out _ _ (by assumption) (by assumption)) | (exact HKEEP.out _ (by assumption)) | go_keep_ranges) (first | (go_at_call 47; refine (HEQ.out _ _ _ ⟨_, rfl⟩).mono ?_; rintro e w5 ⟨rfl, hsm⟩))
      go_wp2
      have hq := HFIN.out w5 (Same.trans (⟨1, rfl⟩ : Same w3 w3.drew) hsm)
      exact ret_treeR rfl rfl rfl rfl HTL.out hq.1 ⟨ts, HTL.out, by rw [HF.out]; rfl, hq.2, fun h => by rw [HF.out] at h; simpa using h⟩
  · have hl' : ((len : Int) != 31) = true := by simp; omega
    have hf : treeB zs = false := by
      cases e : treeB zs
      · rfl
      · have := (treeB_yes e).1; omega
    rw [hf]
    clear hz hl hf
    go_enter Try.func35, Try.ntmps35
    go_wp2_with (refine wl_storeT (by rfl) _ _ (by rfl) w.heap.size (by rfl) zT (by rfl) rfl (cellsT zT) (heap_alloc_new w _) rfl w.heap.size w ((Below.refl _ w).alloc (Nat.le_refl _) _) (Nat.le_refl _) ?_; intro w3 hw3 hb3 hz3)
    exact ret_tree rfl rfl rfl rfl zT_len hw3.out ⟨zT, rfl, rfl, hb3, fun h => by cases h⟩

end Go.Proofs.Ytkpfpnmokknbaaa
