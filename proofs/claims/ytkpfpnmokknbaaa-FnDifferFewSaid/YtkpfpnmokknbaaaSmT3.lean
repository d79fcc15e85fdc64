/- Trees of sums: another leaf; SumsOf and SumsSet of the program. -/
import Derived.Test.YtkpfpnmokknbaaaSmT2
namespace Go.Proofs.Ytkpfpnmokknbaaa
open Go.RowKit
set_option linter.unusedVariables false

attribute [local go_sem ↓] Go.wp_at_zero Go.wp_at_succ

/-- all nodes but those above node n are right -/
def RightBut (vs us : List Int) (n : Nat) : Prop := us.length = 31 ∧ us.all sB = true ∧ ∀ i, i < 31 → i ∉ up n → gt us i = tn (gt vs) i
theorem rightbut_start {ts : List Int} {k : Nat} {v : Int} (h : treeB ts = true) (hk : k < 16) (hv : sB v = true) : RightBut ((ts.drop 15).set k v) (ts.set (15 + k) v) (15 + k) := by
  obtain ⟨h1, h2, h3⟩ := treeB_yes h
  have hl := (leavesB_yes h2).1
  refine ⟨by rw [List.length_set, h1], all_set (treeB_all h) hv, fun i hi hup => ?_⟩
  rw [gt_set (by omega)]
  by_cases e : i = 15 + k
  · rw [if_pos e, e, tn_leaf _ (by omega), gt_set (by omega), if_pos (by omega)]
  · rw [if_neg e, treeB_gt h hi, tn_off hl hk i hi (fun hp => by
      rcases List.mem_cons.1 hp with hp | hp
      · exact e hp
      · exact hup hp)]
theorem rightbut_next {vs us : List Int} {n m : Nat} (h : RightBut vs us n) (hn : 0 < n) (hn' : n < 31) (hm : m = (n - 1) / 2) : RightBut vs (us.set m (sumI (gt us (2 * m + 1)) (gt us (2 * m + 2)))) m := by
  obtain ⟨h1, h2, h3⟩ := h
  have hup := up_step hn hn'
  rw [← hm] at hup
  refine ⟨by rw [List.length_set, h1], all_set h2 (sumI_s (all_gt h2 _ (by omega)) (all_gt h2 _ (by omega))), fun i hi hi' => ?_⟩
  rw [gt_set (by omega)]
  by_cases e : i = m
  · rw [if_pos e, e, tn_node _ (by omega), h3 _ (by omega) (fun hx => by have := up_lt hx; omega), h3 _ (by omega) (fun hx => by have := up_lt hx; omega)]
  · rw [if_neg e]
    exact h3 i hi (fun hx => by
      rw [hup] at hx
      rcases List.mem_cons.1 hx with hx | hx
      · exact e hx
      · exact hi' hx)
theorem rightbut_end {vs us : List Int} (h : RightBut vs us 0) : us = bld vs := bld_of h.1 (fun i hi => h.2.2 i hi (by rw [up_zero]; simp))

set_option maxHeartbeats 1000000 in
theorem with_any (ts : List Int) (k : Nat) (v : Int) (w : World) (ht : treeB ts = true) (hk : k < 16) (hv : sB v = true) :
    Calls Try.prog 37 #[.agg (cellsT ts), .int .i64 k, .int .i64 v] w fun e w' => e = .returned (.agg (cellsT (setL ts k v))) ∧ Below w.heap.size w w' := by
  have HR0 : Hid (RightBut ((ts.drop 15).set k v) (ts.set (15 + k) v) (15 + k)) := rightbut_start ht hk hv
  have HL : Hid (ts.length = 31) := (treeB_yes ht).1
  have hw1 : ((w.alloc (.cells (cellsT ts) 43)).alloc (.cells (cellsT zT) 43)).heap[w.heap.size]? = some (.cells (cellsT ts) 43 (0, 0)) := heap_first w _ _
  have hc1 := cell_T (i := 15 + k) hw1 (by rw [HL.out]; omega)
  have hf1 : ((w.alloc (.cells (cellsT ts) 43)).alloc (.cells (cellsT zT) 43)).frozen? ⟨w.heap.size, 15 + k, none⟩ = false := frozen_of_cells hw1 _
  have HW1 := Lib.hid hw1
  have hk31 : 15 + k < 31 := by omega
  clear ht hv hw1
  go_enter Try.func37, Try.ntmps37
  go_wp2_with (rw [lit_zero])
  rw [cellsT_set]
  have hb1 : Below w.heap.size w ((w.alloc (.cells (cellsT (ts.set (15 + k) v)) 43)).alloc (.cells (cellsT zT) 43)) := ((Below.refl _ w).alloc (Nat.le_refl _) _).alloc (by simp) _
  go_loopw [7] (fun i wr => ∃ (n : Nat) (us : List Int), n < 31 ∧ i = .int .i64 n ∧ RightBut ((ts.drop 15).set k v) us n ∧ wr.heap[w.heap.size]? = some (.cells (cellsT us) 43 (0, 0)) ∧ wr.heap[w.heap.size + 1]? = some (.cells (cellsT zT) 43 (0, 0)) ∧ Below w.heap.size w wr) (fun i _ => (intOf i).toNat)
  case atStart => exact ⟨15 + k, _, hk31, by simp, HR0.out, heap_first w _ _, heap_second w _ _, hb1⟩
  case round =>
    obtain ⟨n, us, hn, rfl, hr, hw5, hz5, hb5⟩ := hrel
    have HR := Lib.hid hr
    have HZ5 := Lib.hid hz5
    have HB5 := Lib.hid hb5
    have HW5 := Lib.hid hw5
    have hlt := Lib.hid (heap_lt hw5)
    have hlt2 := Lib.hid (heap_lt hz5)
    clear hr hz5 hb5 hw5 hb1
    rcases Nat.eq_zero_or_pos n with h0 | h0
    · subst h0
      have HE := Lib.hid (rightbut_end HR.out)
      go_wp2_with (first | (refine wl_loadT (by rfl) _ (by rfl) w.heap.size (by rfl) us HR.out.1 HW5.out ?_) | (refine wl_storeT (by rfl) _ _ (by rfl) (w.heap.size + 1) (by rfl) us (by rfl) HR.out.1 (cellsT zT) HZ5.out rfl w.heap.size w HB5.out (Nat.le_succ _) ?_; intro w6 hw6 hb6 hz6))
      refine ret_tree1 rfl rfl rfl HR.out.1 hw6.out ⟨?_, hb6⟩
      rw [HE.out]; rfl
    · obtain ⟨m, hm⟩ : ∃ m, m = (n - 1) / 2 := ⟨_, rfl⟩
      have hq : ((n : Int) - 1).tdiv 2 = (m : Int) := by rw [Int.tdiv_eq_ediv_of_nonneg (by omega)]; omega
      have hpos : (0 : Int) < (n : Int) := by omega
      have hm15 : m < 15 := by omega
      have hmn : m < n := by omega
      have HM := Lib.hid hm
      clear hm
      go_wp2_with (first | (refine wl_loadT (by rfl) _ (by rfl) w.heap.size (by rfl) us HR.out.1 HW5.out ?_) | fail)
      refine (below_any us m wr HR.out.1 hm15 HR.out.2.1).mono ?_
      rintro e w6 ⟨rfl, hb6⟩
      have hw6 : w6.heap[w.heap.size]? = some (.cells (cellsT us) 43 (0, 0)) := (hb6.block _ hlt.out).trans HW5.out
      have hc6 := cell_T (i := m) hw6 (by rw [HR.out.1]; omega)
      have hf6 : w6.frozen? ⟨w.heap.size, m, none⟩ = false := frozen_of_cells hw6 m
      have hm31 : m < 31 := by omega
      have HW6 := Lib.hid hw6
      have HB6 := Lib.hid hb6
      clear hw6 hb6
      obtain ⟨x, hx⟩ : ∃ x, x = sumI (gt us (2 * m + 1)) (gt us (2 * m + 2)) := ⟨_, rfl⟩
      rw [← hx]
      have HX := Lib.hid hx
      clear hx
      go_wp2
      go_roundw
      case rel =>
        refine ⟨m, us.set m x, by omega, rfl, ?_, set_T HW6.out, ?_, ?_⟩
        · rw [HX.out]; exact rightbut_next HR.out h0 hn HM.out
        · rw [heap_set_ne _ _ _ _ _ (by omega)]
          exact (HB6.out.block _ hlt2.out).trans HZ5.out
        · exact (HB5.out.trans (HB6.out.mono (by have := HB5.out.size; omega))).setCell (Nat.le_refl _) _
      case measure => simp [intOf]; omega

set_option maxHeartbeats 1000000 in
theorem sumsof_any (a : Option Addr) (len cap : Nat) (zs : List Int) (w : World) (h : IntsAt w a zs) (hz : zs.length = len) (hm : len ≤ maxLen) :
    Calls Try.prog 16 #[.slice a len cap] w (NewInts (sumsL zs) w) := by
  have HI := Lib.hid h
  have HZ := Lib.hid hz
  have HM := Lib.hid hm
  clear h hz hm
  go_enter Try.func16, Try.ntmps16
  go_wp2_with fail
  refine (treeof_any a len cap zs w HI.out HZ.out HM.out).mono ?_
  rintro e w2 ⟨ts, htl, rfl, hb2, hok⟩
  have HTL := Lib.hid htl
  have HB2 := Lib.hid hb2
  have HOK := Lib.hid hok
  clear htl hb2 hok
  cases hv : leavesB zs
  · have He : Hid (sumsL zs = []) := by show _ = _; simp [sumsL, hv]
    clear hv
    go_wp2_with (refine wl_storeT (by rfl) _ _ (by rfl) w2.heap.size (by rfl) ts (by rfl) HTL.out _ (heap_alloc_new w2 _) rfl w2.heap.size w2 ((Below.refl _ w2).alloc (Nat.le_refl _) _) (Nat.le_refl _) ?_; intro w3 hw3 hb3 hz3; have HZ3 := Lib.hid hz3; clear hz3)
    go_ret
    rw [He.out]
    exact new_mono (new_of_sofar (sofar_new w3 _ rfl)) (HB2.out.trans (hb3.mono HB2.out.size))
  · have He : Hid (sumsL zs = ts) := by show _ = _; rw [HOK.out hv]; simp [sumsL, hv]
    clear hv
    go_wp2_with (first | (refine wl_storeT (by rfl) _ _ (by rfl) w2.heap.size (by rfl) ts (by rfl) HTL.out _ (heap_alloc_new w2 _) rfl w2.heap.size w2 ((Below.refl _ w2).alloc (Nat.le_refl _) _) (Nat.le_refl _) ?_; intro w3 hw3 hb3 hz3; have HZ3 := Lib.hid hz3; clear hz3) | (refine wl_loadT (by rfl) _ (by rfl) w2.heap.size (by rfl) ts HTL.out hw3.out ?_) | fail)
    refine (slice_any ts w3 HTL.out).mono ?_
    rintro e w4 ⟨g, c, rfl, ho, hb⟩
    have HN := Lib.hid (new_mono ⟨g, c, rfl, ho, hb⟩ (HB2.out.trans (hb3.mono HB2.out.size)) : NewInts ts w _ w4)
    clear ho hb
    go_wp2
    go_ret
    rw [He.out]
    exact HN.out

set_option maxHeartbeats 2000000 in
theorem sumsset_any (a : Option Addr) (len cap : Nat) (zs : List Int) (leaf v : Int) (w : World) (h : IntsAt w a zs) (hz : zs.length = len) (hm : len ≤ maxLen) (hcap : len ≤ cap) :
    Calls Try.prog 19 #[.slice a len cap, .int .i64 leaf, .int .i64 v] w (NewInts (sumsSetL zs leaf v) w) := by
  have HI := Lib.hid h
  have HZ := Lib.hid hz
  have HM := Lib.hid hm
  have HC := Lib.hid hcap
  clear h hz hm hcap
  go_enter Try.func19, Try.ntmps19
  go_wp2_with fail
  refine (treefrom_any a len cap zs w HI.out HZ.out HM.out HC.out).mono ?_
  rintro e w2 ⟨ts, htl, rfl, hb2, hok⟩
  have HTL := Lib.hid htl
  have HB2 := Lib.hid hb2
  have HOK := Lib.hid hok
  clear htl hb2 hok
  cases hv : treeB zs
  · have He : Hid (sumsSetL zs leaf v = []) := by show _ = _; simp [sumsSetL, hv]
    clear hv
    go_wp2_with (refine wl_storeT (by rfl) _ _ (by rfl) w2.heap.size (by rfl) ts (by rfl) HTL.out _ (heap_alloc_new w2 _) rfl w2.heap.size w2 ((Below.refl _ w2).alloc (Nat.le_refl _) _) (Nat.le_refl _) ?_; intro w3 hw3 hb3 hz3; have HZ3 := Lib.hid hz3; clear hz3)
    go_ret
    rw [He.out]
    exact new_mono (new_of_sofar (sofar_new w3 _ rfl)) (HB2.out.trans (hb3.mono HB2.out.size))
  · have HV := Lib.hid hv
    have HTS : Hid (ts = zs) := HOK.out hv
    clear hv
    rcases Int.lt_or_le leaf 0 with h0 | h0
    · have He : Hid (sumsSetL zs leaf v = []) := by
        show _ = _
        have : leafB leaf = false := by simp [leafB]; omega
        simp [sumsSetL, this]
      go_wp2_with (refine wl_storeT (by rfl) _ _ (by rfl) w2.heap.size (by rfl) ts (by rfl) HTL.out _ (heap_alloc_new w2 _) rfl w2.heap.size w2 ((Below.refl _ w2).alloc (Nat.le_refl _) _) (Nat.le_refl _) ?_; intro w3 hw3 hb3 hz3; have HZ3 := Lib.hid hz3; clear hz3)
      go_ret
      rw [He.out]
      exact new_mono (new_of_sofar (sofar_new w3 _ rfl)) (HB2.out.trans (hb3.mono HB2.out.size))
    · rcases Int.lt_or_le leaf 16 with h1 | h1
      · cases hs : sB v
        · have He : Hid (sumsSetL zs leaf v = []) := by show _ = _; simp [sumsSetL, hs]
          have HS := Lib.hid hs
          clear hs
          go_wp2_with (first | (refine wl_storeT (by rfl) _ _ (by rfl) w2.heap.size (by rfl) ts (by rfl) HTL.out _ (heap_alloc_new w2 _) rfl w2.heap.size w2 ((Below.refl _ w2).alloc (Nat.le_refl _) _) (Nat.le_refl _) ?_; intro w3 hw3 hb3 hz3; have HZ3 := Lib.hid hz3; clear hz3) | fail)
          refine (isum_any v w3).mono ?_
          rintro e w4 ⟨rfl, rfl⟩
          rw [HS.out]
          go_wp2
          go_ret
          rw [He.out]
          exact new_mono (new_of_sofar (sofar_new _ _ rfl)) (HB2.out.trans (hb3.mono HB2.out.size))
        · obtain ⟨k, rfl⟩ := Int.eq_ofNat_of_zero_le h0
          have He : Hid (sumsSetL zs k v = setL zs k v) := by
            show _ = _
            have : leafB k = true := by simp [leafB]; omega
            simp [sumsSetL, this, hs, HV.out]
          have HS := Lib.hid hs
          clear hs
          go_wp2_with (first | (refine wl_storeT (by rfl) _ _ (by rfl) w2.heap.size (by rfl) ts (by rfl) HTL.out _ (heap_alloc_new w2 _) rfl w2.heap.size w2 ((Below.refl _ w2).alloc (Nat.le_refl _) _) (Nat.le_refl _) ?_; intro w3 hw3 hb3 hz3; have HZ3 := Lib.hid hz3; clear hz3) | fail)
          refine (isum_any v w3).mono ?_
          rintro e w4 ⟨rfl, rfl⟩
          rw [HS.out]
          go_wp2_with (first | (refine wl_loadT (by rfl) _ (by rfl) w2.heap.size (by rfl) ts HTL.out hw3.out ?_) | fail)
          refine (with_any ts k v _ (by rw [HTS.out]; exact HV.out) (by omega) HS.out).mono ?_
          rintro e w5 ⟨rfl, hb5⟩
          go_wp2_with fail
          refine (slice_any (setL ts k v) w5 (bld_len _)).mono ?_
          rintro e w6 ⟨g, c, rfl, ho, hb⟩
          have HN := Lib.hid (new_mono ⟨g, c, rfl, ho, hb⟩ ((HB2.out.trans (hb3.mono HB2.out.size)).trans (hb5.mono (by have := HB2.out.size; have := hb3.size; omega))) : NewInts (setL ts k v) w _ w6)
          clear ho hb
          go_wp2
          go_ret
          rw [He.out, ← HTS.out]
          exact HN.out
      · have He : Hid (sumsSetL zs leaf v = []) := by
          show _ = _
          have : leafB leaf = false := by simp [leafB]; omega
          simp [sumsSetL, this]
        go_wp2_with (refine wl_storeT (by rfl) _ _ (by rfl) w2.heap.size (by rfl) ts (by rfl) HTL.out _ (heap_alloc_new w2 _) rfl w2.heap.size w2 ((Below.refl _ w2).alloc (Nat.le_refl _) _) (Nat.le_refl _) ?_; intro w3 hw3 hb3 hz3; have HZ3 := Lib.hid hz3; clear hz3)
        go_ret
        rw [He.out]
        exact new_mono (new_of_sofar (sofar_new w3 _ rfl)) (HB2.out.trans (hb3.mono HB2.out.size))

end Go.Proofs.Ytkpfpnmokknbaaa
