/- Trees of sums: building a tree. -/
import Derived.Test.YtkpfpnmokknbaaaSmP
import Derived.Laws.CopyOwn
namespace Go.Proofs.Ytkpfpnmokknbaaa
open Go.RowKit
set_option linter.unusedVariables false

attribute [local go_sem ↓] Go.wp_at_zero Go.wp_at_succ

/-- a tree and whether it is right: 'ok'; where it is not, some cells -/
def TreeRes (ok : Bool) (ts : List Int) (w : World) (e : Ending) (w' : World) : Prop :=
  ∃ ts' : List Int, ts'.length = 31 ∧ e = .returned (.tuple #[.agg (cellsT ts'), .bool ok]) ∧ Below w.heap.size w w' ∧ (ok = true → ts' = ts)

/-- the leaves laid into the zero tree -/
theorem lay_leaves {zs : List Int} (hl : zs.length = 16) : (splice (vals zT) 15 (vals zs)).toArray = cellsT (zT.take 15 ++ zs) := by
  unfold cellsT splice
  congr 1
  rw [vals_len, hl, List.drop_eq_nil_of_le (by rw [vals_len]; decide), List.append_nil]
  simp only [vals, List.map_append, List.map_take]
theorem lay_len {zs : List Int} (hl : zs.length = 16) : (zT.take 15 ++ zs).length = 31 := by rw [List.length_append, hl]; rfl
theorem lay_all {zs : List Int} (h : zs.all sB = true) : (zT.take 15 ++ zs).all sB = true := by rw [List.all_append, h]; rfl
theorem lay_gt {zs : List Int} {i : Nat} (hi : 15 ≤ i) : gt (zT.take 15 ++ zs) i = tn (gt zs) i := by
  rw [tn_leaf _ hi]
  simp only [gt, List.getD]
  rw [List.getElem?_append_right (by simp [zT]; omega)]
  simp [zT]

/-- the nodes from k on are right -/
def RightFrom (zs ts : List Int) (k : Nat) : Prop := ts.length = 31 ∧ ts.all sB = true ∧ ∀ i, k ≤ i → i < 31 → gt ts i = tn (gt zs) i
theorem right_start {zs : List Int} (h : leavesB zs = true) : RightFrom zs (zT.take 15 ++ zs) 15 :=
  ⟨lay_len (leavesB_yes h).1, lay_all (leavesB_yes h).2, fun i h1 _ => lay_gt h1⟩
theorem right_next {zs ts : List Int} {k : Nat} (h : RightFrom zs ts (k + 1)) (hk : k < 15) : RightFrom zs (ts.set k (sumI (gt ts (2 * k + 1)) (gt ts (2 * k + 2)))) k := by
  obtain ⟨h1, h2, h3⟩ := h
  refine ⟨by rw [List.length_set, h1], all_set h2 (sumI_s (all_gt h2 _ (by omega)) (all_gt h2 _ (by omega))), fun i hi hi' => ?_⟩
  rw [gt_set (by omega)]
  by_cases e : i = k
  · rw [if_pos e, e, tn_node _ hk, h3 _ (by omega) (by omega), h3 _ (by omega) (by omega)]
  · rw [if_neg e]; exact h3 i (by omega) hi'
theorem right_end {zs ts : List Int} (h : RightFrom zs ts 0) : ts = bld zs := bld_of h.1 (fun i hi => h.2.2 i (Nat.zero_le _) hi)

set_option maxHeartbeats 1000000 in
theorem treeof_any (a : Option Addr) (len cap : Nat) (zs : List Int) (w : World) (h : IntsAt w a zs) (hz : zs.length = len) (hm : len ≤ maxLen) :
    Calls Try.prog 31 #[.slice a len cap] w (TreeRes (leavesB zs) (bld zs) w) := by
  have HM := Lib.hid hm
  unfold maxLen at hm
  have HI := Lib.hid h
  have HZ := Lib.hid hz
  clear h
  cases hv : leavesB zs
  · by_cases hl : len = 16
    · have hb : zs.all sB = false := by
        cases e : zs.all sB
        · rfl
        · rw [leavesB_mk (by omega) e] at hv; cases hv
      have HB := Lib.hid hb
      clear hz hb
      subst hl
      go_enter Try.func31, Try.ntmps31
      go_wp2_with fail
      refine (allsums_any a 16 cap zs _ (HI.out.keepB ((Below.refl _ w).alloc (Nat.le_refl _) _) (Nat.le_refl _)) HZ.out HM.out).mono ?_
      rintro e w2 ⟨rfl, rfl⟩
      rw [HB.out, lit_zero]
      go_wp2_with (refine wl_storeT (by rfl) _ _ (by rfl) w.heap.size (by rfl) zT (by rfl) rfl (cellsT zT) (heap_alloc_new w _) rfl w.heap.size w ((Below.refl _ w).alloc (Nat.le_refl _) _) (Nat.le_refl _) ?_; intro w3 hw3 hb3 hz3)
      exact ret_tree rfl rfl rfl rfl zT_len hw3.out ⟨zT, rfl, rfl, hb3, fun h => by cases h⟩
    · clear hz
      have hl' : ((len : Int) != 16) = true := by simp; omega
      go_enter Try.func31, Try.ntmps31
      go_wp2_with (refine wl_storeT (by rfl) _ _ (by rfl) w.heap.size (by rfl) zT (by rfl) rfl (cellsT zT) (heap_alloc_new w _) rfl w.heap.size w ((Below.refl _ w).alloc (Nat.le_refl _) _) (Nat.le_refl _) ?_; intro w3 hw3 hb3 hz3)
      exact ret_tree rfl rfl rfl rfl zT_len hw3.out ⟨zT, rfl, rfl, hb3, fun h => by cases h⟩
  · obtain ⟨hl, hb⟩ := leavesB_yes hv
    obtain rfl : len = 16 := by omega
    have HV := Lib.hid hv
    have HB := Lib.hid hb
    have HL := Lib.hid hl
    clear hz hb hl hv
    have hB0 : Below w.heap.size w ((w.alloc (.cells (cellsT zT) 43)).alloc (.cells (cellsT zT) 43)) := ((Below.refl _ w).alloc (Nat.le_refl _) _).alloc (by simp) _
    have HB0 := Lib.hid hB0
    clear hB0
    have hsrc : ∃ b off, a = some ⟨b, off, none⟩ ∧ ∀ j v, (vals zs)[j]? = some v → ((w.alloc (.cells (cellsT zT) 43)).alloc (.cells (cellsT zT) 43)).cell? ((⟨b, off, none⟩ : Addr).add j) = some v := by
      rcases HI.out with h0 | ⟨b, off, ha, hb, hc⟩
      · have := HL.out; rw [h0] at this; simp at this
      · refine ⟨b, off, ha, fun j v hv => ?_⟩
        have hj : j < zs.length := by have := (List.getElem?_eq_some_iff.1 hv).1; rwa [vals_len] at this
        rw [vals_get hj] at hv
        rw [add_plain, HB0.out.cell (p := ⟨b, off + j, none⟩) hb, hc j hj, hv]
    obtain ⟨b, off, ha, hsrc⟩ := hsrc
    have HS := Lib.hid hsrc
    clear hsrc
    subst ha
    go_enter Try.func31, Try.ntmps31
    go_wp2_with fail
    refine (allsums_any (some ⟨b, off, none⟩) 16 cap zs _ (HI.out.keepB ((Below.refl _ w).alloc (Nat.le_refl _) _) (Nat.le_refl _)) HZ.out HM.out).mono ?_
    rintro e w2 ⟨rfl, rfl⟩
    rw [HB.out, lit_zero]
    go_wp2_with (rw [lit_zero]; refine wpList_copy_splice (by rfl) _ _ _ _ (by rfl) 3 Try.underlying23 (by kernel_rfl) _ _ _ _ _ _ (by rfl) (by rfl) (w.heap.size + 1) 15 (vals zT) 43 (heap_second w _ _) (vals zs) (by rw [vals_len, HL.out]; rfl) (fun _ => ⟨rfl, _, rfl, HS.out⟩) (by rw [vals_len, vals_len, HL.out]; decide) (vals_one zs) (w.heap.size + 1) (w.alloc (.cells (cellsT zT) 43)) ((Below.refl _ _).alloc (by simp) _) (Nat.le_refl _) ?_; intro w4 hw4 hb4)
    have hR := right_start HV.out
    rw [lay_leaves HL.out] at hw4
    have hb4' : Below w.heap.size w w4 := ((Below.refl _ w).alloc (Nat.le_refl _) _).trans (hb4.mono (Nat.le_succ _))
    have hz4 : w4.heap[w.heap.size]? = some (.cells (cellsT zT) 43 (0, 0)) := (hb4.block _ (by simp)).trans (heap_alloc_new w _)
    go_loopw [5] (fun i wr => ∃ (k : Nat) (v : Int) (ts : List Int), k ≤ 15 ∧ i = .int .i64 v ∧ v + 1 = k ∧ RightFrom zs ts k ∧ wr.heap[w.heap.size + 1]? = some (.cells (cellsT ts) 43 (0, 0)) ∧ wr.heap[w.heap.size]? = some (.cells (cellsT zT) 43 (0, 0)) ∧ Below w.heap.size w wr) (fun i _ => (intOf i + 1).toNat)
    case atStart => exact ⟨15, 14, _, Nat.le_refl _, rfl, by decide, hR, hw4.out, hz4, hb4'⟩
    case round =>
      obtain ⟨k, v, ts, hk, rfl, hvk, hr, hw5, hz5, hb5⟩ := hrel
      have HR := Lib.hid hr
      have HZ5 := Lib.hid hz5
      have HB5 := Lib.hid hb5
      have HW5 := Lib.hid hw5
      have hlt := heap_lt hw5
      clear hr hz5 hb5 hw5 hR hw4 hb4 hb4' hz4
      cases k with
      | zero =>
        have hv : v < 0 := by omega
        clear hvk hlt
        have e := right_end HR.out
        have HE := Lib.hid e
        clear e
        go_wp2_with (first | (refine wl_loadT (by rfl) _ (by rfl) (w.heap.size + 1) (by rfl) ts HR.out.1 HW5.out ?_) | (refine wl_storeT (by rfl) _ _ (by rfl) w.heap.size (by rfl) ts (by rfl) HR.out.1 (cellsT zT) HZ5.out rfl w.heap.size w HB5.out (Nat.le_refl _) ?_; intro w6 hw6 hb6 hz6))
        exact ret_tree rfl rfl rfl rfl HR.out.1 hw6.out ⟨ts, HR.out.1, rfl, hb6, fun _ => HE.out⟩
      | succ k =>
        obtain rfl : v = (k : Int) := by omega
        have hlt2 := Lib.hid hlt
        clear hvk hlt
        go_wp2_with (first | (refine wl_loadT (by rfl) _ (by rfl) (w.heap.size + 1) (by rfl) ts HR.out.1 HW5.out ?_) | fail)
        refine (below_any ts k wr HR.out.1 (by omega) HR.out.2.1).mono ?_
        rintro e w6 ⟨rfl, hb6⟩
        have hw6 : w6.heap[w.heap.size + 1]? = some (.cells (cellsT ts) 43 (0, 0)) := (hb6.block _ hlt2.out).trans HW5.out
        have hc6 := cell_T (i := k) hw6 (by rw [HR.out.1]; omega)
        have hf6 : w6.frozen? ⟨w.heap.size + 1, k, none⟩ = false := frozen_of_cells hw6 k
        have hk31 : k < 31 := by omega
        have HW6 := Lib.hid hw6
        have HB6 := Lib.hid hb6
        clear hw6 hb6
        obtain ⟨x, hx⟩ : ∃ x, x = sumI (gt ts (2 * k + 1)) (gt ts (2 * k + 2)) := ⟨_, rfl⟩
        rw [← hx]
        have HX := Lib.hid hx
        clear hx
        go_wp2
        go_roundw
        case rel =>
          refine ⟨k, (k : Int) - 1, ts.set k x, by omega, by go_num, by omega, ?_, set_T HW6.out, ?_, ?_⟩
          · rw [HX.out]; exact right_next HR.out (by omega)
          · rw [heap_set_ne _ _ _ _ _ (by omega)]
            exact (HB6.out.block _ (by have := hlt2.out; omega)).trans HZ5.out
          · exact (HB5.out.trans (HB6.out.mono (by have := HB5.out.size; omega))).setCell (by simp) _
        case measure => simp [intOf]

end Go.Proofs.Ytkpfpnmokknbaaa
