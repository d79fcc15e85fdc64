/- Trees of sums: the program's small functions. -/
import Derived.Test.YtkpfpnmokknbaaaSmMath
import Derived.Deep.MidRow
import Derived.Deep.QuietTactic
import Derived.Laws.ResultCell
import Derived.Laws.CopyOwn
import Derived.StillTailTactics
namespace Go.Proofs.Ytkpfpnmokknbaaa
open Go.RowKit
set_option linter.unusedVariables false

attribute [local go_sem ↓] Go.wp_at_zero Go.wp_at_succ

set_option maxHeartbeats 1000000 in
theorem isum_any (n : Int) (w : World) :
    Calls Try.prog 36 #[.int .i64 n] w fun e w' => e = .returned (.bool (sB n)) ∧ w' = w := by
  go_enter Try.func36, Try.ntmps36
  go_wp2
  all_goals
    go_ret
    exact ⟨ret_bool (by rw [Bool.eq_iff_iff]; simp [sB]; omega), rfl⟩

/-- the cells of a tree -/
def cellsT (ts : List Int) : Array Value := (vals ts).toArray
theorem cellsT_get {ts : List Int} {i : Nat} (h : i < ts.length) : (cellsT ts)[i]? = some (.int .i64 (gt ts i)) := by
  simp only [cellsT, List.getElem?_toArray]; exact vals_get h
theorem cellsT_size (ts : List Int) : (cellsT ts).size = ts.length := by simp [cellsT, vals]

theorem cellsT_one (ts : List Int) : (cellsT ts).all (·.oneCell') = true := Array.all_eq_true_iff_forall_mem.2 (fun v hv => vals_one ts v (by simpa [cellsT] using hv))
theorem treeSize : (Try.prog.info? 43).map (·.size) = some 31 := by kernel_rfl

/-- a whole tree is read -/
theorem wl_loadT {ops : Array Oper} {rest : List Oper} {o : Oper} {a : Act} {w : World} {Q : Exit → Act → World → Prop} (hgd : o.guard = none) (x : Operand) (ho : o.op = .load 43 x)
    (g : Nat) (hx : a.eval x = .pointer (some ⟨g, 0, none⟩)) (ts : List Int) (hl : ts.length = 31) (hg : w.heap[g]? = some (.cells (cellsT ts) 43 (0, 0)))
    (h : wpList Try.prog ops Q rest (a.put o.dst (.agg (cellsT ts))) w) : wpList Try.prog ops Q (o :: rest) a w := by
  exact wpList_load_row hgd 43 x ho g hx 43 (cellsT ts) (0, 0) _ hg Try.underlying43 rfl (by rw [treeSize, cellsT_size, hl]) h
/-- a whole tree is written -/
theorem wl_storeT {ops : Array Oper} {rest : List Oper} {o : Oper} {a : Act} {w : World} {Q : Exit → Act → World → Prop} (hgd : o.guard = none) (x y : Operand) (ho : o.op = .store 43 x y)
    (g : Nat) (hx : a.eval x = .pointer (some ⟨g, 0, none⟩)) (ts : List Int) (hy : a.eval y = .agg (cellsT ts)) (hl : ts.length = 31) (cur : Array Value) (hg : w.heap[g]? = some (.cells cur 43 (0, 0))) (hc : cur.size = 31)
    (B : Nat) (w0 : World) (hb : Below B w0 w) (hB : B ≤ g)
    (h : ∀ w', Hid (w'.heap[g]? = some (.cells (cellsT ts) 43 (0, 0))) → Below B w0 w' → w'.heap.size = w.heap.size → wpList Try.prog ops Q rest (a.put o.dst undef) w') : wpList Try.prog ops Q (o :: rest) a w := by
  refine wpList_plain hgd fun K hK => ?_
  have hrun := run_storeVar_row (P := Try.prog) w g 43 43 cur (cellsT ts) hg (by rw [treeSize, cellsT_size, hl]) (by rw [cellsT_size, hl, hc]) (cellsT_one ts)
  unfold Oper.wp execOp
  simp only [ho, hx, hy, Instr.storeAt, Instr.sureAddr, Sem.run_bind, Sem.run_pure, Result.andThen_ok, hrun]
  exact hK _ _ (h _ (setRow_heap w g _ _ _ _ hg) (hb.trans ⟨rfl, rfl, rfl, by simp [World.setRow], fun k hk => setRow_other w g k _ (by omega)⟩) (by simp [World.setRow]))

/-- a whole tree is written, at the operation -/
theorem wp_storeT {o : Oper} {a : Act} {w : World} {K : Act → World → Prop} {Q : Exit → Act → World → Prop} (x y : Operand) (ho : o.op = .store 43 x y)
    (g : Nat) (hx : a.eval x = .pointer (some ⟨g, 0, none⟩)) (ts : List Int) (hy : a.eval y = .agg (cellsT ts)) (hl : ts.length = 31) (cur : Array Value) (hg : w.heap[g]? = some (.cells cur 43 (0, 0))) (hc : cur.size = 31)
    (B : Nat) (w0 : World) (hb : Below B w0 w) (hB : B ≤ g)
    (h : ∀ w', Hid (w'.heap[g]? = some (.cells (cellsT ts) 43 (0, 0))) → Below B w0 w' → w'.heap.size = w.heap.size → K (a.put o.dst undef) w') : o.wp Try.prog a w K Q := by
  have hrun := run_storeVar_row (P := Try.prog) w g 43 43 cur (cellsT ts) hg (by rw [treeSize, cellsT_size, hl]) (by rw [cellsT_size, hl, hc]) (cellsT_one ts)
  unfold Oper.wp execOp
  simp only [ho, hx, hy, Instr.storeAt, Instr.sureAddr, Sem.run_bind, Sem.run_pure, Result.andThen_ok, hrun]
  exact h _ (setRow_heap w g _ _ _ _ hg) (hb.trans ⟨rfl, rfl, rfl, by simp [World.setRow], fun k hk => setRow_other w g k _ (by omega)⟩) (by simp [World.setRow])
theorem wp_loadT {o : Oper} {a : Act} {w : World} {K : Act → World → Prop} {Q : Exit → Act → World → Prop} (x : Operand) (ho : o.op = .load 43 x)
    (g : Nat) (hx : a.eval x = .pointer (some ⟨g, 0, none⟩)) (ts : List Int) (hl : ts.length = 31) (hg : w.heap[g]? = some (.cells (cellsT ts) 43 (0, 0)))
    (h : K (a.put o.dst (.agg (cellsT ts))) w) : o.wp Try.prog a w K Q :=
  wp_load_row 43 x ho g hx 43 (cellsT ts) (0, 0) _ hg Try.underlying43 rfl (by rw [treeSize, cellsT_size, hl]) h
theorem still_loadT {ops : Array Oper} {rest : List Oper} {o : Oper} {a : Act} {w : World} {Q : Act → Prop} (hgd : o.guard = none) (x : Operand) (ho : o.op = .load 43 x)
    (g : Nat) (hx : a.eval x = .pointer (some ⟨g, 0, none⟩)) (ts : List Int) (hl : ts.length = 31) (hg : w.heap[g]? = some (.cells (cellsT ts) 43 (0, 0)))
    (h : wpStill Try.prog ops w Q rest (a.put o.dst (.agg (cellsT ts)))) : wpStill Try.prog ops w Q (o :: rest) a := by
  have hrun := run_loadVar_row (P := Try.prog) w g 43 43 (cellsT ts) (0, 0) _ hg Try.underlying43 rfl (by rw [treeSize, cellsT_size, hl])
  unfold wpStill
  have hw : Region.wanted o (yielded ops a.tmps) = true := by simp [Region.wanted, hgd]
  rw [if_pos hw]
  unfold Oper.still execOp
  simp only [ho, hx, Instr.loadAt, Instr.sureAddr, Sem.run_bind, Sem.run_pure, Result.andThen_ok, hrun]
  exact ⟨rfl, h⟩
theorem run_loadT {w : World} {g : Nat} {ts : List Int} (hl : ts.length = 31) (hg : w.heap[g]? = some (.cells (cellsT ts) 43 (0, 0))) :
    (loadVar 43 ⟨g, 0, none⟩).run Try.prog w = .ok (.agg (cellsT ts)) w :=
  run_loadVar_row w g 43 43 (cellsT ts) (0, 0) _ hg Try.underlying43 rfl (by rw [treeSize, cellsT_size, hl])
/-- a tree and another result -/
theorem ret_tree {fn : Func} {p u : Tmp} (hr : fn.results = #[.cell p 43, .tmp u]) {R : Ending → World → Prop} {a : Act} {w : World} {g : Nat} {ts : List Int} {v : Value} (hp : a.tmps.getD p undef = .pointer (some ⟨g, 0, none⟩)) (hv : a.tmps.getD u undef = v)
    (hd : a.defers = []) (hl : ts.length = 31) (hg : w.heap[g]? = some (.cells (cellsT ts) 43 (0, 0))) (hR : R (.returned (.tuple #[.agg (cellsT ts), v])) w) : bodyPost Try.prog fn R .ret a w := by
  refine bodyPost_ret (v := .tuple #[.agg (cellsT ts), v]) ?_ hd hR
  rw [results_cell_tmp hr, hp, hv]
  simp [asAddr, Result.andThen, run_loadT hl hg]
theorem ret_treeR {fn : Func} {p u : Tmp} (hr : fn.results = #[.cell p 43, .tmp u]) {R : Ending → World → Prop} {a : Act} {w : World} {g : Nat} {ts : List Int} {v : Value} (hp : a.tmps.getD p undef = .pointer (some ⟨g, 0, none⟩)) (hv : a.tmps.getD u undef = v)
    (hd : a.defers = []) (hl : ts.length = 31) (hg : w.rangeAt g 0 (vals ts)) (hR : R (.returned (.tuple #[.agg (cellsT ts), v])) w) : bodyPost Try.prog fn R .ret a w := by
  refine bodyPost_ret (v := .tuple #[.agg (cellsT ts), v]) ?_ hd hR
  rw [results_cell_tmp hr, hp, hv]
  have := run_loadVar_mid (P := Try.prog) w g 0 43 (vals ts) _ hg Try.underlying43 rfl (by rw [treeSize, vals_len, hl])
  simp [asAddr, Result.andThen, this, cellsT]
/-- a tree as the only result -/
theorem ret_tree1 {fn : Func} {p : Tmp} (hr : fn.results = #[.cell p 43]) {R : Ending → World → Prop} {a : Act} {w : World} {g : Nat} {ts : List Int} (hp : a.tmps.getD p undef = .pointer (some ⟨g, 0, none⟩))
    (hd : a.defers = []) (hl : ts.length = 31) (hg : w.heap[g]? = some (.cells (cellsT ts) 43 (0, 0))) (hR : R (.returned (.agg (cellsT ts))) w) : bodyPost Try.prog fn R .ret a w :=
  bodyPost_ret (v := .agg (cellsT ts)) (results_cell_row hr a.tmps w g 43 (cellsT ts) (0, 0) _ hp hg Try.underlying43 rfl (by rw [treeSize, cellsT_size, hl])) hd hR
theorem cellsT_set (ts : List Int) (i : Nat) (x : Int) : (cellsT ts).setIfInBounds i (.int .i64 x) = cellsT (ts.set i x) := by
  simp [cellsT, vals, List.map_set]

theorem cell_T {w : World} {g i : Nat} {ts : List Int} (hg : w.heap[g]? = some (.cells (cellsT ts) 43 (0, 0))) (hi : i < ts.length) : w.cell? ⟨g, i, none⟩ = some (.int .i64 (gt ts i)) := by
  rw [cell_of_cells hg]; exact cellsT_get hi
theorem set_T {w : World} {g i : Nat} {ts : List Int} {x : Int} (hg : w.heap[g]? = some (.cells (cellsT ts) 43 (0, 0))) : (w.setCell ⟨g, i, none⟩ (.int .i64 x)).heap[g]? = some (.cells (cellsT (ts.set i x)) 43 (0, 0)) := by
  rw [heap_set _ _ _ _ hg, cellsT_set]

/-- the zero tree -/
def zT : List Int := List.replicate 31 0
theorem zT_len : zT.length = 31 := rfl
theorem lit_zero : (#[.int .i64 0, .int .i64 0, .int .i64 0, .int .i64 0, .int .i64 0, .int .i64 0, .int .i64 0, .int .i64 0, .int .i64 0, .int .i64 0, .int .i64 0, .int .i64 0, .int .i64 0, .int .i64 0, .int .i64 0, .int .i64 0, .int .i64 0, .int .i64 0, .int .i64 0, .int .i64 0, .int .i64 0, .int .i64 0, .int .i64 0, .int .i64 0, .int .i64 0, .int .i64 0, .int .i64 0, .int .i64 0, .int .i64 0, .int .i64 0, .int .i64 0] : Array Value) = cellsT zT := rfl

set_option maxHeartbeats 1000000 in
theorem below_any (ts : List Int) (i : Nat) (w : World) (hl : ts.length = 31) (hi : i < 15) (hs : ts.all sB = true) :
    Calls Try.prog 44 #[.agg (cellsT ts), .int .i64 i] w fun e w' => e = .returned (.int .i64 (sumI (gt ts (2 * i + 1)) (gt ts (2 * i + 2)))) ∧ Below w.heap.size w w' := by
  have h1 := (sB_iff _).1 (all_gt hs (2 * i + 1) (by omega))
  have h2 := (sB_iff _).1 (all_gt hs (2 * i + 2) (by omega))
  have hc1 : (w.alloc (.cells (cellsT ts) 43)).cell? ⟨w.heap.size, 2 * i + 1, none⟩ = some (.int .i64 (gt ts (2 * i + 1))) := by
    rw [cell_of_cells (heap_alloc_new w _)]; exact cellsT_get (by omega)
  have hc2 : (w.alloc (.cells (cellsT ts) 43)).cell? ⟨w.heap.size, 2 * i + 2, none⟩ = some (.int .i64 (gt ts (2 * i + 2))) := by
    rw [cell_of_cells (heap_alloc_new w _)]; exact cellsT_get (by omega)
  obtain ⟨x, hx⟩ : ∃ x, x = gt ts (2 * i + 1) := ⟨_, rfl⟩
  obtain ⟨y, hy⟩ : ∃ y, y = gt ts (2 * i + 2) := ⟨_, rfl⟩
  rw [← hx] at h1 hc1 ⊢
  rw [← hy] at h2 hc2 ⊢
  have HL := Lib.hid hl
  clear hx hy hl hs
  obtain ⟨hx0, hx1⟩ := h1
  obtain ⟨hy0, hy1⟩ := h2
  have hm : (31 * x + 17 * y + 5).tmod 991 = sumI x y := rfl
  go_enter Try.func44, Try.ntmps44
  go_wp2
  go_quiet (fail)
  go_wp2
  go_ret
  exact ⟨rfl, ((Below.refl _ w).alloc (Nat.le_refl _) _).trans (Same.below ⟨_, rfl⟩ _)⟩

set_option maxHeartbeats 1000000 in
theorem allsums_any (a : Option Addr) (len cap : Nat) (zs : List Int) (w : World) (h : IntsAt w a zs) (hz : zs.length = len) (hm : len ≤ maxLen) :
    Calls Try.prog 43 #[.slice a len cap] w fun e w' => e = .returned (.bool (zs.all sB)) ∧ w' = w := by
  unfold maxLen at hm
  have HI := Lib.hid h
  have HZ := Lib.hid hz
  clear h hz
  go_enter Try.func43, Try.ntmps43
  go_wp2
  go_loopw [7] (fun i wr => ∃ k : Nat, k ≤ len ∧ i = .int .i64 k ∧ wr = w ∧ ∀ j, j < k → sB (gt zs j) = true) (fun i _ => len - (intOf i).toNat)
  case atStart => exact ⟨0, by omega, rfl, rfl, fun j hj => absurd hj (by omega)⟩
  case round =>
    obtain ⟨k, hk, rfl, rfl, hall⟩ := hrel
    have HA := Lib.hid hall
    clear hall
    by_cases hlt : k < len
    · have h' : ∃ b off, a = some ⟨b, off, none⟩ ∧ wr.cell? ⟨b, off + k, none⟩ = some (.int .i64 (gt zs k)) := by
        rcases HI.out with h0 | ⟨b, off, ha, hb, hc⟩
        · have := HZ.out; rw [h0] at this; simp at this; omega
        · exact ⟨b, off, ha, hc k (by rw [HZ.out]; exact hlt)⟩
      obtain ⟨b, off, ha, hc⟩ := h'
      subst ha
      have hlt' : (k : Int) < (len : Int) := by omega
      cases hv : sB (gt zs k)
      · have HV := Lib.hid hv
        go_wp2_with fail
        refine (isum_any (gt zs k) wr).mono ?_
        rintro e w2 ⟨rfl, rfl⟩
        go_wp2
        go_ret
        refine ⟨ret_bool ?_, rfl⟩
        symm
        rw [List.all_eq_false]
        exact ⟨gt zs k, by rw [gt_get (by rw [HZ.out]; exact hlt)]; exact List.getElem_mem _, by rw [HV.out]; decide⟩
      · have HV := Lib.hid hv
        go_wp2_with fail
        refine (isum_any (gt zs k) wr).mono ?_
        rintro e w2 ⟨rfl, rfl⟩
        go_wp2
        go_roundw
        case rel =>
          refine ⟨k + 1, by omega, by go_num, by first | rfl | trivial, fun j hj => ?_⟩
          rcases Nat.lt_or_ge j k with e | e
          · exact HA.out j e
          · have : j = k := by omega
            subst this; exact HV.out
        case measure => simp [intOf]; omega
    · have hkl : k = len := by omega
      have HK := Lib.hid hkl
      clear hkl
      go_wp2
      go_ret
      refine ⟨ret_bool ?_, rfl⟩
      symm
      exact gt_all (fun j hj => HA.out j (by have := HK.out; have := HZ.out; omega))

end Go.Proofs.Ytkpfpnmokknbaaa
