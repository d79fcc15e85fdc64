/- Trees of sums: comparing two trees, the program's. -/
import Derived.Test.YtkpfpnmokknbaaaSmT3
namespace Go.Proofs.Ytkpfpnmokknbaaa
open Go.RowKit
set_option linter.unusedVariables false

attribute [local go_sem ↓] Go.wp_at_zero Go.wp_at_succ

/-- the cells of 31 bools -/
def boolsT (f : Nat → Bool) : Array Value := ((List.range 31).map fun j => Value.bool (f j)).toArray
theorem boolsT_size (f : Nat → Bool) : (boolsT f).size = 31 := by simp [boolsT]
theorem boolsT_get (f : Nat → Bool) {i : Nat} (h : i < 31) : (boolsT f)[i]? = some (.bool (f i)) := by
  simp [boolsT, h]
theorem boolsT_congr {f g : Nat → Bool} (h : ∀ j, j < 31 → f j = g j) : boolsT f = boolsT g := by
  unfold boolsT
  congr 1
  apply List.map_congr_left
  intro j hj
  rw [h j (List.mem_range.1 hj)]
theorem boolsT_set (f : Nat → Bool) (i : Nat) (b : Bool) : (boolsT f).setIfInBounds i (.bool b) = boolsT (fun j => if j = i then b else f j) := by
  apply Array.ext_getElem?
  intro j
  by_cases hj : j < 31
  · rw [boolsT_get _ hj]
    by_cases e : j = i
    · subst e
      rw [Array.getElem?_setIfInBounds_self_of_lt (by rw [boolsT_size]; exact hj), if_pos rfl]
    · rw [Array.getElem?_setIfInBounds_ne (by omega), boolsT_get _ hj, if_neg e]
  · rw [Array.getElem?_eq_none (by rw [Array.size_setIfInBounds, boolsT_size]; omega), Array.getElem?_eq_none (by rw [boolsT_size]; omega)]
theorem boolsT_one (f : Nat → Bool) : (boolsT f).all (·.oneCell') = true := Array.all_eq_true_iff_forall_mem.2 (fun v hv => by
  simp only [boolsT, List.mem_toArray, List.mem_map] at hv
  obtain ⟨j, _, rfl⟩ := hv; rfl)
theorem boolsSize : (Try.prog.info? 57).map (·.size) = some 31 := by kernel_rfl
theorem lit_no : (#[.bool false, .bool false, .bool false, .bool false, .bool false, .bool false, .bool false, .bool false, .bool false, .bool false, .bool false, .bool false, .bool false, .bool false, .bool false, .bool false, .bool false, .bool false, .bool false, .bool false, .bool false, .bool false, .bool false, .bool false, .bool false, .bool false, .bool false, .bool false, .bool false, .bool false, .bool false] : Array Value) = boolsT (fun _ => false) := rfl
theorem lit_yes : (#[.bool true, .bool false, .bool false, .bool false, .bool false, .bool false, .bool false, .bool false, .bool false, .bool false, .bool false, .bool false, .bool false, .bool false, .bool false, .bool false, .bool false, .bool false, .bool false, .bool false, .bool false, .bool false, .bool false, .bool false, .bool false, .bool false, .bool false, .bool false, .bool false, .bool false, .bool false] : Array Value) = boolsT (fun j => decide (j = 0)) := rfl

/-- 31 bools are written -/
theorem wl_storeB {ops : Array Oper} {rest : List Oper} {o : Oper} {a : Act} {w : World} {Q : Exit → Act → World → Prop} (hgd : o.guard = none) (x y : Operand) (ho : o.op = .store 57 x y)
    (g : Nat) (hx : a.eval x = .pointer (some ⟨g, 0, none⟩)) (f : Nat → Bool) (hy : a.eval y = .agg (boolsT f)) (cur : Array Value) (hg : w.heap[g]? = some (.cells cur 57 (0, 0))) (hc : cur.size = 31)
    (B : Nat) (w0 : World) (hb : Below B w0 w) (hB : B ≤ g)
    (h : ∀ w', Hid (w'.heap[g]? = some (.cells (boolsT f) 57 (0, 0))) → Below B w0 w' → Hid (w'.heap.size = w.heap.size) → wpList Try.prog ops Q rest (a.put o.dst undef) w') : wpList Try.prog ops Q (o :: rest) a w := by
  refine wpList_plain hgd fun K hK => ?_
  have hrun := run_storeVar_row (P := Try.prog) w g 57 57 cur (boolsT f) hg (by rw [boolsSize, boolsT_size]) (by rw [boolsT_size, hc]) (boolsT_one f)
  unfold Oper.wp execOp
  simp only [ho, hx, hy, Instr.storeAt, Instr.sureAddr, Sem.run_bind, Sem.run_pure, Result.andThen_ok, hrun]
  exact hK _ _ (h _ (setRow_heap w g _ _ _ _ hg) (hb.trans ⟨rfl, rfl, rfl, by simp [World.setRow], fun k hk => setRow_other w g k _ (by omega)⟩) (show _ = _ by simp [World.setRow]))

/-- a node of a tree held as a value -/
theorem run_indexT {xs : List Int} {k : Nat} (hl : xs.length = 31) (hk : k < 31) (w : World) : (Instr.index 43 (.agg (cellsT xs)) (.int .i64 k)).run Try.prog w = .ok (.int .i64 (gt xs k)) w := by
  have h1 := cellsT_get (ts := xs) (i := k) (by omega)
  have hk' : (0 : Int) ≤ k ∧ (k : Int) < 31 := by omega
  obtain ⟨i0, hi0, hz0, hz1, hz2⟩ := info_parts Try.infoI
  simp [Instr.index, asIntOf, run_underlying Try.underlying43, sizeOf, typeInfo, hi0, hz1, Go.part, h1, hk]

/-- numbers in a new row of the call's own, and a number -/
def NewIntsN (zs : List Int) (n : Int) (w : World) (e : Ending) (w' : World) : Prop :=
  ∃ g cap, e = .returned (.tuple #[.slice (some ⟨g, 0, none⟩) zs.length cap, .int .i64 n]) ∧ OwnI w' w.heap.size (some ⟨g, 0, none⟩) cap zs ∧ Below w.heap.size w w'

set_option maxHeartbeats 2000000 in
theorem differ_any (xs ys : List Int) (w : World) (hx : xs.length = 31) (hy : ys.length = 31) :
    Calls Try.prog 42 #[.agg (cellsT xs), .agg (cellsT ys)] w (NewIntsN (outL (dff xs ys) 31) ((cnt (opn (dff xs ys)) 31 : Nat) : Int) w) := by
  have HX := Lib.hid hx
  have HY := Lib.hid hy
  clear hx hy
  have hs2 : ((w.alloc (.cells (cellsT xs) 43)).alloc (.cells (cellsT ys) 43)).heap.size = w.heap.size + 2 := by simp
  have HS2 := Lib.hid hs2
  clear hs2
  have HB2 : Hid (Below w.heap.size w ((w.alloc (.cells (cellsT xs) 43)).alloc (.cells (cellsT ys) 43))) := ((Below.refl _ w).alloc (Nat.le_refl _) _).alloc (by simp) _
  go_enter Try.func42, Try.ntmps42
  have hA2 : Hid (((w.alloc (.cells (cellsT xs) 43)).alloc (.cells (cellsT ys) 43)).heap[w.heap.size]? = some (.cells (cellsT xs) 43 (0, 0))) := heap_first w _ _
  have hC2 : Hid (((w.alloc (.cells (cellsT xs) 43)).alloc (.cells (cellsT ys) 43)).heap[w.heap.size + 1]? = some (.cells (cellsT ys) 43 (0, 0))) := heap_second w _ _
  go_wp2_with (first | (rw [lit_yes]) | (refine wl_storeB (by rfl) _ _ (by rfl) (w.heap.size + 2) (by rfl) (fun j => decide (j = 0)) (by rfl) _ (by rw [← HS2.out]; exact heap_alloc_new _ _) rfl (w.heap.size + 2) _ ((Below.refl _ _).alloc (by rw [HS2.out]; exact Nat.le_refl _) _) (Nat.le_refl _) ?_; intro w3 hw3 hb3 hz3; have hA3 : Hid (w3.heap[w.heap.size]? = some (.cells (cellsT xs) 43 (0, 0))) := (hb3.block _ (by omega)).trans hA2.out; have hC3 : Hid (w3.heap[w.heap.size + 1]? = some (.cells (cellsT ys) 43 (0, 0))) := (hb3.block _ (by omega)).trans hC2.out; have HB3 : Hid (Below w.heap.size w w3) := HB2.out.trans (hb3.mono (by omega)); have HZ3 : Hid (w3.heap.size = w.heap.size + 3) := (hz3.out.trans (by show ((World.alloc _ _).heap.push _).size = _; rw [Array.size_push, HS2.out])); clear hz3 hb3) | (refine wl_loadT (by rfl) _ (by rfl) w.heap.size (by rfl) xs HX.out ((Below.heap_alloc w3 _ w.heap.size (by rw [HZ3.out]; omega)).trans hA3.out) ?_))
  have hA4 : Hid ((w3.alloc (.cells #[] 3)).heap[w.heap.size + 1]? = some (.cells (cellsT ys) 43 (0, 0))) := (Below.heap_alloc w3 _ _ (by rw [HZ3.out]; omega)).trans hC3.out
  have hD4 : Hid ((w3.alloc (.cells #[] 3)).heap[w.heap.size + 1 + 1]? = some (.cells (boolsT (dueAt (dff xs ys) 0)) 57 (0, 0))) := by
    have := (Below.heap_alloc w3 (.cells #[] 3) (w.heap.size + 2) (by rw [HZ3.out]; omega)).trans hw3.out
    rw [boolsT_congr (g := dueAt (dff xs ys) 0) (fun j hj => (due_start _).symm)] at this
    exact this
  have hO4 : Hid (OwnI (w3.alloc (.cells #[] 3)) (w.heap.size + 3) (some ⟨w3.heap.size, 0, none⟩) 0 (outL (dff xs ys) 0)) := by
    show OwnI _ _ _ _ _
    obtain ⟨g, c, he, ho, hb⟩ := sofar_new w3 #[] rfl
    injection he with he hl hc
    injection he with he
    injection he with he
    subst he
    subst hc
    have hz := HZ3.out
    rw [hz] at ho ⊢
    exact ho
  have HB4 : Hid (Below w.heap.size w (w3.alloc (.cells #[] 3))) := HB3.out.alloc (by rw [HZ3.out]; omega) _
  go_loopw [7, 8, 14] (fun o n i wr => ∃ (k g cap : Nat), k ≤ 31 ∧ i = .int .i64 k ∧ n = .int .i64 (cnt (opn (dff xs ys)) k : Nat) ∧ o = .slice (some ⟨g, 0, none⟩) (outL (dff xs ys) k).length cap ∧ OwnI wr (w.heap.size + 3) (some ⟨g, 0, none⟩) cap (outL (dff xs ys) k) ∧ wr.heap[w.heap.size + 1]? = some (.cells (cellsT ys) 43 (0, 0)) ∧ wr.heap[w.heap.size + 1 + 1]? = some (.cells (boolsT (dueAt (dff xs ys) k)) 57 (0, 0)) ∧ Below w.heap.size w wr) (fun _ _ i _ => 31 - (intOf i).toNat)
  case atStart => exact ⟨0, w3.heap.size, 0, by omega, rfl, rfl, rfl, hO4.out, hA4.out, hD4.out, HB4.out⟩
  case round =>
    obtain ⟨k, g, cap, hk, rfl, rfl, rfl, ho, hy5, hd5, hb5⟩ := hrel
    have HO := Lib.hid ho
    have HY5 := Lib.hid hy5
    have HD5 := Lib.hid hd5
    have HB5 := Lib.hid hb5
    have hgl := ho.lt
    have hcn : cnt (opn (dff xs ys)) k ≤ 31 := by have := cnt_le (opn (dff xs ys)) k; omega
    have hll : (outL (dff xs ys) k).length ≤ 31 := by have := outL_len_le (dff xs ys) k; omega
    obtain ⟨d, hd⟩ : ∃ d, d = dff xs ys := ⟨_, rfl⟩
    have HDD := Lib.hid hd
    rw [← hd] at HO hcn hll HD5 ⊢
    clear ho hy5 hd5 hb5 hd
    obtain ⟨c, hc⟩ : ∃ c, c = cnt (opn d) k := ⟨_, rfl⟩
    obtain ⟨L, hL⟩ : ∃ L, L = outL d k := ⟨_, rfl⟩
    rw [← hc] at hcn ⊢
    rw [← hL] at HO hll ⊢
    have HCE := Lib.hid hc
    have HLE := Lib.hid hL
    clear hc hL
    by_cases hlt : k < 31
    · have hgx := run_indexT (k := k) HX.out hlt
      have hcy := cell_T (i := k) HY5.out (by rw [HY.out]; exact hlt)
      have hcd : wr.cell? ⟨w.heap.size + 1 + 1, k, none⟩ = some (.bool (opn d k)) := by rw [cell_of_cells HD5.out, boolsT_get _ hlt, due_now]
      obtain ⟨x, hx⟩ : ∃ x, x = gt xs k := ⟨_, rfl⟩
      obtain ⟨y, hy⟩ : ∃ y, y = gt ys k := ⟨_, rfl⟩
      rw [← hx] at hgx
      rw [← hy] at hcy
      have hdk : d k = !(x == y) := by rw [HDD.out, dff, hx, hy]
      clear hx hy
      have hlt' : (k : Int) < 31 := by omega
      rcases bcase (opn d k) with hop | hop
      · rw [hop] at hcd
        rcases bcase (x == y) with hxy | hxy
        · rw [hxy] at hdk
          have hout : outP d k = false := by simp [outP, hdk]
          have E1 : Hid (((c : Int) + 1) = ((cnt (opn d) (k + 1) : Nat) : Int)) := by show _ = _; rw [HCE.out, cnt, hop]; simp
          have E2 : Hid (L = outL d (k + 1)) := by show _ = _; rw [outL_no hout, HLE.out]
          have E3 : Hid (boolsT (dueAt d (k + 1)) = boolsT (dueAt d k)) := boolsT_congr (fun j hj => due_no hj (by rw [hdk]; simp))
          clear hdk hop hout
          go_wp2
          go_roundw
          case rel => exact ⟨k + 1, g, cap, by omega, by go_num, by rw [← E1.out], by rw [← E2.out], by rw [← E2.out]; exact HO.out, HY5.out, by rw [E3.out]; exact HD5.out, HB5.out⟩
          case measure => simp [intOf]; omega
        · rw [hxy] at hdk
          by_cases h15 : k < 15
          · have hout : outP d k = false := by simp [outP]; omega
            have E1 : Hid (((c : Int) + 1) = ((cnt (opn d) (k + 1) : Nat) : Int)) := by show _ = _; rw [HCE.out, cnt, hop]; simp
            have E2 : Hid (L = outL d (k + 1)) := by show _ = _; rw [outL_no hout, HLE.out]
            have E3 : Hid (∀ j, j < 31 → (if j = 2 * k + 2 then true else if j = 2 * k + 1 then true else dueAt d k j) = dueAt d (k + 1) j) := fun j hj => (due_yes hj (by rw [hop, hdk]; rfl)).symm
            have hc1 : wr.cell? ⟨w.heap.size + 1 + 1, 2 * k + 1, none⟩ = some (.bool (dueAt d k (2 * k + 1))) := by rw [cell_of_cells HD5.out, boolsT_get _ (by omega)]
            have hf1 : wr.frozen? ⟨w.heap.size + 1 + 1, 2 * k + 1, none⟩ = false := frozen_of_cells HD5.out _
            have hs1 := heap_set wr (w.heap.size + 1 + 1) (2 * k + 1) (.bool true) HD5.out
            rw [boolsT_set] at hs1
            have hc2 : (wr.setCell ⟨w.heap.size + 1 + 1, 2 * k + 1, none⟩ (.bool true)).cell? ⟨w.heap.size + 1 + 1, 2 * k + 2, none⟩ = some (.bool (dueAt d k (2 * k + 2))) := by rw [cell_of_cells hs1, boolsT_get _ (by omega), if_neg (by omega)]
            have hf2 : (wr.setCell ⟨w.heap.size + 1 + 1, 2 * k + 1, none⟩ (.bool true)).frozen? ⟨w.heap.size + 1 + 1, 2 * k + 2, none⟩ = false := frozen_of_cells hs1 _
            have HS1 := Lib.hid hs1
            obtain ⟨b1, hb1⟩ : ∃ b, b = dueAt d k (2 * k + 1) := ⟨_, rfl⟩
            obtain ⟨b2, hb2⟩ : ∃ b, b = dueAt d k (2 * k + 2) := ⟨_, rfl⟩
            rw [← hb1] at hc1
            rw [← hb2] at hc2
            clear hdk hop hout hs1 hb1 hb2
            have h15' : (k : Int) < 15 := by omega
            go_wp2
            go_roundw
            case rel =>
              refine ⟨k + 1, g, cap, by omega, by go_num, by rw [← E1.out], by rw [← E2.out], ?_, ?_, ?_, ?_⟩
              · rw [← E2.out]
                exact HO.out.kept fun q hq _ => by rw [heap_set_ne _ _ _ _ _ (by omega), heap_set_ne _ _ _ _ _ (by omega)]
              · rw [heap_set_ne _ _ _ _ _ (by omega), heap_set_ne _ _ _ _ _ (by omega)]; exact HY5.out
              · rw [heap_set _ _ _ _ HS1.out, boolsT_set]
                rw [boolsT_congr E3.out]
              · exact (HB5.out.setCell (by show _ ≤ w.heap.size + 1 + 1; omega) _).setCell (by show _ ≤ w.heap.size + 1 + 1; omega) _
            case measure => simp [intOf]; omega
          · have hout : outP d k = true := by simp [outP, hop, hdk]; omega
            have E1 : Hid (((c : Int) + 1) = ((cnt (opn d) (k + 1) : Nat) : Int)) := by show _ = _; rw [HCE.out, cnt, hop]; simp
            have E2 : Hid (L ++ [((k : Nat) : Int) - 15] = outL d (k + 1)) := by show _ = _; rw [outL_yes hout, HLE.out]
            have E3 : Hid (boolsT (dueAt d (k + 1)) = boolsT (dueAt d k)) := boolsT_congr (fun j hj => due_leaf hj (by omega))
            have HOW : Hid (wr.ownsRow (w.heap.size + 3) 3 1 (.slice (some ⟨g, 0, none⟩) L.length cap) L.length (vals L)) := HO.out
            have hlen31 := Lib.hid hll
            have hs0 : w.heap.size + 3 ≤ wr.heap.size := by omega
            clear hdk hop hout hll
            have h15' : (15 : Int) ≤ (k : Int) := by omega
            go_wp2_with (at_builtin; refine wl_app _ (by rfl) _ _ (by rfl) (w.heap.size + 3) g L.length cap (vals L) (by rfl) (HOW.out.alloc _) ⟨wr.heap.size, 0, none⟩ 1 1 [.int .i64 ((k : Int) - 15)] (by rfl) rfl (src_one (heap_alloc_new wr _)) (by simp [Value.oneCell']) (L.length + 1) (vals (L ++ [(k : Int) - 15])) rfl (by simp [vals]) (by have := hlen31.out; omega) (by simp; omega) ?_; intro g5 cap5 w5 hown5 hg5 hat5; have HO5 := Lib.hid hown5; have HG5 := Lib.hid hg5; clear hown5 hg5 hat5)
            go_roundw
            case rel =>
              obtain ⟨_, _, _, _, hkp⟩ := HG5.out
              have hkeep : ∀ q, q < w.heap.size + 3 → w5.heap[q]? = wr.heap[q]? := fun q hq => (hkp q (by simp; omega) (by intro e; injection e with e; omega)).trans (Below.heap_alloc wr _ q (by omega))
              refine ⟨k + 1, g5, cap5, by omega, by go_num, by rw [← E1.out], by rw [← E2.out, List.length_append]; rfl, ?_, ?_, ?_, ?_⟩
              · rw [← E2.out]; unfold OwnI; rw [List.length_append]; exact HO5.out
              · rw [hkeep _ (by omega)]; exact HY5.out
              · rw [hkeep _ (by omega), E3.out]; exact HD5.out
              · exact (HB5.out.alloc HB5.out.size _).grown HG5.out (by have := HB5.out.size; simp; omega) (fun q hq => by injection hq with hq; omega)
            case measure => simp [intOf]; omega
      · rw [hop] at hcd
        have hout : outP d k = false := by simp [outP, hop]
        have E1 : Hid (c = cnt (opn d) (k + 1)) := by show _ = _; rw [HCE.out, cnt, hop]; simp
        have E2 : Hid (L = outL d (k + 1)) := by show _ = _; rw [outL_no hout, HLE.out]
        have E3 : Hid (boolsT (dueAt d (k + 1)) = boolsT (dueAt d k)) := boolsT_congr (fun j hj => due_no hj (by rw [hop, Bool.false_and]))
        clear hdk hop hout
        go_wp2
        go_roundw
        case rel => exact ⟨k + 1, g, cap, by omega, by go_num, by rw [← E1.out], by rw [← E2.out], by rw [← E2.out]; exact HO.out, HY5.out, by rw [E3.out]; exact HD5.out, HB5.out⟩
        case measure => simp [intOf]; omega
    · have hkl : k = 31 := by omega
      have HK := Lib.hid hkl
      clear hkl
      go_wp2
      go_ret2
      refine ⟨g, cap, ?_, ?_, HB5.out⟩
      · rw [← HDD.out, ← HK.out, ← HLE.out, ← HCE.out]; rfl
      · rw [← HDD.out, ← HK.out, ← HLE.out]
        exact HO.out.less (by omega)

theorem newn_mono {zs : List Int} {n : Int} {w w1 w2 : World} {e : Ending} (h : NewIntsN zs n w1 e w2) (hb : Below w.heap.size w w1) : NewIntsN zs n w e w2 := by
  obtain ⟨g, cap, he, ho, hb2⟩ := h
  exact ⟨g, cap, he, ho.less hb.size, hb.trans (hb2.mono hb.size)⟩

set_option maxHeartbeats 2000000 in
theorem sumsdiffer_any (a1 a2 : Option Addr) (l1 c1 l2 c2 : Nat) (xs ys : List Int) (w : World) (h1 : IntsAt w a1 xs) (hz1 : xs.length = l1) (hm1 : l1 ≤ maxLen) (hc1 : l1 ≤ c1) (h2 : IntsAt w a2 ys) (hz2 : ys.length = l2) (hm2 : l2 ≤ maxLen) (hc2 : l2 ≤ c2) :
    Calls Try.prog 23 #[.slice a1 l1 c1, .slice a2 l2 c2] w (NewIntsN (dfL xs ys) (dfN xs ys) w) := by
  have H1 := Lib.hid h1
  have H2 := Lib.hid h2
  have HZ1 := Lib.hid hz1
  have HZ2 := Lib.hid hz2
  have HM1 := Lib.hid hm1
  have HM2 := Lib.hid hm2
  have HC1 := Lib.hid hc1
  have HC2 := Lib.hid hc2
  clear h1 h2 hz1 hz2 hm1 hm2 hc1 hc2
  go_enter Try.func23, Try.ntmps23
  go_wp2_with fail
  refine (treefrom_any a1 l1 c1 xs w H1.out HZ1.out HM1.out HC1.out).mono ?_
  rintro e w2 ⟨t1, ht1, rfl, hb2, hok1⟩
  have HT1 := Lib.hid ht1
  have HB2 := Lib.hid hb2
  have HOK1 := Lib.hid hok1
  clear ht1 hb2 hok1
  go_wp2_with (first | (refine wl_storeT (by rfl) _ _ (by rfl) w2.heap.size (by rfl) t1 (by rfl) HT1.out _ (heap_alloc_new w2 _) rfl w2.heap.size w2 ((Below.refl _ w2).alloc (Nat.le_refl _) _) (Nat.le_refl _) ?_; intro w3 hw3 hb3 hz3; have HZ3 := Lib.hid hz3; clear hz3) | fail)
  have HB3 : Hid (Below w.heap.size w w3) := HB2.out.trans (hb3.mono HB2.out.size)
  clear hb3
  refine (treefrom_any a2 l2 c2 ys w3 (H2.out.keepB HB3.out (Nat.le_refl _)) HZ2.out HM2.out HC2.out).mono ?_
  rintro e w4 ⟨t2, ht2, rfl, hb4, hok2⟩
  have HT2 := Lib.hid ht2
  have HOK2 := Lib.hid hok2
  have HW4 : Hid (w4.heap[w2.heap.size]? = some (.cells (cellsT t1) 43 (0, 0))) := (hb4.block _ (heap_lt hw3.out)).trans hw3.out
  have HB4 : Hid (Below w.heap.size w w4) := HB3.out.trans (hb4.mono HB3.out.size)
  have HL4 := Lib.hid (heap_lt HW4.out)
  clear ht2 hb4 hok2 hw3
  rcases bcase (treeB xs) with hv1 | hv1
  · rcases bcase (treeB ys) with hv2 | hv2
    · have E1 : Hid (t1 = xs) := HOK1.out hv1
      have E2 : Hid (t2 = ys) := HOK2.out hv2
      have HL : Hid (dfL xs ys = outL (dff xs ys) 31) := by show _ = _; simp [dfL, dfB, hv1, hv2]
      have HN : Hid (dfN xs ys = ((cnt (opn (dff xs ys)) 31 : Nat) : Int)) := by show _ = _; simp [dfN, dfB, hv1, hv2]
      rw [hv1, hv2]
      clear hv1 hv2
      go_wp2_with (first | (refine wl_storeT (by rfl) _ _ (by rfl) w4.heap.size (by rfl) t2 (by rfl) HT2.out _ (heap_alloc_new w4 _) rfl w4.heap.size w4 ((Below.refl _ w4).alloc (Nat.le_refl _) _) (Nat.le_refl _) ?_; intro w5 hw5 hb5 hz5; have HZ5 := Lib.hid hz5; clear hz5; have HW5 : Hid (w5.heap[w2.heap.size]? = some (.cells (cellsT t1) 43 (0, 0))) := (hb5.block _ HL4.out).trans HW4.out; have HB5 : Hid (Below w.heap.size w w5) := HB4.out.trans (hb5.mono HB4.out.size); clear hb5) | (refine wl_loadT (by rfl) _ (by rfl) w2.heap.size (by rfl) t1 HT1.out HW5.out ?_) | (refine wl_loadT (by rfl) _ (by rfl) w4.heap.size (by rfl) t2 HT2.out hw5.out ?_) | fail)
      refine (differ_any t1 t2 w5 HT1.out HT2.out).mono ?_
      rintro e w6 ⟨g, c, rfl, ho, hb⟩
      have HF : Hid (NewIntsN (outL (dff t1 t2) 31) ((cnt (opn (dff t1 t2)) 31 : Nat) : Int) w (.returned (.tuple #[.slice (some ⟨g, 0, none⟩) (outL (dff t1 t2) 31).length c, .int .i64 ((cnt (opn (dff t1 t2)) 31 : Nat) : Int)])) w6) := newn_mono ⟨g, c, rfl, ho, hb⟩ HB5.out
      clear ho hb
      go_wp2
      go_ret2
      rw [HL.out, HN.out, ← E1.out, ← E2.out]
      exact HF.out
    · have HL : Hid (dfL xs ys = []) := by show _ = _; simp [dfL, dfB, hv2]
      have HN : Hid (dfN xs ys = -1) := by show _ = _; simp [dfN, dfB, hv2]
      rw [hv1, hv2]
      clear hv1 hv2
      go_wp2_with (first | (refine wl_storeT (by rfl) _ _ (by rfl) w4.heap.size (by rfl) t2 (by rfl) HT2.out _ (heap_alloc_new w4 _) rfl w4.heap.size w4 ((Below.refl _ w4).alloc (Nat.le_refl _) _) (Nat.le_refl _) ?_; intro w5 hw5 hb5 hz5; have HZ5 := Lib.hid hz5; clear hz5; have HB5 : Hid (Below w.heap.size w w5) := HB4.out.trans (hb5.mono HB4.out.size); clear hb5))
      go_ret2
      rw [HL.out, HN.out]
      obtain ⟨g, c, he, ho, hb⟩ := new_mono (new_of_sofar (sofar_new w5 #[] rfl)) HB5.out
      injection he with he
      exact ⟨g, c, by rw [← he]; rfl, ho, hb⟩
  · have HL : Hid (dfL xs ys = []) := by show _ = _; simp [dfL, dfB, hv1]
    have HN : Hid (dfN xs ys = -1) := by show _ = _; simp [dfN, dfB, hv1]
    rw [hv1]
    clear hv1
    go_wp2_with (first | (refine wl_storeT (by rfl) _ _ (by rfl) w4.heap.size (by rfl) t2 (by rfl) HT2.out _ (heap_alloc_new w4 _) rfl w4.heap.size w4 ((Below.refl _ w4).alloc (Nat.le_refl _) _) (Nat.le_refl _) ?_; intro w5 hw5 hb5 hz5; have HZ5 := Lib.hid hz5; clear hz5; have HB5 : Hid (Below w.heap.size w w5) := HB4.out.trans (hb5.mono HB4.out.size); clear hb5))
    go_ret2
    rw [HL.out, HN.out]
    obtain ⟨g, c, he, ho, hb⟩ := new_mono (new_of_sofar (sofar_new w5 #[] rfl)) HB5.out
    injection he with he
    exact ⟨g, c, by rw [← he]; rfl, ho, hb⟩

end Go.Proofs.Ytkpfpnmokknbaaa
