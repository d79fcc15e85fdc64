/- slices.Insert, at pointers to peers. -/
import Derived.Test.YtndjkokipiikpaaNwFail
import Derived.Laws.IdiomCopy
namespace Go.Proofs.Ytndjkokipiikpaa
open Go.RowKit
set_option linter.unusedVariables false

/-- a row with q at place a -/
def insP (ps : Nat → Option Addr) (a : Nat) (q : Option Addr) (j : Nat) : Option Addr := if j < a then ps j else if j = a then q else ps (j - 1)
theorem PRow.congr {w : World} {N m : Nat} {ps qs : Nat → Option Addr} (h : PRow w N m ps) (e : ∀ j, j < m → ps j = qs j) : PRow w N m qs := by
  obtain ⟨la, h1, h2⟩ := h; exact ⟨la, h1, fun j hj => by rw [← e j hj]; exact h2 j hj⟩
theorem PRow.sets {N m : Nat} : ∀ (n o : Nat) (w : World) (ps vs : Nat → Option Addr), PRow w N m ps → o + n ≤ m →
    PRow (w.setCells N o ((List.range n).map fun j => .pointer (vs j))) N m (fun j => if o ≤ j ∧ j < o + n then vs (j - o) else ps j) ∧ Kept N w (w.setCells N o ((List.range n).map fun j => .pointer (vs j))) := by
  intro n
  induction n with
  | zero => intro o w ps vs h ho; exact ⟨h.congr (fun j _ => by rw [if_neg (by omega)]), Kept.refl _ _⟩
  | succ n ih =>
    intro o w ps vs h ho
    have e : (List.range (n + 1)).map (fun j => Value.pointer (vs j)) = .pointer (vs 0) :: (List.range n).map (fun j => .pointer ((fun j => vs (j + 1)) j)) := by
      rw [List.range_succ_eq_map, List.map_cons, List.map_map]; rfl
    rw [e]
    obtain ⟨h1, h2⟩ := ih (o + 1) (w.setCell ⟨N, o, none⟩ (.pointer (vs 0))) _ (fun j => vs (j + 1)) (h.set (by omega) (vs 0)) (by omega)
    refine ⟨h1.congr (fun j hj => ?_), (kept_cell _ _ _ _).trans h2⟩
    by_cases h3 : o + 1 ≤ j ∧ j < o + 1 + n
    · rw [if_pos h3, if_pos (by omega), show j - (o + 1) + 1 = j - o by omega]
    · rw [if_neg h3]
      by_cases h4 : j = o
      · rw [if_pos h4, if_pos (by omega), show j - o = 0 by omega]
      · rw [if_neg h4, if_neg (by omega)]

theorem appP_grow (L V m : Nat) (ps : Nat → Option Addr) (q : Option Addr) (w : World) (h : PRow w L m ps) (hV : w.cell? ⟨V, 0, none⟩ = some (.pointer q)) (hm : m ≤ 10) (ty : TypeId) :
    (Builtin.append_ #[59, 59] ty #[.slice (some ⟨L, 0, none⟩) m m, .slice (some ⟨V, 0, none⟩) 1 1]).run Try.prog w =
      .ok (.slice (some ⟨w.heap.size, 0, none⟩) (m + 1) (grownCap w (m + 1) m 84)) (w.drew.alloc (.cells ((pvs ps m).toArray ++ [Value.pointer q].toArray ++ Builtin.zeroCells (Value.pointer none).cells (grownCap w (m + 1) m 84 - (m + 1))) 84)) := by
  obtain ⟨i0, hi0, hz0, hz1, hz2⟩ := info_parts Try.infoP
  refine run_append_grow (P := Try.prog) w 59 ty 84 i0 _ Try.underlying59 hi0 hz0 ⟨L, 0, none⟩ m m (pvs ps m) (by rw [pvs_len, hz1]; omega) (fun j v hv => ?_) ⟨V, 0, none⟩ 1 1 [.pointer q] (by rw [hz1]; rfl) (fun j v hv => ?_) (by omega) (by omega) (growslice_fits (by omega) (by rw [hz2]; omega))
  · obtain ⟨hj, rfl⟩ := pvs_get' hv
    rw [add_plain, Nat.zero_add]; exact (h.cell hj).1
  · have : j = 0 := by have := (List.getElem?_eq_some_iff.1 hv).1; simp at this; omega
    subst this
    simp at hv; subst hv
    rw [add_plain]; exact hV
theorem appP_zeros (L m a : Nat) (ps : Nat → Option Addr) (w : World) (h : PRow w L m ps) (ha : a < m) (hm : m ≤ 10) (ty : TypeId) :
    (Builtin.append_ #[59, 3] ty #[.slice (some ⟨L, 0, none⟩) a m, .int .i64 ((m : Int) + 1 - a)]).run Try.prog w =
      .ok (.slice (some ⟨w.heap.size, 0, none⟩) (m + 1) (grownCap w (m + 1) m 84)) (w.drew.alloc (.cells ((pvs ps a).toArray ++ Builtin.zeroCells (Value.pointer none).cells (m + 1 - a) ++ Builtin.zeroCells (Value.pointer none).cells (grownCap w (m + 1) m 84 - (m + 1))) 84)) := by
  obtain ⟨i0, hi0, hz0, hz1, hz2⟩ := info_parts Try.infoP
  have hw : IntKind.i64.wrap ((m : Int) + 1 - a) = ((m + 1 - a : Nat) : Int) := by rw [IntKind.wrap_i64]; omega
  have hfo := run_firstCells_some (P := Try.prog) w.drew 1 a ⟨L, 0, none⟩ a m (pvs ps a) (by rw [pvs_len]; omega) (fun j v hv => by
    obtain ⟨hj, rfl⟩ := pvs_get' hv
    rw [add_plain, Nat.zero_add]; exact (h.cell (show j < m by omega)).1)
  have h48 : ¬ (281474976710656 < Builtin.nextslicecap (m + 1) m * 8) := by have := growslice_fits (need := m + 1) (old := m) (bytes := 8) (by omega) (by omega); omega
  have u3 := Try.underlying3
  obtain ⟨n, hn⟩ : ∃ n, n = m + 1 - a := ⟨_, rfl⟩
  rw [← hn] at hw ⊢
  have e1 : a + n = m + 1 := by omega
  have c1 : ¬ ((n : Int) < 0) := by omega
  have c2 : ¬ (281474976710656 < (n : Int) * 8) := by omega
  have c3 : ¬ ((n : Int) ≤ 0) := by omega
  have c4 : ¬ (n = 0) := by omega
  have c5 : ¬ (9223372036854775807 < (a : Int) + (n : Int)) := by omega
  have c6 : ¬ (m + 1 ≤ m) := by omega
  have c7 : max (n : Int) 0 = n := by omega
  simp [Builtin.append_, run_underlying Try.underlying59, run_underlying u3, sizeOf, typeInfo, zeroValue, hi0, hz0, hz1, hz2, asInt, asIntOf, hw, c1, c2, c4, c5, c7, e1, h48, hfo, Question.forced, newRow, grownCap]
  intro hc; omega

theorem wl_app_run {ops : Array Oper} {rest : List Oper} {o : Oper} {a : Act} {Q : Exit → Act → World → Prop} (W W' : World) (hgd : o.guard = none) (s x : Operand) (t1 t2 : TypeId) (v1 v2 v : Value)
    (ho : o.op = .call { callee := .builtin .append, args := #[s, x], argTypes := #[t1, t2] }) (hs : a.eval s = v1) (hx : a.eval x = v2) (hrun : (Builtin.append_ #[t1, t2] o.type #[v1, v2]).run Try.prog W = .ok v W') (h : wpList Try.prog ops Q rest (a.put o.dst v) W') : wpList Try.prog ops Q (o :: rest) a W :=
  wpList_plain hgd fun K hK => by
    unfold Oper.wp execOp
    simp only [ho, resolve, invoke, builtin, Sem.run_bind, Sem.run_pure, Result.andThen_ok, List.map_toArray, List.map_cons, List.map_nil, hs, hx, hrun]
    exact hK _ _ h
theorem wl_copy_run {ops : Array Oper} {rest : List Oper} {o : Oper} {a : Act} {Q : Exit → Act → World → Prop} (W W' : World) (hgd : o.guard = none) (s x : Operand) (t1 t2 : TypeId) (v1 v2 v : Value)
    (ho : o.op = .call { callee := .builtin .copy, args := #[s, x], argTypes := #[t1, t2] }) (hs : a.eval s = v1) (hx : a.eval x = v2) (hrun : (Builtin.copy_ #[t1, t2] o.type #[v1, v2]).run Try.prog W = .ok v W') (h : wpList Try.prog ops Q rest (a.put o.dst v) W') : wpList Try.prog ops Q (o :: rest) a W :=
  wpList_plain hgd fun K hK => by
    unfold Oper.wp execOp
    simp only [ho, resolve, invoke, builtin, Sem.run_bind, Sem.run_pure, Result.andThen_ok, List.map_toArray, List.map_cons, List.map_nil, hs, hx, hrun]
    exact hK _ _ h
theorem step_copy_run {ops : Array Oper} {o : Oper} {a : Act} {K : Act → World → Prop} {Q : Exit → Act → World → Prop} {E : Prop} (W W' : World) (hgd : o.guard = none) (s x : Operand) (t1 t2 : TypeId) (v1 v2 v : Value)
    (ho : o.op = .call { callee := .builtin .copy, args := #[s, x], argTypes := #[t1, t2] }) (hs : a.eval s = v1) (hx : a.eval x = v2) (hrun : (Builtin.copy_ #[t1, t2] o.type #[v1, v2]).run Try.prog W = .ok v W') (h : K (a.put o.dst v) W') : if Region.wanted o (yielded ops a.tmps) = true then Oper.wp Try.prog o a W K Q else E := by
  have hw : Region.wanted o (yielded ops a.tmps) = true := by simp [Region.wanted, hgd]
  rw [if_pos hw]
  unfold Oper.wp execOp
  simp only [ho, resolve, invoke, builtin, Sem.run_bind, Sem.run_pure, Result.andThen_ok, List.map_toArray, List.map_cons, List.map_nil, hs, hx, hrun]
  exact h
/-- what Insert leaves -/
def InsPost (m a : Nat) (ps : Nat → Option Addr) (q : Option Addr) (w : World) (e : Ending) (w' : World) : Prop :=
  ∃ N c, e = .returned (.slice (some ⟨N, 0, none⟩) (m + 1) c) ∧ m + 1 ≤ c ∧ c ≤ maxLen ∧ PRow w' N (m + 1) (insP ps a q) ∧ w.heap.size ≤ N ∧ Below w.heap.size w w'
theorem zeroP_at (n j : Nat) (h : j < n) : (Builtin.zeroCells (Value.pointer none).cells n)[j]? = some (.pointer none) := by
  simp [Builtin.zeroCells, Value.cells, h, Nat.mod_one]

set_option maxRecDepth 20000 in
set_option maxHeartbeats 2000000 in
theorem insert_any (L V m a : Nat) (ps : Nat → Option Addr) (q : Option Addr) (w : World) (h : PRow w L m ps) (hV : w.cell? ⟨V, 0, none⟩ = some (.pointer q)) (hm : m ≤ 10) (ha : a ≤ m) :
    Calls Try.prog 133 #[.slice (some ⟨L, 0, none⟩) m m, .int .i64 a, .slice (some ⟨V, 0, none⟩) 1 1] w (InsPost m a ps q w) := by
  have hL : L < w.heap.size := by obtain ⟨la, h1, _⟩ := h; exact heap_lt h1
  have hVl := block_lt hV
  have hge := grownCap_ge w (m + 1) m 84
  have hle := grownCap_le_maxLen w (m + 1) m 84 (by unfold maxLen; omega)
  rcases Nat.lt_or_ge a m with hlt | hge'
  rotate_left
  · obtain rfl : a = m := by omega
    have happ := appP_grow L V a ps q w h hV hm
    generalize grownCap w (a + 1) a 84 = C at *
    have HROW : Hid (PRow (w.drew.alloc (.cells ((pvs ps a).toArray ++ [Value.pointer q].toArray ++ Builtin.zeroCells (Value.pointer none).cells (C - (a + 1))) 84)) w.heap.size (a + 1) (insP ps a q)) := by
      show PRow _ _ _ _
      refine ⟨_, heap_alloc_new w.drew _, fun j hj => ?_⟩
      rw [Array.getElem?_append_left (by simp [pvs_len]; omega)]
      unfold insP
      by_cases h1 : j < a
      · rw [if_pos h1, Array.getElem?_append_left (by simp [pvs_len]; omega)]
        simpa using pvs_get (ps := ps) h1
      · obtain rfl : j = a := by omega
        rw [if_neg (by omega), if_pos rfl, Array.getElem?_append_right (by simp [pvs_len])]
        simp [pvs_len]
    have hB := (Below.refl w.heap.size w).drew.alloc (Nat.le_refl _) (.cells ((pvs ps a).toArray ++ [Value.pointer q].toArray ++ Builtin.zeroCells (Value.pointer none).cells (C - (a + 1))) 84)
    generalize w.drew.alloc (.cells ((pvs ps a).toArray ++ [Value.pointer q].toArray ++ Builtin.zeroCells (Value.pointer none).cells (C - (a + 1))) 84) = w2 at *
    have v1 : ((a : Int) == (a : Int)) = true := by simp
    have HAPP := Lib.hid happ
    clear h hV happ
    go_enter Try.func133, Try.ntmps133
    go_wp2_with (at_builtin; refine wl_app_run w _ (by rfl) _ _ 59 59 (.slice (some ⟨L, 0, none⟩) a a) (.slice (some ⟨V, 0, none⟩) 1 1) _ (by rfl) (by rfl) (by rfl) (HAPP.out _) ?_)
    go_ret
    exact ⟨w.heap.size, C, rfl, hge, hle, HROW.out, Nat.le_refl _, hB⟩
  have hz := appP_zeros L m a ps w h hlt hm
  generalize grownCap w (m + 1) m 84 = C at *
  have hW1 : PRow (w.drew.alloc (.cells ((pvs ps a).toArray ++ Builtin.zeroCells (Value.pointer none).cells (m + 1 - a) ++ Builtin.zeroCells (Value.pointer none).cells (C - (m + 1))) 84)) w.heap.size (m + 1) (fun j => if j < a then ps j else none) := by
    refine ⟨_, heap_alloc_new w.drew _, fun j hj => ?_⟩
    rw [Array.getElem?_append_left (by simp [pvs_len, Builtin.zeroCells, Value.cells]; omega)]
    by_cases h1 : j < a
    · simp only [if_pos h1]
      rw [Array.getElem?_append_left (by simp [pvs_len]; omega)]
      simpa using pvs_get (ps := ps) h1
    · simp only [if_neg h1]
      rw [Array.getElem?_append_right (by simp [pvs_len]; omega)]
      simp only [List.size_toArray, pvs_len]
      exact zeroP_at _ _ (by omega)
  have hB1 : Below w.heap.size w (w.drew.alloc (.cells ((pvs ps a).toArray ++ Builtin.zeroCells (Value.pointer none).cells (m + 1 - a) ++ Builtin.zeroCells (Value.pointer none).cells (C - (m + 1))) 84)) := (Below.refl _ _).drew.alloc (Nat.le_refl _) _
  have hs1 : (w.drew.alloc (.cells ((pvs ps a).toArray ++ Builtin.zeroCells (Value.pointer none).cells (m + 1 - a) ++ Builtin.zeroCells (Value.pointer none).cells (C - (m + 1))) 84)).heap.size = w.heap.size + 1 := by simp
  generalize hw1 : w.drew.alloc (.cells ((pvs ps a).toArray ++ Builtin.zeroCells (Value.pointer none).cells (m + 1 - a) ++ Builtin.zeroCells (Value.pointer none).cells (C - (m + 1))) 84) = w1 at *
  have hV1 : w1.cell? ⟨V, 0, none⟩ = some (.pointer q) := (hB1.cell (p := ⟨V, 0, none⟩) hVl).trans hV
  have hsz : (Try.prog.info? 84).map (·.size) = some 1 := by kernel_rfl
  have hc1 : ∀ ty, (Builtin.copy_ #[59, 59] ty #[.slice (some ⟨w.heap.size, a, none⟩) (m + 1 - a) (C - a), .slice (some ⟨V, 0, none⟩) 1 1]).run Try.prog w1 = .ok (goInt 1) (w1.setCell ⟨w.heap.size, a, none⟩ (.pointer q)) := fun ty => by
    have := run_copy_cells (P := Try.prog) w1 59 59 ty 84 w.heap.size a (m + 1 - a) (C - a) ⟨V, 0, none⟩ 1 1 [.pointer q] Try.underlying59 hsz (by show 1 = Nat.min 1 (m + 1 - a); exact (Nat.min_eq_left (by omega)).symm) (fun j v hv => by
      have : j = 0 := (by have := (List.getElem?_eq_some_iff.1 hv).1; simp at this; omega)
      subst this; simp at hv; subst hv; rw [add_plain]; exact hV1) (fun j hj => by rw [(hW1.cell (show a + j < m + 1 by simp at hj; omega)).1]; rfl) (fun j hj => (hW1.cell (show a + j < m + 1 by simp at hj; omega)).2) (by simp [Value.oneCell'])
    exact this
  have hW2 := hW1.set (show a < m + 1 by omega) q
  have hk2 : Kept w.heap.size w1 (w1.setCell ⟨w.heap.size, a, none⟩ (.pointer q)) := kept_cell _ _ _ _
  generalize hw2 : w1.setCell ⟨w.heap.size, a, none⟩ (.pointer q) = w2 at *
  have hL2 : PRow w2 L m ps := h.kept ((hk2.block L (by omega)).trans (hB1.block L hL))
  have hc2 : ∀ ty, (Builtin.copy_ #[59, 59] ty #[.slice (some ⟨w.heap.size, a + 1, none⟩) (m + 1 - (a + 1)) (C - (a + 1)), .slice (some ⟨L, a, none⟩) (m - a) (m - a)]).run Try.prog w2.drew = .ok (goInt (m - a : Nat)) (w2.drew.setCells w.heap.size (a + 1) ((List.range (m - a)).map fun j => .pointer (ps (a + j)))) := fun ty => by
    have := run_copy_cells (P := Try.prog) w2.drew 59 59 ty 84 w.heap.size (a + 1) (m + 1 - (a + 1)) (C - (a + 1)) ⟨L, a, none⟩ (m - a) (m - a) ((List.range (m - a)).map fun j => .pointer (ps (a + j))) Try.underlying59 hsz (by simp) (fun j v hv => by
      have hj : j < m - a := (by have := (List.getElem?_eq_some_iff.1 hv).1; simpa using this)
      simp [hj] at hv; subst hv; rw [add_plain]; exact (hL2.cell (show a + j < m by omega)).1) (fun j hj => by have hj' : j < m - a := (by simpa using hj); exact (by rw [show w2.drew.cell? ⟨w.heap.size, a + 1 + j, none⟩ = w2.cell? ⟨w.heap.size, a + 1 + j, none⟩ from rfl, (hW2.cell (show a + 1 + j < m + 1 by omega)).1]; rfl)) (fun j hj => by have hj' : j < m - a := (by simpa using hj); exact (hW2.cell (show a + 1 + j < m + 1 by omega)).2) (fun v hv => by simp at hv; obtain ⟨j, _, rfl⟩ := hv; rfl)
    simpa using this
  obtain ⟨hW3, hk3⟩ := PRow.sets (N := w.heap.size) (m := m + 1) (m - a) (a + 1) w2.drew _ (fun j => ps (a + j)) (show PRow w2.drew w.heap.size (m + 1) _ from hW2.kept rfl) (by omega)
  have HROW : Hid (PRow (w2.drew.setCells w.heap.size (a + 1) ((List.range (m - a)).map fun j => .pointer (ps (a + j)))) w.heap.size (m + 1) (insP ps a q)) := hW3.congr fun j hj => by
    unfold insP
    by_cases h1 : j < a
    · rw [if_neg (by omega), if_neg (by omega), if_pos h1, if_pos h1]
    · by_cases h2 : j = a
      · rw [if_neg (by omega), if_pos h2, if_neg h1, if_pos h2]
      · rw [if_pos (by omega), if_neg h1, if_neg h2, show a + (j - (a + 1)) = j - 1 by omega]
  have HB : Hid (Below w.heap.size w (w2.drew.setCells w.heap.size (a + 1) ((List.range (m - a)).map fun j => .pointer (ps (a + j))))) := (hB1.trans (hk2.below (Nat.le_refl _))).trans (((Below.refl _ w2).drew).trans (hk3.below (Nat.le_refl _)))
  have v1 : ((a : Int) == (m : Int)) = false := by simp; omega
  have HZ := Lib.hid hz
  simp only [show m + 1 - (a + 1) = m - a by omega] at hc2
  have HC2 := Lib.hid hc2
  clear hw1 hw2 hs1 hz hc2 hsz
  clear hW1 hW2 hW3 hk2 hk3 hL2 h hV hV1
  go_enter Try.func133, Try.ntmps133
  go_wp2_with (at_builtin; refine wl_app_run (o := ⟨some 40, _, _, _, _, _⟩) w _ (by rfl) (.tmp 34) (.tmp 39) 59 3 (.slice (some ⟨L, 0, none⟩) a m) (.int .i64 ((m : Int) + 1 - a)) _ (by rfl) (by rfl) (by rfl) (HZ.out _) ?_)
  clear hc1
  have r0 : IntKind.i64.wrap ((a : Int) + 1) = ((a + 1 : Nat) : Int) := by rw [IntKind.wrap_i64]; omega
  have r1 : ((a + 1 : Nat) : Int) ≤ (m : Int) + 1 := by omega
  have r2 : ¬ C = a + 1 := by omega
  have r3 : ¬ m = a := by omega
  have r4 : (a : Int) ≤ (m : Int) := by omega
  have r5 : (0 : Int) ≤ ((a + 1 : Nat) : Int) := by omega
  have r6 : (0 : Int) ≤ (a : Int) + 1 := by omega
  have hc2 := HC2.out
  go_region
  all_goals
    clear hc2
    generalize w2.drew.setCells w.heap.size (a + 1) ((List.range (m - a)).map fun j => .pointer (ps (a + j))) = w3 at *
    go_wp2
    go_ret
    exact ⟨w.heap.size, C, rfl, hge, hle, HROW.out, Nat.le_refl _, HB.out⟩
end Go.Proofs.Ytndjkokipiikpaa
