/- Rows of nodes that a call makes itself, by append. -/
import Derived.Test.YtcbbdhmloniolaaCopyR
import Derived.Deep.RegionHeld3
namespace Go.Proofs.Ytcbbdhmloniolaa
open Go.RowKit
set_option linter.unusedVariables false

/-- the three cells of a node -/
def ndVals (p : Nd × Value) : List Value := [.int .i64 p.1.pos, .int .i64 p.1.bef, p.2]
/-- the cells of a row of nodes -/
def flatL (L : List (Nd × Value)) : List Value := L.flatMap ndVals
theorem flatL_len (L : List (Nd × Value)) : (flatL L).length = L.length * 3 := by
  induction L with
  | nil => rfl
  | cons p L ih => simp [flatL, ndVals] at ih ⊢; omega
theorem flatL_app (L M : List (Nd × Value)) : flatL (L ++ M) = flatL L ++ flatL M := by simp [flatL]
theorem flatL_at {L : List (Nd × Value)} {i : Nat} {p : Nd × Value} (h : L[i]? = some p) : (flatL L)[i * 3]? = some (.int .i64 p.1.pos) ∧ (flatL L)[i * 3 + 1]? = some (.int .i64 p.1.bef) ∧ (flatL L)[i * 3 + 2]? = some p.2 := by
  induction L generalizing i with
  | nil => simp at h
  | cons q L ih =>
    rcases i with _ | i
    · simp at h; subst h; simp [flatL, ndVals]
    · simp at h
      obtain ⟨h1, h2, h3⟩ := ih h
      have e : ∀ d, (flatL (q :: L))[(i + 1) * 3 + d]? = (flatL L)[i * 3 + d]? := fun d => by
        show (ndVals q ++ flatL L)[(i + 1) * 3 + d]? = _
        rw [List.getElem?_append_right (by simp [ndVals]; omega)]
        congr 1; simp [ndVals]; omega
      exact ⟨by have := e 0; rw [Nat.add_zero, Nat.add_zero] at this; rw [this]; exact h1, by rw [e 1]; exact h2, by rw [e 2]; exact h3⟩

/-- a slice of numbers, not in block g -/
def IntsOff (w : World) (g : Nat) (v : Value) (zs : List Int) : Prop :=
  ∃ a c, v = .slice a zs.length c ∧ zs.length ≤ c ∧ c ≤ maxLen ∧ (zs = [] ∨ ∃ b off, a = some ⟨b, off, none⟩ ∧ b ≠ g ∧ b < w.heap.size ∧ ∀ i, i < zs.length → w.cell? ⟨b, off + i, none⟩ = some (.int .i64 (gt zs i)))
theorem IntsOff.toV {w : World} {g : Nat} {v : Value} {zs : List Int} (h : IntsOff w g v zs) : IntsV w v zs := by
  obtain ⟨a, c, hv, h1, h2, h3⟩ := h
  refine ⟨a, c, hv, h1, h2, ?_⟩
  rcases h3 with h3 | ⟨b, off, ha, _, hlt, hc⟩
  · exact .inl h3
  · exact .inr ⟨b, off, ha, hlt, hc⟩
theorem IntsV.off {w : World} {v : Value} {zs : List Int} (h : IntsV w v zs) {g : Nat} (hg : ∀ a l c, v = .slice (some a) l c → a.block ≠ g) : IntsOff w g v zs := by
  obtain ⟨a, c, hv, h1, h2, h3⟩ := h
  refine ⟨a, c, hv, h1, h2, ?_⟩
  rcases h3 with h3 | ⟨b, off, ha, hlt, hc⟩
  · exact .inl h3
  · exact .inr ⟨b, off, ha, hg _ _ _ (by rw [hv, ha]), hlt, hc⟩
/-- whatever lies below the end lies not behind it -/
theorem IntsV.offNew {w : World} {v : Value} {zs : List Int} (h : IntsV w v zs) {g : Nat} (hg : w.heap.size ≤ g) : IntsOff w g v zs := by
  obtain ⟨a, c, hv, h1, h2, h3⟩ := h
  refine ⟨a, c, hv, h1, h2, ?_⟩
  rcases h3 with h3 | ⟨b, off, ha, hlt, hc⟩
  · exact .inl h3
  · exact .inr ⟨b, off, ha, by omega, hlt, hc⟩
theorem IntsOff.grown {w w' : World} {g g' : Nat} {v : Value} {zs : List Int} (h : IntsOff w g v zs) (hg : w.grownBy w' (some g)) (hat : g' = g ∨ g' = w.heap.size) : IntsOff w' g' v zs := by
  obtain ⟨a, c, hv, h1, h2, h3⟩ := h
  refine ⟨a, c, hv, h1, h2, ?_⟩
  rcases h3 with h3 | ⟨b, off, ha, hne, hlt, hc⟩
  · exact .inl h3
  · refine .inr ⟨b, off, ha, by omega, Nat.lt_of_lt_of_le hlt hg.size, fun i hi => ?_⟩
    rw [World.cell?_of_block (w := w) (hg.block b hlt (by intro e; injection e with e; exact hne e)), hc i hi]
theorem IntsOff.keepB {w w' : World} {g B : Nat} {v : Value} {zs : List Int} (h : IntsOff w g v zs) (hb : Below B w w') (hB : w.heap.size ≤ B) : IntsOff w' g v zs := by
  obtain ⟨a, c, hv, h1, h2, h3⟩ := h
  refine ⟨a, c, hv, h1, h2, ?_⟩
  rcases h3 with h3 | ⟨b, off, ha, hne, hlt, hc⟩
  · exact .inl h3
  · exact .inr ⟨b, off, ha, hne, Nat.lt_of_lt_of_le hlt hb.size, fun i hi => (hb.cell (p := ⟨b, off + i, none⟩) (Nat.lt_of_lt_of_le hlt hB)).trans (hc i hi)⟩
theorem IntsV.one {w : World} {v : Value} {zs : List Int} (h : IntsV w v zs) : v.oneCell' = true := by obtain ⟨a, c, rfl, _⟩ := h; rfl
theorem IntsOff.one {w : World} {g : Nat} {v : Value} {zs : List Int} (h : IntsOff w g v zs) : v.oneCell' = true := h.toV.one

/-- A row of nodes in block g, from block base on, the successors of each elsewhere. -/
def RowL (w : World) (base g cap : Nat) (L : List (Nd × Value)) : Prop :=
  w.ownsRow base 28 3 (.slice (some ⟨g, 0, none⟩) L.length cap) L.length (flatL L) ∧ ∀ p ∈ L, IntsOff w g p.2 p.1.aft
theorem RowL.blk {w : World} {base g cap : Nat} {L : List (Nd × Value)} (h : RowL w base g cap L) :
    base ≤ g ∧ g < w.heap.size ∧ ∃ cs, w.heap[g]? = some (.cells cs 28 (0, 0)) ∧ L.length ≤ cap ∧ cap ≤ maxLen ∧ cs.size = cap * 3 ∧ ∀ (j : Nat) (u : Value), (flatL L)[j]? = some u → cs[j]? = some u := by
  rcases h.1.2 with ⟨hn, _⟩ | ⟨g', cap', cur, hv, hb, hg, hnc, hcm, hs, ht⟩
  · cases hn
  · injection hv with hv _ hc; injection hv with hv; injection hv with hv; subst hv hc
    refine ⟨hb, heap_lt hg, cur, hg, hnc, hcm, hs, fun j u hj => ?_⟩
    rw [← ht, List.getElem?_take] at hj
    split at hj
    · simpa using hj
    · cases hj
theorem RowL.cells {w : World} {base g cap : Nat} {L : List (Nd × Value)} (h : RowL w base g cap L) {i : Nat} {p : Nd × Value} (hp : L[i]? = some p) :
    w.cell? ⟨g, i * 3, none⟩ = some (.int .i64 p.1.pos) ∧ w.cell? ⟨g, i * 3 + 1, none⟩ = some (.int .i64 p.1.bef) ∧ w.cell? ⟨g, i * 3 + 2, none⟩ = some p.2 := by
  obtain ⟨_, _, cs, hb, _, _, _, hc⟩ := h.blk
  obtain ⟨h1, h2, h3⟩ := flatL_at hp
  exact ⟨by rw [cell_of_cells hb]; exact hc _ _ h1, by rw [cell_of_cells hb]; exact hc _ _ h2, by rw [cell_of_cells hb]; exact hc _ _ h3⟩
theorem RowL.ring {w : World} {base g cap : Nat} {L : List (Nd × Value)} (h : RowL w base g cap L) : RingAt w (some ⟨g, 0, none⟩) (L.map (·.1)) := by
  refine .inr ⟨g, 0, rfl, h.blk.2.1, fun i hi => ?_⟩
  have hi' : i < L.length := by simpa using hi
  have hp : L[i]? = some L[i] := List.getElem?_eq_getElem hi'
  obtain ⟨h1, h2, h3⟩ := h.cells hp
  have e : gn (L.map (·.1)) i = L[i].1 := by rw [gn_get hi]; simp
  rw [e, Nat.zero_add]
  exact ⟨h1, h2, _, h3, (h.2 _ (List.getElem_mem hi')).toV⟩
theorem RowL.keepB {w w' : World} {base g cap B : Nat} {L : List (Nd × Value)} (h : RowL w base g cap L) (hb : Below B w w') (hB : w.heap.size ≤ B) : RowL w' base g cap L := by
  refine ⟨⟨h.1.1, ?_⟩, fun p hp => (h.2 p hp).keepB hb hB⟩
  rcases h.1.2 with hn | ⟨g', cap', cur, hv, hbg, hg, rest⟩
  · exact .inl hn
  · exact .inr ⟨g', cap', cur, hv, hbg, (hb.block g' (by have := heap_lt hg; omega)).trans hg, rest⟩
theorem rowL_new (w : World) (cs : Array Value) (hcs : cs = #[]) : RowL (w.alloc (.cells cs 28)) w.heap.size w.heap.size 0 [] := by
  subst hcs
  exact ⟨⟨by simp [flatL], .inr ⟨w.heap.size, 0, #[], rfl, Nat.le_refl _, heap_alloc_new w _, Nat.zero_le _, by unfold maxLen; omega, rfl, by simp [flatL]⟩⟩, fun p hp => by cases hp⟩

/-- append of nodes onto a row of the call's own -/
theorem wl_appN {ops : Array Oper} {rest : List Oper} {o : Oper} {a : Act} {Q : Exit → Act → World → Prop} (W : World) (hgd : o.guard = none) (s x : Operand)
    (ho : o.op = .call { callee := .builtin .append, args := #[s, x], argTypes := #[23, 23] })
    (base g n cap : Nat) (L M : List (Nd × Value)) (hs : a.eval s = .slice (some ⟨g, 0, none⟩) n cap) (hown : RowL W base g cap L) (hn : L.length = n)
    (ad : Addr) (m c : Nat) (hx : a.eval x = .slice (some ad) m c) (hl : M.length = m) (hnews : ∀ j u, (flatL M)[j]? = some u → W.cell? (ad.add j) = some u)
    (hM : ∀ p ∈ M, IntsOff W g p.2 p.1.aft) (r : Nat) (hr : n + m = r) (hb : r ≤ 1000000) (hbase : base ≤ W.heap.size)
    (h : ∀ g' cap' w', RowL w' base g' cap' (L ++ M) → W.grownBy w' (some g) → (g' = g ∨ g' = W.heap.size) → wpList Try.prog ops Q rest (a.put o.dst (.slice (some ⟨g', 0, none⟩) r cap')) w') :
    wpList Try.prog ops Q (o :: rest) a W := by
  subst hr hn hl
  obtain ⟨i0, hi0, hz0, hz1, hz2⟩ := info_parts Try.infoNode
  have h1 : ∀ u ∈ flatL M, u.oneCell' = true := by
    intro u hu
    obtain ⟨p, hp, hu⟩ := List.mem_flatMap.1 hu
    simp only [ndVals, List.mem_cons, List.not_mem_nil, or_false] at hu
    rcases hu with rfl | rfl | rfl
    · rfl
    · rfl
    · exact (hM p hp).one
  refine wpList_append_own_at (P := Try.prog) W hgd s x _ ho base 28 i0 _ 3 40 Try.underlying23 hi0 hz0 hz1 hz2 rfl (by omega) _ L.length (flatL L) hs hown.1 ad M.length c (flatL M) hx (flatL_len M) hnews h1 (by unfold maxLen; omega) (by omega) hbase ?_
  intro v' w' ho1 hg1 hnone hat
  have hv : ∃ g' cap', v' = .slice (some ⟨g', 0, none⟩) (L.length + M.length) cap' := by
    rcases ho1.2 with ⟨hn, _⟩ | ⟨g', cap', _, hv, _⟩
    · have := (hnone.1 hn).1; cases this
    · exact ⟨g', cap', hv⟩
  obtain ⟨g', cap', rfl⟩ := hv
  have hat' : g' = g ∨ g' = W.heap.size := by simpa [Value.ownBlock] using hat
  refine h g' cap' w' ⟨by rw [List.length_append, flatL_app]; exact ho1, fun p hp => ?_⟩ hg1 hat'
  rcases List.mem_append.1 hp with hp | hp
  · exact (hown.2 p hp).grown hg1 hat'
  · exact (hM p hp).grown hg1 hat'

/-- .. as one step of a region that draws its order -/
theorem step_appN {ops : Array Oper} {o : Oper} {a : Act} {K : Act → World → Prop} {Q : Exit → Act → World → Prop} {E : Prop} (W : World) (hgd : o.guard = none) (s x : Operand)
    (ho : o.op = .call { callee := .builtin .append, args := #[s, x], argTypes := #[23, 23] })
    (base g n cap : Nat) (L M : List (Nd × Value)) (hs : a.eval s = .slice (some ⟨g, 0, none⟩) n cap) (hown : RowL W base g cap L) (hn : L.length = n)
    (ad : Addr) (m c : Nat) (hx : a.eval x = .slice (some ad) m c) (hl : M.length = m) (hnews : ∀ j u, (flatL M)[j]? = some u → W.cell? (ad.add j) = some u)
    (hM : ∀ p ∈ M, IntsOff W g p.2 p.1.aft) (r : Nat) (hr : n + m = r) (hb : r ≤ 1000000) (hbase : base ≤ W.heap.size)
    (h : ∀ g' cap' w', RowL w' base g' cap' (L ++ M) → W.grownBy w' (some g) → (g' = g ∨ g' = W.heap.size) → K (a.put o.dst (.slice (some ⟨g', 0, none⟩) r cap')) w') :
    if Region.wanted o (yielded ops a.tmps) = true then Oper.wp Try.prog o a W K Q else E := by
  have hw : Region.wanted o (yielded ops a.tmps) = true := by simp [Region.wanted, hgd]
  rw [if_pos hw]
  subst hr hn hl
  obtain ⟨i0, hi0, hz0, hz1, hz2⟩ := info_parts Try.infoNode
  have h1 : ∀ u ∈ flatL M, u.oneCell' = true := by
    intro u hu
    obtain ⟨p, hp, hu⟩ := List.mem_flatMap.1 hu
    simp only [ndVals, List.mem_cons, List.not_mem_nil, or_false] at hu
    rcases hu with rfl | rfl | rfl
    · rfl
    · rfl
    · exact (hM p hp).one
  obtain ⟨v', w', hrun, ho1, hg1, hnone, hat⟩ := run_append_own_at (P := Try.prog) W base 23 o.type 28 i0 _ 3 40 Try.underlying23 hi0 hz0 hz1 hz2 rfl (by omega) _ L.length (flatL L) hown.1 ad M.length c (flatL M) (flatL_len M) hnews h1 (by unfold maxLen; omega) (by omega) hbase
  have hv : ∃ g' cap', v' = .slice (some ⟨g', 0, none⟩) (L.length + M.length) cap' := by
    rcases ho1.2 with ⟨hn, _⟩ | ⟨g', cap', _, hv, _⟩
    · have := (hnone.1 hn).1; cases this
    · exact ⟨g', cap', hv⟩
  obtain ⟨g', cap', rfl⟩ := hv
  have hat' : g' = g ∨ g' = W.heap.size := by simpa [Value.ownBlock] using hat
  unfold Oper.wp execOp
  simp only [ho, resolve, invoke, builtin, Sem.run_bind, Sem.run_pure, Result.andThen_ok, List.map_toArray, List.map_cons, List.map_nil, hs, hx, hrun]
  refine h g' cap' w' ⟨by rw [List.length_append, flatL_app]; exact ho1, fun p hp => ?_⟩ hg1 hat'
  rcases List.mem_append.1 hp with hp | hp
  · exact (hown.2 p hp).grown hg1 hat'
  · exact (hM p hp).grown hg1 hat'

/-- one node in a new block -/
theorem srcN_one {W : World} {N : Nat} {p : Nd × Value} (h : W.heap[N]? = some (.cells #[.int .i64 p.1.pos, .int .i64 p.1.bef, p.2] 28 (0, 0))) :
    ∀ j u, (flatL [p])[j]? = some u → W.cell? ((⟨N, 0, none⟩ : Addr).add j) = some u := by
  intro j u hu
  rw [add_plain, Nat.zero_add, cell_of_cells h]
  have e : flatL [p] = [.int .i64 p.1.pos, .int .i64 p.1.bef, p.2] := by simp [flatL, ndVals]
  rw [e] at hu
  simpa using hu

/-- a new ring; it reads as r -/
def NewRing (r : List Nd) (w : World) (e : Ending) (w' : World) : Prop :=
  ∃ g cap, e = .returned (.slice (some ⟨g, 0, none⟩) r.length cap) ∧ RingAt w' (some ⟨g, 0, none⟩) r ∧ r.length ≤ cap ∧ cap ≤ maxLen ∧ Below w.heap.size w w'
/-- at the head of a loop that appends nodes -/
def RowSoFar (L : List (Nd × Value)) (w : World) (v : Value) (wr : World) : Prop :=
  ∃ g cap, v = .slice (some ⟨g, 0, none⟩) L.length cap ∧ RowL wr w.heap.size g cap L ∧ Below w.heap.size w wr
theorem rowfar_new (w : World) (cs : Array Value) (hcs : cs = #[]) : RowSoFar [] w (.slice (some ⟨w.heap.size, 0, none⟩) 0 0) (w.alloc (.cells cs 28)) :=
  ⟨w.heap.size, 0, rfl, rowL_new w cs hcs, (Below.refl _ _).alloc (Nat.le_refl _) _⟩
theorem new_of_row {L : List (Nd × Value)} {w wr : World} {v : Value} (h : RowSoFar L w v wr) {r : List Nd} (hr : L.map (·.1) = r) : NewRing r w (.returned v) wr := by
  obtain ⟨g, cap, rfl, ho, hb⟩ := h
  subst hr
  obtain ⟨_, _, _, _, h1, h2, _⟩ := ho.blk
  exact ⟨g, cap, by rw [List.length_map], ho.ring, by rw [List.length_map]; exact h1, h2, hb⟩
theorem rowfar_next {L : List (Nd × Value)} {p : Nd × Value} {w wr w2 w3 : World} {g g' cap' : Nat} (hb : Below w.heap.size w wr) (hb2 : Below wr.heap.size wr w2) (hg : w2.grownBy w3 (some g)) (hgb : w.heap.size ≤ g)
    (ho : RowL w3 w.heap.size g' cap' (L ++ [p])) : RowSoFar (L ++ [p]) w (.slice (some ⟨g', 0, none⟩) (L.length + 1) cap') w3 := by
  have h1 : Below w.heap.size w w2 := hb.trans (hb2.mono hb.size)
  exact ⟨g', cap', by rw [List.length_append]; rfl, ho, h1.grown hg h1.size (fun k hk => by injection hk with hk; omega)⟩
end Go.Proofs.Ytcbbdhmloniolaa
