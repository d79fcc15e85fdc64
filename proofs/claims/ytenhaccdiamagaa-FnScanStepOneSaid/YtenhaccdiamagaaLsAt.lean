/- Leases in memory. -/
import Derived.Test.YtenhaccdiamagaaLsMath
import Derived.Test.YtenhaccdiamagaaRowsI
import Derived.Handy
namespace Go.Proofs.Ytenhaccdiamagaa
open Go.RowKit
set_option linter.unusedVariables false

/-- three cells that read as a lease -/
def LsCell (w : World) (b o : Nat) (x : Ls) : Prop :=
  w.cell? ⟨b, o, none⟩ = some (.int .i64 x.e) ∧ w.cell? ⟨b, o + 1, none⟩ = some (.int .i64 x.o) ∧ w.cell? ⟨b, o + 2, none⟩ = some (.int .i64 x.u)
/-- a slice at address a reads as the leases L -/
def LsAt (w : World) (a : Option Addr) (L : List Ls) : Prop :=
  L = [] ∨ ∃ b off, a = some ⟨b, off, none⟩ ∧ b < w.heap.size ∧ ∀ i, i < L.length → LsCell w b (off + i * 3) (gl L i)
theorem LsAt.at_ {w : World} {a : Option Addr} {L : List Ls} (h : LsAt w a L) {i : Nat} (hi : i < L.length) : ∃ b off, a = some ⟨b, off, none⟩ ∧ b < w.heap.size ∧ ∀ j, j < L.length → LsCell w b (off + j * 3) (gl L j) := by
  rcases h with h | h
  · subst h; simp at hi
  · exact h
theorem LsAt.keepB {w w' : World} {B : Nat} {a : Option Addr} {L : List Ls} (h : LsAt w a L) (hb : Below B w w') (hB : w.heap.size ≤ B) : LsAt w' a L := by
  rcases h with h0 | ⟨b, off, ha, hlt, hc⟩
  · exact .inl h0
  · have hk : ∀ o, w'.cell? ⟨b, o, none⟩ = w.cell? ⟨b, o, none⟩ := fun o => hb.cell (p := ⟨b, o, none⟩) (Nat.lt_of_lt_of_le hlt hB)
    refine .inr ⟨b, off, ha, Nat.lt_of_lt_of_le hlt hb.size, fun i hi => ?_⟩
    obtain ⟨h1, h2, h3⟩ := hc i hi
    exact ⟨(hk _).trans h1, (hk _).trans h2, (hk _).trans h3⟩
theorem LsAt.same {w w' : World} {a : Option Addr} {L : List Ls} (h : LsAt w a L) (hs : Same w w') : LsAt w' a L := h.keepB (hs.below _) (Nat.le_refl _)
theorem LsAt.blk {w w' : World} {g : Nat} {L : List Ls} (h : LsAt w (some ⟨g, 0, none⟩) L) (e : w'.heap[g]? = w.heap[g]?) : LsAt w' (some ⟨g, 0, none⟩) L := by
  rcases h with h0 | ⟨b, off, ha, hlt, hc⟩
  · exact .inl h0
  · injection ha with ha; injection ha with ha ho; subst ha ho
    have hk : ∀ o, w'.cell? ⟨g, o, none⟩ = w.cell? ⟨g, o, none⟩ := fun o => World.cell?_of_block (w := w) e
    refine .inr ⟨g, 0, rfl, ?_, fun i hi => ?_⟩
    · rw [Array.getElem?_eq_getElem hlt] at e
      exact heap_lt e
    · obtain ⟨h1, h2, h3⟩ := hc i hi
      exact ⟨(hk _).trans h1, (hk _).trans h2, (hk _).trans h3⟩

/-- a lease as a value -/
def lsV (x : Ls) : Value := .agg #[.int .i64 x.e, .int .i64 x.o, .int .i64 x.u]
/-- the three cells of a lease -/
def lsC (x : Ls) : List Value := [.int .i64 x.e, .int .i64 x.o, .int .i64 x.u]
/-- the cells of a row of leases -/
def flat (L : List Ls) : List Value := L.flatMap lsC
theorem flat_len (L : List Ls) : (flat L).length = L.length * 3 := by
  induction L with
  | nil => rfl
  | cons p L ih => simp [flat, lsC] at ih ⊢; omega
theorem flat_app (L M : List Ls) : flat (L ++ M) = flat L ++ flat M := by simp [flat]
theorem flat_at {L : List Ls} {i : Nat} (h : i < L.length) : (flat L)[i * 3]? = some (.int .i64 (gl L i).e) ∧ (flat L)[i * 3 + 1]? = some (.int .i64 (gl L i).o) ∧ (flat L)[i * 3 + 2]? = some (.int .i64 (gl L i).u) := by
  induction L generalizing i with
  | nil => simp at h
  | cons q L ih =>
    rcases i with _ | i
    · simp [flat, lsC, gl]
    · have h' : i < L.length := by simpa using h
      obtain ⟨h1, h2, h3⟩ := ih h'
      have eg : gl (q :: L) (i + 1) = gl L i := by simp [gl]
      have e : ∀ d, (flat (q :: L))[(i + 1) * 3 + d]? = (flat L)[i * 3 + d]? := fun d => by
        show (lsC q ++ flat L)[(i + 1) * 3 + d]? = _
        rw [List.getElem?_append_right (by simp [lsC]; omega)]
        congr 1; simp [lsC]; omega
      rw [eg]
      exact ⟨by have := e 0; rw [Nat.add_zero, Nat.add_zero] at this; rw [this]; exact h1, by rw [e 1]; exact h2, by rw [e 2]; exact h3⟩
theorem flat_one (L : List Ls) : ∀ u ∈ flat L, u.oneCell' = true := by
  intro u hu
  obtain ⟨p, hp, hu⟩ := List.mem_flatMap.1 hu
  simp only [lsC, List.mem_cons, List.not_mem_nil, or_false] at hu
  rcases hu with rfl | rfl | rfl <;> rfl

/-- leases in a block of the call's own, from block base on -/
def OwnS (w : World) (base g cap : Nat) (L : List Ls) : Prop :=
  w.ownsRow base 36 3 (.slice (some ⟨g, 0, none⟩) L.length cap) L.length (flat L)
theorem OwnS.blk {w : World} {base g cap : Nat} {L : List Ls} (h : OwnS w base g cap L) :
    base ≤ g ∧ g < w.heap.size ∧ ∃ cs, w.heap[g]? = some (.cells cs 36 (0, 0)) ∧ L.length ≤ cap ∧ cap ≤ maxLen ∧ cs.size = cap * 3 ∧ ∀ (j : Nat) (u : Value), (flat L)[j]? = some u → cs[j]? = some u := by
  rcases h.2 with ⟨hn, _⟩ | ⟨g', cap', cur, hv, hb, hg, hnc, hcm, hs, ht⟩
  · cases hn
  · injection hv with hv _ hc; injection hv with hv; injection hv with hv; subst hv hc
    refine ⟨hb, heap_lt hg, cur, hg, hnc, hcm, hs, fun j u hj => ?_⟩
    rw [← ht, List.getElem?_take] at hj
    split at hj
    · simpa using hj
    · cases hj
theorem OwnS.cells {w : World} {base g cap : Nat} {L : List Ls} (h : OwnS w base g cap L) {i : Nat} (hi : i < L.length) : LsCell w g (i * 3) (gl L i) := by
  obtain ⟨_, _, cs, hb, _, _, _, hc⟩ := h.blk
  obtain ⟨h1, h2, h3⟩ := flat_at hi
  exact ⟨by rw [cell_of_cells hb]; exact hc _ _ h1, by rw [cell_of_cells hb]; exact hc _ _ h2, by rw [cell_of_cells hb]; exact hc _ _ h3⟩
theorem OwnS.ls {w : World} {base g cap : Nat} {L : List Ls} (h : OwnS w base g cap L) : LsAt w (some ⟨g, 0, none⟩) L :=
  .inr ⟨g, 0, rfl, h.blk.2.1, fun i hi => by rw [Nat.zero_add]; exact h.cells hi⟩
theorem OwnS.kept {w w' : World} {base g cap : Nat} {L : List Ls} (h : OwnS w base g cap L) (hk : w'.heap[g]? = w.heap[g]?) : OwnS w' base g cap L := by
  refine ⟨h.1, ?_⟩
  rcases h.2 with hn | ⟨g', cap', cur, hv, hbg, hg, rest⟩
  · exact .inl hn
  · have hv' := hv
    injection hv with hv _ _; injection hv with hv; injection hv with hv; subst hv
    exact .inr ⟨g, cap', cur, hv', hbg, hk.trans hg, rest⟩
theorem OwnS.keepB {w w' : World} {base g cap B : Nat} {L : List Ls} (h : OwnS w base g cap L) (hb : Below B w w') (hB : w.heap.size ≤ B) : OwnS w' base g cap L :=
  h.kept (hb.block g (by have := h.blk.2.1; omega))
theorem OwnS.less {w : World} {base base' g cap : Nat} {L : List Ls} (h : OwnS w base g cap L) (hb : base' ≤ base) : OwnS w base' g cap L := by
  refine ⟨h.1, ?_⟩
  rcases h.2 with hn | ⟨g', cap', cur, hv, hbg, rest⟩
  · exact .inl hn
  · exact .inr ⟨g', cap', cur, hv, by omega, rest⟩
/-- out of a block's cells -/
theorem own_mk {w : World} {base g cap : Nat} {cs : Array Value} {L : List Ls} (hb : w.heap[g]? = some (.cells cs 36 (0, 0))) (hg : base ≤ g) (hn : L.length ≤ cap) (hm : cap ≤ maxLen) (hs : cs.size = cap * 3)
    (hc : ∀ (j : Nat) (u : Value), (flat L)[j]? = some u → cs[j]? = some u) : OwnS w base g cap L := by
  refine ⟨by rw [flat_len], .inr ⟨g, cap, cs, rfl, hg, hb, hn, hm, hs, ?_⟩⟩
  apply List.ext_getElem?
  intro i
  rcases Nat.lt_or_ge i (L.length * 3) with h' | h'
  · have hi : i < (flat L).length := by rw [flat_len]; exact h'
    rw [List.getElem?_take_of_lt h', Array.getElem?_toList, List.getElem?_eq_getElem hi]
    exact hc i _ (List.getElem?_eq_getElem hi)
  · rw [List.getElem?_eq_none (by simp; omega), List.getElem?_eq_none (by rw [flat_len]; exact h')]
/-- writing one of the three numbers -/
theorem flat_set {L : List Ls} {k d : Nat} {x : Ls} {v : Value} (hd : d < 3) (hk : k < L.length) (hv : v = (lsC x)[d]?.getD v) (hx : ∀ d', d' < 3 → d' ≠ d → (lsC x)[d']? = (lsC (gl L k))[d']?) :
    ∀ (j : Nat) (u : Value), (flat (L.set k x))[j]? = some u → ((flat L).set (k * 3 + d) v)[j]? = some u := by
  have key : flat (L.set k x) = (flat L).set (k * 3 + d) v := by
    apply List.ext_getElem?
    intro j
    rcases Nat.lt_or_ge j (L.length * 3) with hj | hj
    · have hjl : j / 3 < L.length := by omega
      have ej : j = j / 3 * 3 + j % 3 := by omega
      have h1 := flat_at (L := L.set k x) (i := j / 3) (by rw [List.length_set]; exact hjl)
      have h2 := flat_at hjl
      rw [List.getElem?_set]
      by_cases he : k * 3 + d = j
      · rw [if_pos he, if_pos (by rw [flat_len]; omega)]
        have e1 : j / 3 = k := by omega
        rw [e1, gl_set_eq _ hk] at h1
        have e2 : j = k * 3 + d := he.symm
        have hd' : d = 0 ∨ d = 1 ∨ d = 2 := by omega
        rcases hd' with rfl | rfl | rfl
        · rw [e2, Nat.add_zero, h1.1, hv]; rfl
        · rw [e2, h1.2.1, hv]; rfl
        · rw [e2, h1.2.2, hv]; rfl
      · rw [if_neg he]
        by_cases hk' : k = j / 3
        · have hx' := hx (j % 3) (by omega) (by omega)
          rw [← hk', gl_set_eq _ hk] at h1
          rw [← hk'] at h2
          rw [show j = k * 3 + j % 3 by omega]
          have hm : j % 3 = 0 ∨ j % 3 = 1 ∨ j % 3 = 2 := by omega
          rcases hm with hm | hm | hm <;> rw [hm] at hx' ⊢ <;> simp only [lsC, List.getElem?_cons_zero, List.getElem?_cons_succ, Option.some.injEq] at hx'
          · rw [Nat.add_zero, h1.1, h2.1, hx']
          · rw [h1.2.1, h2.2.1, hx']
          · rw [h1.2.2, h2.2.2, hx']
        · rw [gl_set_ne _ hk'] at h1
          rw [ej]
          have hm : j % 3 = 0 ∨ j % 3 = 1 ∨ j % 3 = 2 := by omega
          rcases hm with hm | hm | hm <;> rw [hm]
          · rw [Nat.add_zero, h1.1, h2.1]
          · rw [h1.2.1, h2.2.1]
          · rw [h1.2.2, h2.2.2]
    · rw [List.getElem?_eq_none (by rw [flat_len, List.length_set]; exact hj), List.getElem?_eq_none (by rw [List.length_set, flat_len]; exact hj)]
  intro j u hu
  rw [← key]; exact hu
theorem OwnS.setCell {w : World} {base g cap : Nat} {L : List Ls} (h : OwnS w base g cap L) {k d : Nat} {x : Ls} {v : Value} (hd : d < 3) (hk : k < L.length) (hv : v = (lsC x)[d]?.getD v) (hx : ∀ d', d' < 3 → d' ≠ d → (lsC x)[d']? = (lsC (gl L k))[d']?) :
    OwnS (w.setCell ⟨g, k * 3 + d, none⟩ v) base g cap (L.set k x) := by
  obtain ⟨h1, h2, cs, h3, h4, h5, h6, h7⟩ := h.blk
  refine own_mk (heap_set _ _ _ _ h3) h1 (by rw [List.length_set]; exact h4) h5 (by simpa using h6) fun j u hu => ?_
  have hu' := flat_set hd hk hv hx j u hu
  rw [List.getElem?_set] at hu'
  by_cases he : k * 3 + d = j
  · rw [if_pos he] at hu'
    split at hu'
    · rw [← he, Array.getElem?_setIfInBounds_self_of_lt (by omega)]; exact hu'
    · cases hu'
  · rw [if_neg he] at hu'
    rw [Array.getElem?_setIfInBounds_ne he]; exact h7 j u hu'
theorem OwnS.setE {w : World} {base g cap : Nat} {L : List Ls} (h : OwnS w base g cap L) {k : Nat} (hk : k < L.length) (n : Int) : OwnS (w.setCell ⟨g, k * 3, none⟩ (.int .i64 n)) base g cap (L.set k ⟨n, (gl L k).o, (gl L k).u⟩) :=
  h.setCell (d := 0) (by omega) hk rfl (fun d' h1 h2 => by have : d' = 1 ∨ d' = 2 := (by omega); rcases this with rfl | rfl <;> rfl)
theorem OwnS.setO {w : World} {base g cap : Nat} {L : List Ls} (h : OwnS w base g cap L) {k : Nat} (hk : k < L.length) (n : Int) : OwnS (w.setCell ⟨g, k * 3 + 1, none⟩ (.int .i64 n)) base g cap (L.set k ⟨(gl L k).e, n, (gl L k).u⟩) :=
  h.setCell (d := 1) (by omega) hk rfl (fun d' h1 h2 => by have : d' = 0 ∨ d' = 2 := (by omega); rcases this with rfl | rfl <;> rfl)
theorem OwnS.setU {w : World} {base g cap : Nat} {L : List Ls} (h : OwnS w base g cap L) {k : Nat} (hk : k < L.length) (n : Int) : OwnS (w.setCell ⟨g, k * 3 + 2, none⟩ (.int .i64 n)) base g cap (L.set k ⟨(gl L k).e, (gl L k).o, n⟩) :=
  h.setCell (d := 2) (by omega) hk rfl (fun d' h1 h2 => by have : d' = 0 ∨ d' = 1 := (by omega); rcases this with rfl | rfl <;> rfl)
theorem set_set {L : List Ls} {k : Nat} (x y : Ls) : (L.set k x).set k y = L.set k y := by simp
/-- all three -/
theorem OwnS.setAll {w : World} {base g cap : Nat} {L : List Ls} (h : OwnS w base g cap L) {k : Nat} (hk : k < L.length) (x : Ls) :
    OwnS (((w.setCell ⟨g, k * 3, none⟩ (.int .i64 x.e)).setCell ⟨g, k * 3 + 1, none⟩ (.int .i64 x.o)).setCell ⟨g, k * 3 + 2, none⟩ (.int .i64 x.u)) base g cap (L.set k x) := by
  have h1 := h.setE hk x.e
  have h2 := h1.setO (by rw [List.length_set]; exact hk) x.o
  rw [gl_set_eq _ hk, set_set] at h2
  have h3 := h2.setU (by rw [List.length_set]; exact hk) x.u
  rw [gl_set_eq _ hk, set_set] at h3
  exact h3

/-- leases in a new row of the call's own -/
def NewL (L : List Ls) (w : World) (e : Ending) (w' : World) : Prop :=
  ∃ g cap, e = .returned (.slice (some ⟨g, 0, none⟩) L.length cap) ∧ OwnS w' w.heap.size g cap L ∧ Below w.heap.size w w'
/-- .. at the head of a loop -/
def LsFar (L : List Ls) (w : World) (v : Value) (wr : World) : Prop :=
  ∃ g cap, v = .slice (some ⟨g, 0, none⟩) L.length cap ∧ OwnS wr w.heap.size g cap L ∧ Below w.heap.size w wr
theorem own_none (w : World) (cs : Array Value) (hcs : cs = #[]) : OwnS (w.alloc (.cells cs 36)) w.heap.size w.heap.size 0 [] := by
  subst hcs
  exact own_mk (heap_alloc_new w _) (Nat.le_refl _) (Nat.zero_le _) (by unfold maxLen; omega) rfl (fun j u h => by simp [flat] at h)
theorem lsfar_new (w : World) (cs : Array Value) (hcs : cs = #[]) : LsFar [] w (.slice (some ⟨w.heap.size, 0, none⟩) 0 0) (w.alloc (.cells cs 36)) :=
  ⟨w.heap.size, 0, rfl, own_none w cs hcs, (Below.refl _ _).alloc (Nat.le_refl _) _⟩
theorem newL_of {L : List Ls} {w wr : World} {v : Value} (h : LsFar L w v wr) : NewL L w (.returned v) wr := by
  obtain ⟨g, cap, rfl, ho, hb⟩ := h; exact ⟨g, cap, rfl, ho, hb⟩
theorem newL_mono {L : List Ls} {w w1 w2 : World} {e : Ending} (h : NewL L w1 e w2) (hb : Below w.heap.size w w1) : NewL L w e w2 := by
  obtain ⟨g, cap, he, ho, hb2⟩ := h
  exact ⟨g, cap, he, ho.less hb.size, hb.trans (hb2.mono hb.size)⟩
theorem OwnS.grow {w w1 w2 : World} {base g g' cap' : Nat} {L : List Ls} (hg : w1.grownBy w2 (some g)) (hb : Below w.heap.size w w1) (hbase : w.heap.size ≤ g) : Below w.heap.size w w2 :=
  hb.grown hg hb.size (fun k hk => by injection hk with hk; omega)

theorem Try.infoLease : (Try.prog.info? 36).map (fun i => (i.zero, i.size, i.bytes)) = some (some (.agg #[.int .i64 0, .int .i64 0, .int .i64 0]), 3, 24) := by kernel_rfl

/-- append onto a row of the call's own -/
theorem run_appL (W : World) (ty : TypeId) (base g cap : Nat) (L M : List Ls) (hown : OwnS W base g cap L) (ad : Addr) (c : Nat) (hnews : ∀ (j : Nat) (u : Value), (flat M)[j]? = some u → W.cell? (ad.add j) = some u)
    (hb : L.length + M.length ≤ 1000000) (hbase : base ≤ W.heap.size) :
    ∃ g' cap' w', (Builtin.append_ #[23, 23] ty #[.slice (some ⟨g, 0, none⟩) L.length cap, .slice (some ad) M.length c]).run Try.prog W = .ok (.slice (some ⟨g', 0, none⟩) (L.length + M.length) cap') w' ∧
      OwnS w' base g' cap' (L ++ M) ∧ W.grownBy w' (some g) ∧ (g' = g ∨ g' = W.heap.size) := by
  obtain ⟨i0, hi0, hz0, hz1, hz2⟩ := info_parts Try.infoLease
  obtain ⟨v', w', hrun, ho1, hg1, hnone, hat⟩ := run_append_own_at (P := Try.prog) W base 23 ty 36 i0 _ 3 24 Try.underlying23 hi0 hz0 hz1 hz2 rfl (by omega) _ L.length (flat L) hown ad M.length c (flat M) (flat_len M) hnews (flat_one M) (by unfold maxLen; omega) (by omega) hbase
  have hv : ∃ g' cap', v' = .slice (some ⟨g', 0, none⟩) (L.length + M.length) cap' := by
    rcases ho1.2 with ⟨hn, _⟩ | ⟨g', cap', _, hv, _⟩
    · have := (hnone.1 hn).1; cases this
    · exact ⟨g', cap', hv⟩
  obtain ⟨g', cap', rfl⟩ := hv
  have hat' : g' = g ∨ g' = W.heap.size := by simpa [Value.ownBlock] using hat
  exact ⟨g', cap', w', hrun, by unfold OwnS; rw [List.length_append, flat_app]; exact ho1, hg1, hat'⟩
theorem wl_appL {ops : Array Oper} {rest : List Oper} {o : Oper} {a : Act} {Q : Exit → Act → World → Prop} (W : World) (hgd : o.guard = none) (s x : Operand)
    (ho : o.op = .call { callee := .builtin .append, args := #[s, x], argTypes := #[23, 23] })
    (base g n cap : Nat) (L M : List Ls) (hs : a.eval s = .slice (some ⟨g, 0, none⟩) n cap) (hown : OwnS W base g cap L) (hn : L.length = n)
    (ad : Addr) (m c : Nat) (hx : a.eval x = .slice (some ad) m c) (hl : M.length = m) (hnews : ∀ (j : Nat) (u : Value), (flat M)[j]? = some u → W.cell? (ad.add j) = some u)
    (r : Nat) (hr : n + m = r) (hb : r ≤ 1000000) (hbase : base ≤ W.heap.size)
    (h : ∀ g' cap' w', OwnS w' base g' cap' (L ++ M) → W.grownBy w' (some g) → (g' = g ∨ g' = W.heap.size) → wpList Try.prog ops Q rest (a.put o.dst (.slice (some ⟨g', 0, none⟩) r cap')) w') :
    wpList Try.prog ops Q (o :: rest) a W := by
  subst hr hn hl
  obtain ⟨g', cap', w', hrun, h1, h2, h3⟩ := run_appL W o.type base g cap L M hown ad c hnews hb hbase
  exact wpList_plain hgd fun K hK => by
    unfold Oper.wp execOp
    simp only [ho, resolve, invoke, builtin, Sem.run_bind, Sem.run_pure, Result.andThen_ok, List.map_toArray, List.map_cons, List.map_nil, hs, hx, hrun]
    exact hK _ _ (h g' cap' w' h1 h2 h3)
theorem step_appL {ops : Array Oper} {o : Oper} {a : Act} {K : Act → World → Prop} {Q : Exit → Act → World → Prop} {E : Prop} (W : World) (hgd : o.guard = none) (s x : Operand)
    (ho : o.op = .call { callee := .builtin .append, args := #[s, x], argTypes := #[23, 23] })
    (base g n cap : Nat) (L M : List Ls) (hs : a.eval s = .slice (some ⟨g, 0, none⟩) n cap) (hown : OwnS W base g cap L) (hn : L.length = n)
    (ad : Addr) (m c : Nat) (hx : a.eval x = .slice (some ad) m c) (hl : M.length = m) (hnews : ∀ (j : Nat) (u : Value), (flat M)[j]? = some u → W.cell? (ad.add j) = some u)
    (r : Nat) (hr : n + m = r) (hb : r ≤ 1000000) (hbase : base ≤ W.heap.size)
    (h : ∀ g' cap' w', OwnS w' base g' cap' (L ++ M) → W.grownBy w' (some g) → (g' = g ∨ g' = W.heap.size) → K (a.put o.dst (.slice (some ⟨g', 0, none⟩) r cap')) w') :
    if Region.wanted o (yielded ops a.tmps) = true then Oper.wp Try.prog o a W K Q else E := by
  have hw : Region.wanted o (yielded ops a.tmps) = true := by simp [Region.wanted, hgd]
  rw [if_pos hw]
  subst hr hn hl
  obtain ⟨g', cap', w', hrun, h1, h2, h3⟩ := run_appL W o.type base g cap L M hown ad c hnews hb hbase
  unfold Oper.wp execOp
  simp only [ho, resolve, invoke, builtin, Sem.run_bind, Sem.run_pure, Result.andThen_ok, List.map_toArray, List.map_cons, List.map_nil, hs, hx, hrun]
  exact h g' cap' w' h1 h2 h3
/-- the source of an append: a slice that reads as leases -/
theorem src_ls {W : World} {b off : Nat} {L : List Ls} (h : ∀ i, i < L.length → LsCell W b (off + i * 3) (gl L i)) : ∀ (j : Nat) (u : Value), (flat L)[j]? = some u → W.cell? ((⟨b, off, none⟩ : Addr).add j) = some u := by
  intro j u hu
  have hj : j < L.length * 3 := by
    rcases Nat.lt_or_ge j (L.length * 3) with h' | h'
    · exact h'
    · rw [List.getElem?_eq_none (by rw [flat_len]; exact h')] at hu; cases hu
  have hjl : j / 3 < L.length := by omega
  obtain ⟨h1, h2, h3⟩ := h _ hjl
  obtain ⟨f1, f2, f3⟩ := flat_at hjl
  rw [add_plain]
  have hm : j % 3 = 0 ∨ j % 3 = 1 ∨ j % 3 = 2 := by omega
  rcases hm with hm | hm | hm
  · rw [show j = j / 3 * 3 by omega, f1] at hu; rw [show off + j = off + j / 3 * 3 by omega, h1]; exact hu
  · rw [show j = j / 3 * 3 + 1 by omega, f2] at hu; rw [show off + j = off + j / 3 * 3 + 1 by omega, h2]; exact hu
  · rw [show j = j / 3 * 3 + 2 by omega, f3] at hu; rw [show off + j = off + j / 3 * 3 + 2 by omega, h3]; exact hu
theorem srcL_one {W : World} {N : Nat} {x : Ls} (h : W.heap[N]? = some (.cells #[.int .i64 x.e, .int .i64 x.o, .int .i64 x.u] 36 (0, 0))) :
    ∀ (j : Nat) (u : Value), (flat [x])[j]? = some u → W.cell? ((⟨N, 0, none⟩ : Addr).add j) = some u := by
  intro j u hu
  rw [add_plain, Nat.zero_add, cell_of_cells h]
  have e : flat [x] = [.int .i64 x.e, .int .i64 x.o, .int .i64 x.u] := by simp [flat, lsC]
  rw [e] at hu
  simpa using hu
theorem srcL_none (W : World) (ad : Addr) : ∀ (j : Nat) (u : Value), (flat [])[j]? = some u → W.cell? (ad.add j) = some u := fun j u h => by simp [flat] at h
end Go.Proofs.Ytenhaccdiamagaa
