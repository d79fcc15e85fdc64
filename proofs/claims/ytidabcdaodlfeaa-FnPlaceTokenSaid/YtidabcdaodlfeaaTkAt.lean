/- Tokens in memory. -/
import Derived.Test.YtidabcdaodlfeaaPlMath
import Derived.Test.YtidabcdaodlfeaaRowsI
import Derived.Handy
namespace Go.Proofs.Ytidabcdaodlfeaa
open Go.RowKit
set_option linter.unusedVariables false

/-- two cells that read as a token -/
def TkCell (w : World) (b o : Nat) (x : Tk) : Prop :=
  w.cell? ⟨b, o, none⟩ = some (.int .i64 x.p) ∧ w.cell? ⟨b, o + 1, none⟩ = some (.int .i64 x.n)
/-- a slice at address a reads as the tokens L -/
def TkAt (w : World) (a : Option Addr) (L : List Tk) : Prop :=
  L = [] ∨ ∃ b off, a = some ⟨b, off, none⟩ ∧ b < w.heap.size ∧ ∀ i, i < L.length → TkCell w b (off + i * 2) (gk L i)
theorem TkAt.at_ {w : World} {a : Option Addr} {L : List Tk} (h : TkAt w a L) {i : Nat} (hi : i < L.length) : ∃ b off, a = some ⟨b, off, none⟩ ∧ b < w.heap.size ∧ ∀ j, j < L.length → TkCell w b (off + j * 2) (gk L j) := by
  rcases h with h | h
  · subst h; simp at hi
  · exact h
theorem TkAt.keepB {w w' : World} {B : Nat} {a : Option Addr} {L : List Tk} (h : TkAt w a L) (hb : Below B w w') (hB : w.heap.size ≤ B) : TkAt w' a L := by
  rcases h with h0 | ⟨b, off, ha, hlt, hc⟩
  · exact .inl h0
  · have hk : ∀ o, w'.cell? ⟨b, o, none⟩ = w.cell? ⟨b, o, none⟩ := fun o => hb.cell (p := ⟨b, o, none⟩) (Nat.lt_of_lt_of_le hlt hB)
    refine .inr ⟨b, off, ha, Nat.lt_of_lt_of_le hlt hb.size, fun i hi => ?_⟩
    obtain ⟨h1, h2⟩ := hc i hi
    exact ⟨(hk _).trans h1, (hk _).trans h2⟩
theorem TkAt.same {w w' : World} {a : Option Addr} {L : List Tk} (h : TkAt w a L) (hs : Same w w') : TkAt w' a L := h.keepB (hs.below _) (Nat.le_refl _)
theorem TkAt.blk {w w' : World} {g : Nat} {L : List Tk} (h : TkAt w (some ⟨g, 0, none⟩) L) (e : w'.heap[g]? = w.heap[g]?) : TkAt w' (some ⟨g, 0, none⟩) L := by
  rcases h with h0 | ⟨b, off, ha, hlt, hc⟩
  · exact .inl h0
  · injection ha with ha; injection ha with ha ho; subst ha ho
    have hk : ∀ o, w'.cell? ⟨g, o, none⟩ = w.cell? ⟨g, o, none⟩ := fun o => World.cell?_of_block (w := w) e
    refine .inr ⟨g, 0, rfl, ?_, fun i hi => ?_⟩
    · rw [Array.getElem?_eq_getElem hlt] at e
      exact heap_lt e
    · obtain ⟨h1, h2⟩ := hc i hi
      exact ⟨(hk _).trans h1, (hk _).trans h2⟩

/-- a token as a value -/
def tkV (x : Tk) : Value := .agg #[.int .i64 x.p, .int .i64 x.n]
/-- the two cells of a token -/
def tkC (x : Tk) : List Value := [.int .i64 x.p, .int .i64 x.n]
/-- the cells of a row of tokens -/
def flatK (L : List Tk) : List Value := L.flatMap tkC
theorem flatK_len (L : List Tk) : (flatK L).length = L.length * 2 := by
  induction L with
  | nil => rfl
  | cons p L ih => simp [flatK, tkC] at ih ⊢; omega
theorem flatK_app (L M : List Tk) : flatK (L ++ M) = flatK L ++ flatK M := by simp [flatK]
theorem flatK_at {L : List Tk} {i : Nat} (h : i < L.length) : (flatK L)[i * 2]? = some (.int .i64 (gk L i).p) ∧ (flatK L)[i * 2 + 1]? = some (.int .i64 (gk L i).n) := by
  induction L generalizing i with
  | nil => simp at h
  | cons q L ih =>
    rcases i with _ | i
    · simp [flatK, tkC, gk]
    · have h' : i < L.length := by simpa using h
      obtain ⟨h1, h2⟩ := ih h'
      have eg : gk (q :: L) (i + 1) = gk L i := by simp [gk]
      have e : ∀ d, (flatK (q :: L))[(i + 1) * 2 + d]? = (flatK L)[i * 2 + d]? := fun d => by
        show (tkC q ++ flatK L)[(i + 1) * 2 + d]? = _
        rw [List.getElem?_append_right (by simp [tkC]; omega)]
        congr 1; simp [tkC]; omega
      rw [eg]
      exact ⟨by have := e 0; rw [Nat.add_zero, Nat.add_zero] at this; rw [this]; exact h1, by rw [e 1]; exact h2⟩
theorem flatK_one (L : List Tk) : ∀ u ∈ flatK L, u.oneCell' = true := by
  intro u hu
  obtain ⟨p, hp, hu⟩ := List.mem_flatMap.1 hu
  simp only [tkC, List.mem_cons, List.not_mem_nil, or_false] at hu
  rcases hu with rfl | rfl <;> rfl

/-- tokens in a block of the call's own, from block base on -/
def OwnK (w : World) (base g cap : Nat) (L : List Tk) : Prop :=
  w.ownsRow base 35 2 (.slice (some ⟨g, 0, none⟩) L.length cap) L.length (flatK L)
theorem OwnK.blk {w : World} {base g cap : Nat} {L : List Tk} (h : OwnK w base g cap L) :
    base ≤ g ∧ g < w.heap.size ∧ ∃ cs, w.heap[g]? = some (.cells cs 35 (0, 0)) ∧ L.length ≤ cap ∧ cap ≤ maxLen ∧ cs.size = cap * 2 ∧ ∀ (j : Nat) (u : Value), (flatK L)[j]? = some u → cs[j]? = some u := by
  rcases h.2 with ⟨hn, _⟩ | ⟨g', cap', cur, hv, hb, hg, hnc, hcm, hs, ht⟩
  · cases hn
  · injection hv with hv _ hc; injection hv with hv; injection hv with hv; subst hv hc
    refine ⟨hb, heap_lt hg, cur, hg, hnc, hcm, hs, fun j u hj => ?_⟩
    rw [← ht, List.getElem?_take] at hj
    split at hj
    · simpa using hj
    · cases hj
theorem OwnK.cells {w : World} {base g cap : Nat} {L : List Tk} (h : OwnK w base g cap L) {i : Nat} (hi : i < L.length) : TkCell w g (i * 2) (gk L i) := by
  obtain ⟨_, _, cs, hb, _, _, _, hc⟩ := h.blk
  obtain ⟨h1, h2⟩ := flatK_at hi
  exact ⟨by rw [cell_of_cells hb]; exact hc _ _ h1, by rw [cell_of_cells hb]; exact hc _ _ h2⟩
theorem OwnK.tk {w : World} {base g cap : Nat} {L : List Tk} (h : OwnK w base g cap L) : TkAt w (some ⟨g, 0, none⟩) L :=
  .inr ⟨g, 0, rfl, h.blk.2.1, fun i hi => by rw [Nat.zero_add]; exact h.cells hi⟩
theorem OwnK.kept {w w' : World} {base g cap : Nat} {L : List Tk} (h : OwnK w base g cap L) (hk : w'.heap[g]? = w.heap[g]?) : OwnK w' base g cap L := by
  refine ⟨h.1, ?_⟩
  rcases h.2 with hn | ⟨g', cap', cur, hv, hbg, hg, rest⟩
  · exact .inl hn
  · have hv' := hv
    injection hv with hv _ _; injection hv with hv; injection hv with hv; subst hv
    exact .inr ⟨g, cap', cur, hv', hbg, hk.trans hg, rest⟩
theorem OwnK.keepB {w w' : World} {base g cap B : Nat} {L : List Tk} (h : OwnK w base g cap L) (hb : Below B w w') (hB : w.heap.size ≤ B) : OwnK w' base g cap L :=
  h.kept (hb.block g (by have := h.blk.2.1; omega))
theorem OwnK.less {w : World} {base base' g cap : Nat} {L : List Tk} (h : OwnK w base g cap L) (hb : base' ≤ base) : OwnK w base' g cap L := by
  refine ⟨h.1, ?_⟩
  rcases h.2 with hn | ⟨g', cap', cur, hv, hbg, rest⟩
  · exact .inl hn
  · exact .inr ⟨g', cap', cur, hv, by omega, rest⟩
/-- out of a block's cells -/
theorem ownk_mk {w : World} {base g cap : Nat} {cs : Array Value} {L : List Tk} (hb : w.heap[g]? = some (.cells cs 35 (0, 0))) (hg : base ≤ g) (hn : L.length ≤ cap) (hm : cap ≤ maxLen) (hs : cs.size = cap * 2)
    (hc : ∀ (j : Nat) (u : Value), (flatK L)[j]? = some u → cs[j]? = some u) : OwnK w base g cap L := by
  refine ⟨by rw [flatK_len], .inr ⟨g, cap, cs, rfl, hg, hb, hn, hm, hs, ?_⟩⟩
  apply List.ext_getElem?
  intro i
  rcases Nat.lt_or_ge i (L.length * 2) with h' | h'
  · have hi : i < (flatK L).length := by rw [flatK_len]; exact h'
    rw [List.getElem?_take_of_lt h', Array.getElem?_toList, List.getElem?_eq_getElem hi]
    exact hc i _ (List.getElem?_eq_getElem hi)
  · rw [List.getElem?_eq_none (by simp; omega), List.getElem?_eq_none (by rw [flatK_len]; exact h')]
/-- writing one of the two numbers -/
theorem flatK_set {L : List Tk} {k d : Nat} {x : Tk} {v : Value} (hd : d < 2) (hk : k < L.length) (hv : v = (tkC x)[d]?.getD v) (hx : ∀ d', d' < 2 → d' ≠ d → (tkC x)[d']? = (tkC (gk L k))[d']?) :
    ∀ (j : Nat) (u : Value), (flatK (L.set k x))[j]? = some u → ((flatK L).set (k * 2 + d) v)[j]? = some u := by
  have key : flatK (L.set k x) = (flatK L).set (k * 2 + d) v := by
    apply List.ext_getElem?
    intro j
    rcases Nat.lt_or_ge j (L.length * 2) with hj | hj
    · have hjl : j / 2 < L.length := by omega
      have ej : j = j / 2 * 2 + j % 2 := by omega
      have h1 := flatK_at (L := L.set k x) (i := j / 2) (by rw [List.length_set]; exact hjl)
      have h2 := flatK_at hjl
      rw [List.getElem?_set]
      by_cases he : k * 2 + d = j
      · rw [if_pos he, if_pos (by rw [flatK_len]; omega)]
        have e1 : j / 2 = k := by omega
        rw [e1, gk_set_eq _ hk] at h1
        have e2 : j = k * 2 + d := he.symm
        have hd' : d = 0 ∨ d = 1 := by omega
        rcases hd' with rfl | rfl
        · rw [e2, Nat.add_zero, h1.1, hv]; rfl
        · rw [e2, h1.2, hv]; rfl
      · rw [if_neg he]
        by_cases hk' : k = j / 2
        · have hx' := hx (j % 2) (by omega) (by omega)
          rw [← hk', gk_set_eq _ hk] at h1
          rw [← hk'] at h2
          rw [show j = k * 2 + j % 2 by omega]
          have hm : j % 2 = 0 ∨ j % 2 = 1 := by omega
          rcases hm with hm | hm <;> rw [hm] at hx' ⊢ <;> simp only [tkC, List.getElem?_cons_zero, List.getElem?_cons_succ, Option.some.injEq] at hx'
          · rw [Nat.add_zero, h1.1, h2.1, hx']
          · rw [h1.2, h2.2, hx']
        · rw [gk_set_ne _ hk'] at h1
          rw [ej]
          have hm : j % 2 = 0 ∨ j % 2 = 1 := by omega
          rcases hm with hm | hm <;> rw [hm]
          · rw [Nat.add_zero, h1.1, h2.1]
          · rw [h1.2, h2.2]
    · rw [List.getElem?_eq_none (by rw [flatK_len, List.length_set]; exact hj), List.getElem?_eq_none (by rw [List.length_set, flatK_len]; exact hj)]
  intro j u hu
  rw [← key]; exact hu
theorem OwnK.setCell {w : World} {base g cap : Nat} {L : List Tk} (h : OwnK w base g cap L) {k d : Nat} {x : Tk} {v : Value} (hd : d < 2) (hk : k < L.length) (hv : v = (tkC x)[d]?.getD v) (hx : ∀ d', d' < 2 → d' ≠ d → (tkC x)[d']? = (tkC (gk L k))[d']?) :
    OwnK (w.setCell ⟨g, k * 2 + d, none⟩ v) base g cap (L.set k x) := by
  obtain ⟨h1, h2, cs, h3, h4, h5, h6, h7⟩ := h.blk
  refine ownk_mk (heap_set _ _ _ _ h3) h1 (by rw [List.length_set]; exact h4) h5 (by simpa using h6) fun j u hu => ?_
  have hu' := flatK_set hd hk hv hx j u hu
  rw [List.getElem?_set] at hu'
  by_cases he : k * 2 + d = j
  · rw [if_pos he] at hu'
    split at hu'
    · rw [← he, Array.getElem?_setIfInBounds_self_of_lt (by omega)]; exact hu'
    · cases hu'
  · rw [if_neg he] at hu'
    rw [Array.getElem?_setIfInBounds_ne he]; exact h7 j u hu'
theorem OwnK.setE {w : World} {base g cap : Nat} {L : List Tk} (h : OwnK w base g cap L) {k : Nat} (hk : k < L.length) (n : Int) : OwnK (w.setCell ⟨g, k * 2, none⟩ (.int .i64 n)) base g cap (L.set k ⟨n, (gk L k).n⟩) :=
  h.setCell (d := 0) (by omega) hk rfl (fun d' h1 h2 => by have : d' = 1 := (by omega); subst this; rfl)
theorem OwnK.setO {w : World} {base g cap : Nat} {L : List Tk} (h : OwnK w base g cap L) {k : Nat} (hk : k < L.length) (n : Int) : OwnK (w.setCell ⟨g, k * 2 + 1, none⟩ (.int .i64 n)) base g cap (L.set k ⟨(gk L k).p, n⟩) :=
  h.setCell (d := 1) (by omega) hk rfl (fun d' h1 h2 => by have : d' = 0 := (by omega); subst this; rfl)
theorem set_setK {L : List Tk} {k : Nat} (x y : Tk) : (L.set k x).set k y = L.set k y := by simp
/-- both -/
theorem OwnK.setAll {w : World} {base g cap : Nat} {L : List Tk} (h : OwnK w base g cap L) {k : Nat} (hk : k < L.length) (x : Tk) :
    OwnK ((w.setCell ⟨g, k * 2, none⟩ (.int .i64 x.p)).setCell ⟨g, k * 2 + 1, none⟩ (.int .i64 x.n)) base g cap (L.set k x) := by
  have h1 := h.setE hk x.p
  have h2 := h1.setO (by rw [List.length_set]; exact hk) x.n
  rw [gk_set_eq _ hk, set_setK] at h2
  exact h2

/-- tokens in a new row of the call's own -/
def NewK (L : List Tk) (w : World) (e : Ending) (w' : World) : Prop :=
  ∃ g cap, e = .returned (.slice (some ⟨g, 0, none⟩) L.length cap) ∧ OwnK w' w.heap.size g cap L ∧ Below w.heap.size w w'
/-- .. at the head of a loop -/
def TkFar (L : List Tk) (w : World) (v : Value) (wr : World) : Prop :=
  ∃ g cap, v = .slice (some ⟨g, 0, none⟩) L.length cap ∧ OwnK wr w.heap.size g cap L ∧ Below w.heap.size w wr
theorem ownk_none (w : World) (cs : Array Value) (hcs : cs = #[]) : OwnK (w.alloc (.cells cs 35)) w.heap.size w.heap.size 0 [] := by
  subst hcs
  exact ownk_mk (heap_alloc_new w _) (Nat.le_refl _) (Nat.zero_le _) (by unfold maxLen; omega) rfl (fun j u h => by simp [flatK] at h)
theorem tkfar_new (w : World) (cs : Array Value) (hcs : cs = #[]) : TkFar [] w (.slice (some ⟨w.heap.size, 0, none⟩) 0 0) (w.alloc (.cells cs 35)) :=
  ⟨w.heap.size, 0, rfl, ownk_none w cs hcs, (Below.refl _ _).alloc (Nat.le_refl _) _⟩
theorem newK_of {L : List Tk} {w wr : World} {v : Value} (h : TkFar L w v wr) : NewK L w (.returned v) wr := by
  obtain ⟨g, cap, rfl, ho, hb⟩ := h; exact ⟨g, cap, rfl, ho, hb⟩
theorem newK_mono {L : List Tk} {w w1 w2 : World} {e : Ending} (h : NewK L w1 e w2) (hb : Below w.heap.size w w1) : NewK L w e w2 := by
  obtain ⟨g, cap, he, ho, hb2⟩ := h
  exact ⟨g, cap, he, ho.less hb.size, hb.trans (hb2.mono hb.size)⟩
theorem OwnK.grow {w w1 w2 : World} {base g g' cap' : Nat} {L : List Tk} (hg : w1.grownBy w2 (some g)) (hb : Below w.heap.size w w1) (hbase : w.heap.size ≤ g) : Below w.heap.size w w2 :=
  hb.grown hg hb.size (fun k hk => by injection hk with hk; omega)

theorem Try.infoToken : (Try.prog.info? 35).map (fun i => (i.zero, i.size, i.bytes)) = some (some (.agg #[.int .i64 0, .int .i64 0]), 2, 16) := by kernel_rfl

/-- append onto a row of the call's own -/
theorem run_appK (W : World) (ty : TypeId) (base g cap : Nat) (L M : List Tk) (hown : OwnK W base g cap L) (ad : Addr) (c : Nat) (hnews : ∀ (j : Nat) (u : Value), (flatK M)[j]? = some u → W.cell? (ad.add j) = some u)
    (hb : L.length + M.length ≤ 1000000) (hbase : base ≤ W.heap.size) :
    ∃ g' cap' w', (Builtin.append_ #[31, 31] ty #[.slice (some ⟨g, 0, none⟩) L.length cap, .slice (some ad) M.length c]).run Try.prog W = .ok (.slice (some ⟨g', 0, none⟩) (L.length + M.length) cap') w' ∧
      OwnK w' base g' cap' (L ++ M) ∧ W.grownBy w' (some g) ∧ (g' = g ∨ g' = W.heap.size) := by
  obtain ⟨i0, hi0, hz0, hz1, hz2⟩ := info_parts Try.infoToken
  obtain ⟨v', w', hrun, ho1, hg1, hnone, hat⟩ := run_append_own_at (P := Try.prog) W base 31 ty 35 i0 _ 2 16 Try.underlying31 hi0 hz0 hz1 hz2 rfl (by omega) _ L.length (flatK L) hown ad M.length c (flatK M) (flatK_len M) hnews (flatK_one M) (by unfold maxLen; omega) (by omega) hbase
  have hv : ∃ g' cap', v' = .slice (some ⟨g', 0, none⟩) (L.length + M.length) cap' := by
    rcases ho1.2 with ⟨hn, _⟩ | ⟨g', cap', _, hv, _⟩
    · have := (hnone.1 hn).1; cases this
    · exact ⟨g', cap', hv⟩
  obtain ⟨g', cap', rfl⟩ := hv
  have hat' : g' = g ∨ g' = W.heap.size := by simpa [Value.ownBlock] using hat
  exact ⟨g', cap', w', hrun, by unfold OwnK; rw [List.length_append, flatK_app]; exact ho1, hg1, hat'⟩
theorem wl_appK {ops : Array Oper} {rest : List Oper} {o : Oper} {a : Act} {Q : Exit → Act → World → Prop} (W : World) (hgd : o.guard = none) (s x : Operand)
    (ho : o.op = .call { callee := .builtin .append, args := #[s, x], argTypes := #[31, 31] })
    (base g n cap : Nat) (L M : List Tk) (hs : a.eval s = .slice (some ⟨g, 0, none⟩) n cap) (hown : OwnK W base g cap L) (hn : L.length = n)
    (ad : Addr) (m c : Nat) (hx : a.eval x = .slice (some ad) m c) (hl : M.length = m) (hnews : ∀ (j : Nat) (u : Value), (flatK M)[j]? = some u → W.cell? (ad.add j) = some u)
    (r : Nat) (hr : n + m = r) (hb : r ≤ 1000000) (hbase : base ≤ W.heap.size)
    (h : ∀ g' cap' w', OwnK w' base g' cap' (L ++ M) → W.grownBy w' (some g) → (g' = g ∨ g' = W.heap.size) → wpList Try.prog ops Q rest (a.put o.dst (.slice (some ⟨g', 0, none⟩) r cap')) w') :
    wpList Try.prog ops Q (o :: rest) a W := by
  subst hr hn hl
  obtain ⟨g', cap', w', hrun, h1, h2, h3⟩ := run_appK W o.type base g cap L M hown ad c hnews hb hbase
  exact wpList_plain hgd fun K hK => by
    unfold Oper.wp execOp
    simp only [ho, resolve, invoke, builtin, Sem.run_bind, Sem.run_pure, Result.andThen_ok, List.map_toArray, List.map_cons, List.map_nil, hs, hx, hrun]
    exact hK _ _ (h g' cap' w' h1 h2 h3)
theorem step_appK {ops : Array Oper} {o : Oper} {a : Act} {K : Act → World → Prop} {Q : Exit → Act → World → Prop} {E : Prop} (W : World) (hgd : o.guard = none) (s x : Operand)
    (ho : o.op = .call { callee := .builtin .append, args := #[s, x], argTypes := #[31, 31] })
    (base g n cap : Nat) (L M : List Tk) (hs : a.eval s = .slice (some ⟨g, 0, none⟩) n cap) (hown : OwnK W base g cap L) (hn : L.length = n)
    (ad : Addr) (m c : Nat) (hx : a.eval x = .slice (some ad) m c) (hl : M.length = m) (hnews : ∀ (j : Nat) (u : Value), (flatK M)[j]? = some u → W.cell? (ad.add j) = some u)
    (r : Nat) (hr : n + m = r) (hb : r ≤ 1000000) (hbase : base ≤ W.heap.size)
    (h : ∀ g' cap' w', OwnK w' base g' cap' (L ++ M) → W.grownBy w' (some g) → (g' = g ∨ g' = W.heap.size) → K (a.put o.dst (.slice (some ⟨g', 0, none⟩) r cap')) w') :
    if Region.wanted o (yielded ops a.tmps) = true then Oper.wp Try.prog o a W K Q else E := by
  have hw : Region.wanted o (yielded ops a.tmps) = true := by simp [Region.wanted, hgd]
  rw [if_pos hw]
  subst hr hn hl
  obtain ⟨g', cap', w', hrun, h1, h2, h3⟩ := run_appK W o.type base g cap L M hown ad c hnews hb hbase
  unfold Oper.wp execOp
  simp only [ho, resolve, invoke, builtin, Sem.run_bind, Sem.run_pure, Result.andThen_ok, List.map_toArray, List.map_cons, List.map_nil, hs, hx, hrun]
  exact h g' cap' w' h1 h2 h3
/-- the source of an append: a slice that reads as tokens -/
theorem src_tk {W : World} {b off : Nat} {L : List Tk} (h : ∀ i, i < L.length → TkCell W b (off + i * 2) (gk L i)) : ∀ (j : Nat) (u : Value), (flatK L)[j]? = some u → W.cell? ((⟨b, off, none⟩ : Addr).add j) = some u := by
  intro j u hu
  have hj : j < L.length * 2 := by
    rcases Nat.lt_or_ge j (L.length * 2) with h' | h'
    · exact h'
    · rw [List.getElem?_eq_none (by rw [flatK_len]; exact h')] at hu; cases hu
  have hjl : j / 2 < L.length := by omega
  obtain ⟨h1, h2⟩ := h _ hjl
  obtain ⟨f1, f2⟩ := flatK_at hjl
  rw [add_plain]
  have hm : j % 2 = 0 ∨ j % 2 = 1 := by omega
  rcases hm with hm | hm
  · rw [show j = j / 2 * 2 by omega, f1] at hu; rw [show off + j = off + j / 2 * 2 by omega, h1]; exact hu
  · rw [show j = j / 2 * 2 + 1 by omega, f2] at hu; rw [show off + j = off + j / 2 * 2 + 1 by omega, h2]; exact hu
theorem srcK_one {W : World} {N : Nat} {x : Tk} (h : W.heap[N]? = some (.cells #[.int .i64 x.p, .int .i64 x.n] 35 (0, 0))) :
    ∀ (j : Nat) (u : Value), (flatK [x])[j]? = some u → W.cell? ((⟨N, 0, none⟩ : Addr).add j) = some u := by
  intro j u hu
  rw [add_plain, Nat.zero_add, cell_of_cells h]
  have e : flatK [x] = [.int .i64 x.p, .int .i64 x.n] := by simp [flatK, tkC]
  rw [e] at hu
  simpa using hu
theorem srcK_none (W : World) (ad : Addr) : ∀ (j : Nat) (u : Value), (flatK [])[j]? = some u → W.cell? (ad.add j) = some u := fun j u h => by simp [flatK] at h
end Go.Proofs.Ytidabcdaodlfeaa
