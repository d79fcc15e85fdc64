/- Lists of paths of the call's own: append, and a store into the first path. -/
import Derived.Test.YtblhaccjngjekaaPzWE
import Derived.Test.YtblhaccjngjekaaPzDraw
namespace Go.Proofs.Ytblhaccjngjekaa
open Go.RowKit
set_option linter.unusedVariables false

/-- a row of slices: the values xs say where each path lies -/
def SlRow (w : World) (base N n c : Nat) (xs : List Value) : Prop := w.ownsRow base 34 1 (.slice (some ⟨N, 0, none⟩) n c) n xs
/-- the paths ps, path i in block F i with room C i -/
structure SsOwn (w : World) (base N c : Nat) (ps : List (List Int)) (xs : List Value) (F C : Nat → Nat) : Prop where
  row : SlRow w base N ps.length c xs
  at_ : ∀ i, i < ps.length → xs[i]? = some (.slice (some ⟨F i, 0, none⟩) (gl ps i).length (C i))
  own : ∀ i, i < ps.length → OwnI w base (some ⟨F i, 0, none⟩) (C i) (gl ps i)
  ne : ∀ i, i < ps.length → F i ≠ N
  inj : ∀ i j, i < j → j < ps.length → F i ≠ F j
theorem SlRow.blk {w : World} {base N n c : Nat} {xs : List Value} (h : SlRow w base N n c xs) :
    ∃ cur, w.heap[N]? = some (.cells cur 34 (0, 0)) ∧ base ≤ N ∧ n ≤ c ∧ c ≤ maxLen ∧ cur.size = c ∧ cur.toList.take n = xs := by
  rcases h.2 with ⟨hn, _⟩ | ⟨g', cap', cur, hv, hb, hg, hnc, hcm, hs, ht⟩
  · cases hn
  · injection hv with hv _ hc; injection hv with hv; injection hv with hv; subst hv hc
    exact ⟨cur, hg, hb, hnc, hcm, by simpa using hs, by simpa using ht⟩
theorem SlRow.le {w : World} {base N n c : Nat} {xs : List Value} (h : SlRow w base N n c xs) : n ≤ c := by obtain ⟨_, _, _, h1, _⟩ := h.blk; exact h1
theorem SlRow.cell {w : World} {base N n c : Nat} {xs : List Value} (h : SlRow w base N n c xs) {i : Nat} (hi : i < n) {v : Value} (hv : xs[i]? = some v) : w.cell? ⟨N, i, none⟩ = some v := by
  obtain ⟨cur, hb, _, hn, _, hs, ht⟩ := h.blk
  rw [cell_of_cells hb, ← hv, ← ht, List.getElem?_take_of_lt hi, Array.getElem?_toList]
theorem SlRow.lt {w : World} {base N n c : Nat} {xs : List Value} (h : SlRow w base N n c xs) : base ≤ N ∧ N < w.heap.size := by
  obtain ⟨cur, hb, hbN, _⟩ := h.blk; exact ⟨hbN, (Array.getElem?_eq_some_iff.1 hb).1⟩
theorem SlRow.frozen {w : World} {base N n c : Nat} {xs : List Value} (h : SlRow w base N n c xs) (i : Nat) : w.frozen? ⟨N, i, none⟩ = false := by
  obtain ⟨cur, hb, _⟩ := h.blk; exact frozen_of_cells hb i
theorem SlRow.kept {w w' : World} {base N n c : Nat} {xs : List Value} (h : SlRow w base N n c xs) (e : w'.heap[N]? = w.heap[N]?) : SlRow w' base N n c xs := by
  refine ⟨h.1, ?_⟩
  rcases h.2 with ⟨hn, _⟩ | ⟨g', cap', cur, hv, hb, hg, rest⟩
  · cases hn
  · injection hv with hv _ hc; injection hv with hv; injection hv with hv; subst hv hc
    exact .inr ⟨N, c, cur, rfl, hb, e.trans hg, rest⟩
theorem SlRow.less {w : World} {base base' N n c : Nat} {xs : List Value} (h : SlRow w base N n c xs) (hb : base' ≤ base) : SlRow w base' N n c xs := by
  refine ⟨h.1, ?_⟩
  rcases h.2 with hn | ⟨g', cap', cur, hv, hbg, rest⟩
  · exact .inl hn
  · exact .inr ⟨g', cap', cur, hv, by omega, rest⟩
theorem SlRow.set {w : World} {base N n c i : Nat} {xs : List Value} (h : SlRow w base N n c xs) (v : Value) : SlRow (w.setCell ⟨N, i, none⟩ v) base N n c (xs.set i v) := by
  obtain ⟨cur, hg, hb, hnc, hcm, hs, ht⟩ := h.blk
  refine ⟨by rw [List.length_set]; exact h.1, .inr ⟨N, c, cur.setIfInBounds i v, rfl, hb, ?_, hnc, hcm, by simpa using hs, ?_⟩⟩
  · simp [World.setCell, Array.getElem?_modify, hg]
  · have e : (cur.setIfInBounds i v).toList = cur.toList.set i v := by simp
    rw [e, Nat.mul_one, List.take_set, ht]
theorem SsOwn.ss {w : World} {base N c : Nat} {ps : List (List Int)} {xs : List Value} {F C : Nat → Nat} (h : SsOwn w base N c ps xs F C) : SsAt w (some ⟨N, 0, none⟩) ps :=
  .inr ⟨N, 0, rfl, h.row.lt.2, fun i hi => ⟨_, by rw [Nat.zero_add]; exact h.row.cell hi (h.at_ i hi), some ⟨F i, 0, none⟩, C i, rfl, (h.own i hi).cap_le.1, (h.own i hi).cap_le.2, (h.own i hi).ints⟩⟩
theorem SsOwn.kept {w w' : World} {base N c : Nat} {ps : List (List Int)} {xs : List Value} {F C : Nat → Nat} (h : SsOwn w base N c ps xs F C) (hk : ∀ g, base ≤ g → g < w.heap.size → w'.heap[g]? = w.heap[g]?) : SsOwn w' base N c ps xs F C :=
  ⟨h.row.kept (hk N h.row.lt.1 h.row.lt.2), h.at_, fun i hi => (h.own i hi).kept hk, h.ne, h.inj⟩
theorem SsOwn.less {w : World} {base base' N c : Nat} {ps : List (List Int)} {xs : List Value} {F C : Nat → Nat} (h : SsOwn w base N c ps xs F C) (hb : base' ≤ base) : SsOwn w base' N c ps xs F C :=
  ⟨h.row.less hb, h.at_, fun i hi => (h.own i hi).less hb, h.ne, h.inj⟩
theorem SsOwn.flt {w : World} {base N c : Nat} {ps : List (List Int)} {xs : List Value} {F C : Nat → Nat} (h : SsOwn w base N c ps xs F C) {i : Nat} (hi : i < ps.length) : base ≤ F i ∧ F i < w.heap.size := (h.own i hi).lt
theorem ss_nil {w : World} {base N : Nat} (h : w.heap[N]? = some (.cells #[] 34 (0, 0))) (hb : base ≤ N) : SsOwn w base N 0 [] [] (fun _ => 0) (fun _ => 0) :=
  ⟨⟨by simp, .inr ⟨N, 0, #[], rfl, hb, h, Nat.zero_le _, by unfold maxLen; omega, rfl, by simp⟩⟩, fun i hi => by simp at hi, fun i hi => by simp at hi, fun i hi => by simp at hi, fun i j _ hj => by simp at hj⟩
theorem own_keptG {w w' : World} {base g cap : Nat} {zs : List Int} (h : OwnI w base (some ⟨g, 0, none⟩) cap zs) (e : w'.heap[g]? = w.heap[g]?) : OwnI w' base (some ⟨g, 0, none⟩) cap zs := by
  refine ⟨h.1, ?_⟩
  rcases h.2 with ⟨hn, _⟩ | ⟨g', cap', cur, hv, hb, hg, rest⟩
  · cases hn
  · injection hv with hv _ hc; injection hv with hv; injection hv with hv; subst hv hc
    exact .inr ⟨g, cap, cur, rfl, hb, e.trans hg, rest⟩
theorem gl_app_lt {ps : List (List Int)} {zs : List Int} {i : Nat} (h : i < ps.length) : gl (ps ++ [zs]) i = gl ps i := by unfold gl; rw [List.getD_eq_getElem?_getD, List.getD_eq_getElem?_getD, List.getElem?_append_left h]
theorem gl_app_eq {ps : List (List Int)} {zs : List Int} : gl (ps ++ [zs]) ps.length = zs := by simp [gl]
/-- behind an append of a path that lies in a younger block -/
theorem ss_app {w1 W w' : World} {base N c N' c' g cp : Nat} {ps : List (List Int)} {zs : List Int} {xs : List Value} {F C : Nat → Nat}
    (h : SsOwn w1 base N c ps xs F C) (hk : ∀ b, base ≤ b → b < w1.heap.size → W.heap[b]? = w1.heap[b]?) (hbase : base ≤ w1.heap.size) (hO : OwnI W w1.heap.size (some ⟨g, 0, none⟩) cp zs)
    (hrow' : SlRow w' base N' (ps.length + 1) c' (xs ++ [.slice (some ⟨g, 0, none⟩) zs.length cp])) (hgr : W.grownBy w' (some N)) (hN' : N' = N ∨ N' = W.heap.size) (hsz : w1.heap.size ≤ W.heap.size) :
    SsOwn w' base N' c' (ps ++ [zs]) (xs ++ [.slice (some ⟨g, 0, none⟩) zs.length cp]) (fun i => if i < ps.length then F i else g) (fun i => if i < ps.length then C i else cp) := by
  have hN := h.row.lt
  have hgl := hO.lt
  have hxl : xs.length = ps.length := by have := h.row.1; omega
  have hold : ∀ i, i < ps.length → w'.heap[F i]? = w1.heap[F i]? := fun i hi => by
    have := h.flt hi
    exact (hgr.block _ (by omega) (by intro e; injection e with e; exact h.ne i hi e)).trans (hk _ this.1 this.2)
  have hnew : w'.heap[g]? = W.heap[g]? := hgr.block _ hgl.2 (by intro e; injection e with e; omega)
  refine ⟨by rw [List.length_append]; exact hrow', fun i hi => ?_, fun i hi => ?_, fun i hi => ?_, fun i j hij hj => ?_⟩
  · rw [List.length_append] at hi
    simp at hi
    by_cases h1 : i < ps.length
    · rw [if_pos h1, if_pos h1, gl_app_lt h1, List.getElem?_append_left (by omega)]; exact h.at_ i h1
    · obtain rfl : i = ps.length := by omega
      rw [if_neg (by omega), if_neg (by omega), gl_app_eq, List.getElem?_append_right (by omega), hxl]; simp
  · rw [List.length_append] at hi
    simp at hi
    by_cases h1 : i < ps.length
    · rw [if_pos h1, if_pos h1, gl_app_lt h1]; exact own_keptG (h.own i h1) (hold i h1)
    · obtain rfl : i = ps.length := by omega
      rw [if_neg (by omega), if_neg (by omega), gl_app_eq]; exact (own_keptG hO hnew).less hbase
  · rw [List.length_append] at hi
    simp at hi
    by_cases h1 : i < ps.length
    · rw [if_pos h1]; have h2 := h.ne i h1; have h3 := h.flt h1; omega
    · rw [if_neg h1]; omega
  · rw [List.length_append] at hj
    simp at hj
    rw [if_pos (show i < ps.length by omega)]
    by_cases h1 : j < ps.length
    · rw [if_pos h1]; exact h.inj i j hij h1
    · rw [if_neg h1]; have h3 := h.flt (show i < ps.length by omega); omega
/-- behind a store of a longer first path -/
theorem ss_set0 {w1 W w' : World} {base N c g' c' : Nat} {ps : List (List Int)} {zs : List Int} {xs : List Value} {F C : Nat → Nat}
    (h : SsOwn w1 base N c ps xs F C) (h0 : 0 < ps.length) (hk : ∀ b, base ≤ b → b < w1.heap.size → W.heap[b]? = w1.heap[b]?) (hsz : w1.heap.size ≤ W.heap.size)
    (hO : OwnI w' base (some ⟨g', 0, none⟩) c' zs) (hgr : W.grownBy w' (some (F 0))) (hg' : g' = F 0 ∨ g' = W.heap.size) :
    SsOwn (w'.setCell ⟨N, 0, none⟩ (.slice (some ⟨g', 0, none⟩) zs.length c')) base N c (ps.set 0 zs) (xs.set 0 (.slice (some ⟨g', 0, none⟩) zs.length c')) (fun i => if i = 0 then g' else F i) (fun i => if i = 0 then c' else C i) := by
  have hN := h.row.lt
  have hxl : xs.length = ps.length := by have := h.row.1; omega
  have h00 := h.ne 0 h0
  have hF0 := h.flt h0
  have hNk : w'.heap[N]? = w1.heap[N]? := (hgr.block _ (by omega) (by intro e; injection e with e; exact h00 e.symm)).trans (hk _ hN.1 hN.2)
  have hg'N : g' ≠ N := by omega
  have hne : ∀ b, b ≠ N → (w'.setCell ⟨N, 0, none⟩ (.slice (some ⟨g', 0, none⟩) zs.length c')).heap[b]? = w'.heap[b]? := fun b hb => Below.heap_setCell _ _ _ _ (by show b ≠ N; exact hb)
  have hglS : ∀ i, i ≠ 0 → gl (ps.set 0 zs) i = gl ps i := fun i hi => by simp [gl, Ne.symm hi]
  have hgl0 : gl (ps.set 0 zs) 0 = zs := by simp [gl, h0]
  refine ⟨by rw [List.length_set]; exact (h.row.kept hNk).set _, fun i hi => ?_, fun i hi => ?_, fun i hi => ?_, fun i j hij hj => ?_⟩
  · rw [List.length_set] at hi
    by_cases h1 : i = 0
    · subst h1; rw [if_pos rfl, if_pos rfl, hgl0]; simp [hxl, h0]
    · rw [if_neg h1, if_neg h1, hglS i h1, List.getElem?_set_ne (by omega)]; exact h.at_ i hi
  · rw [List.length_set] at hi
    by_cases h1 : i = 0
    · subst h1; rw [if_pos rfl, if_pos rfl, hgl0]; exact own_keptG hO (hne _ hg'N)
    · rw [if_neg h1, if_neg h1, hglS i h1]
      have h2 := h.flt hi
      have h3 := h.inj 0 i (by omega) hi
      exact own_keptG (h.own i hi) ((hne _ (h.ne i hi)).trans ((hgr.block _ (by omega) (by intro e; injection e with e; exact h3 e.symm)).trans (hk _ h2.1 h2.2)))
  · rw [List.length_set] at hi
    by_cases h1 : i = 0
    · subst h1; rw [if_pos rfl]; exact hg'N
    · rw [if_neg h1]; exact h.ne i hi
  · rw [List.length_set] at hj
    rw [if_neg (show ¬ j = 0 by omega)]
    have h2 := h.flt hj
    by_cases h1 : i = 0
    · subst h1; rw [if_pos rfl]; have h3 := h.inj 0 j hij hj; omega
    · rw [if_neg h1]; exact h.inj i j hij hj
/-- a row of one number in a new block -/
theorem own_lit {w : World} {base g n : Nat} {x : Int} (h : w.heap[g]? = some (.cells #[.int .i64 x] 3 (0, 0))) (hb : base ≤ g) : OwnI w base (some ⟨g, 0, none⟩) 1 [x] :=
  ⟨by simp [vals], .inr ⟨g, 1, _, rfl, hb, h, by simp, by unfold maxLen; omega, by simp, by simp [vals]⟩⟩
/-- a made row of zeros in a new block -/
theorem own_made {w : World} {base g n : Nat} (h : w.heap[g]? = some (.cells (madeCells #[.int .i64 0] n) 3 (0, 0))) (hb : base ≤ g) (hn : n ≤ maxLen) : OwnI w base (some ⟨g, 0, none⟩) n (List.replicate n 0) := by
  refine ⟨by simp [vals], .inr ⟨g, n, _, by simp, hb, h, by simp, hn, by simp [size_madeCells], ?_⟩⟩
  apply List.ext_getElem?
  intro i
  rw [List.length_replicate, Nat.mul_one]
  by_cases hi : i < n
  · rw [List.getElem?_take_of_lt hi, Array.getElem?_toList]
    simp [madeCells, hi, Nat.mod_one, vals]
  · rw [List.getElem?_eq_none (by simp; omega), List.getElem?_eq_none (by simp [vals]; omega)]
theorem src_sl {W : World} {N : Nat} {v : Value} (h : W.heap[N]? = some (.cells #[v] 34 (0, 0))) : ∀ j u, [v][j]? = some u → W.cell? ((⟨N, 0, none⟩ : Addr).add j) = some u := by
  intro j u hu
  rcases j with _ | j
  · rw [add_plain, cell_of_cells h]; simpa using hu
  · simp at hu
/-- append of one path -/
theorem wl_appP {ops : Array Oper} {rest : List Oper} {o : Oper} {a : Act} {Q : Exit → Act → World → Prop} (W : World) (hgd : o.guard = none) (s x : Operand)
    (ho : o.op = .call { callee := .builtin .append, args := #[s, x], argTypes := #[31, 31] })
    (base g n cap : Nat) (xs : List Value) (hs : a.eval s = .slice (some ⟨g, 0, none⟩) n cap) (hown : SlRow W base g n cap xs)
    (ad : Addr) (m c : Nat) (news : List Value) (hx : a.eval x = .slice (some ad) m c) (hl : news.length = m) (hnews : ∀ j u, news[j]? = some u → W.cell? (ad.add j) = some u)
    (h1 : ∀ u ∈ news, u.oneCell' = true) (r : Nat) (ys : List Value) (hr : n + m = r) (hys : xs ++ news = ys) (hb : r ≤ 1000000) (hbase : base ≤ W.heap.size)
    (h : ∀ g' cap' w', SlRow w' base g' r cap' ys → W.grownBy w' (some g) → (g' = g ∨ g' = W.heap.size) → wpList Try.prog ops Q rest (a.put o.dst (.slice (some ⟨g', 0, none⟩) r cap')) w') :
    wpList Try.prog ops Q (o :: rest) a W := by
  subst hr hys
  obtain ⟨i0, hi0, hz0, hz1, hz2⟩ := info_parts Try.infoSl
  refine wpList_append_own_at (P := Try.prog) W hgd s x _ ho base 34 i0 _ 1 24 Try.underlying31 hi0 hz0 hz1 hz2 rfl (by omega) _ n xs hs hown ad m c news hx (by omega) hnews h1 (by unfold maxLen; omega) (by omega) hbase ?_
  intro v' w' ho1 hg1 hnone hat
  have hv : ∃ g' cap', v' = .slice (some ⟨g', 0, none⟩) (n + m) cap' := by
    rcases ho1.2 with ⟨hn, _⟩ | ⟨g', cap', _, hv, _⟩
    · have := (hnone.1 hn).1; cases this
    · exact ⟨g', cap', hv⟩
  obtain ⟨g', cap', rfl⟩ := hv
  exact h g' cap' w' ho1 hg1 (by simpa [Value.ownBlock] using hat)
theorem step_appP {ops : Array Oper} {o : Oper} {a : Act} {K : Act → World → Prop} {Q : Exit → Act → World → Prop} {E : Prop} (W : World) (hgd : o.guard = none) (s x : Operand)
    (ho : o.op = .call { callee := .builtin .append, args := #[s, x], argTypes := #[31, 31] })
    (base g n cap : Nat) (xs : List Value) (hs : a.eval s = .slice (some ⟨g, 0, none⟩) n cap) (hown : SlRow W base g n cap xs)
    (ad : Addr) (m c : Nat) (news : List Value) (hx : a.eval x = .slice (some ad) m c) (hl : news.length = m) (hnews : ∀ j u, news[j]? = some u → W.cell? (ad.add j) = some u)
    (h1 : ∀ u ∈ news, u.oneCell' = true) (r : Nat) (ys : List Value) (hr : n + m = r) (hys : xs ++ news = ys) (hb : r ≤ 1000000) (hbase : base ≤ W.heap.size)
    (h : ∀ g' cap' w', SlRow w' base g' r cap' ys → W.grownBy w' (some g) → (g' = g ∨ g' = W.heap.size) → K (a.put o.dst (.slice (some ⟨g', 0, none⟩) r cap')) w') :
    if Region.wanted o (yielded ops a.tmps) = true then Oper.wp Try.prog o a W K Q else E := by
  have hw : Region.wanted o (yielded ops a.tmps) = true := by simp [Region.wanted, hgd]
  rw [if_pos hw]
  subst hr hys
  obtain ⟨i0, hi0, hz0, hz1, hz2⟩ := info_parts Try.infoSl
  obtain ⟨v', w', hrun, ho1, hg1, hnone, hat⟩ := run_append_own_at (P := Try.prog) W base 31 o.type 34 i0 _ 1 24 Try.underlying31 hi0 hz0 hz1 hz2 rfl (by omega) _ n xs hown ad m c news (by omega) hnews h1 (by unfold maxLen; omega) (by omega) hbase
  have hv : ∃ g' cap', v' = .slice (some ⟨g', 0, none⟩) (n + m) cap' := by
    rcases ho1.2 with ⟨hn, _⟩ | ⟨g', cap', _, hv, _⟩
    · have := (hnone.1 hn).1; cases this
    · exact ⟨g', cap', hv⟩
  obtain ⟨g', cap', rfl⟩ := hv
  unfold Oper.wp execOp
  simp only [ho, resolve, invoke, builtin, Sem.run_bind, Sem.run_pure, Result.andThen_ok, List.map_toArray, List.map_cons, List.map_nil, hs, hx, hrun]
  exact h g' cap' w' ho1 hg1 (by simpa [Value.ownBlock] using hat)
end Go.Proofs.Ytblhaccjngjekaa
