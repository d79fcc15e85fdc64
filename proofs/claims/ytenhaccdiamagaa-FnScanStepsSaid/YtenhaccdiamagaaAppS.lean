/- append of whatever slice of numbers, nil too, onto a row of the call's own. -/
import Derived.Test.YtenhaccdiamagaaRowsI
import Derived.Deep.AppendSrc
namespace Go.Proofs.Ytenhaccdiamagaa
open Go.RowKit
set_option linter.unusedVariables false

theorem src_ints {W : World} {b off : Nat} {zs : List Int} (h : ∀ i, i < zs.length → W.cell? ⟨b, off + i, none⟩ = some (.int .i64 (gt zs i))) :
    ∀ j u, (vals zs)[j]? = some u → W.cell? ((⟨b, off, none⟩ : Addr).add j) = some u := by
  intro j u hu
  have hj : j < zs.length := by
    rcases Nat.lt_or_ge j zs.length with h' | h'
    · exact h'
    · rw [List.getElem?_eq_none (by rw [vals_len]; exact h')] at hu; cases hu
  rw [add_plain, h j hj, ← hu, vals_get hj]
theorem run_appS (W : World) (ty : TypeId) (base g n cap : Nat) (xs : List Value) (hown : W.ownsRow base 3 1 (.slice (some ⟨g, 0, none⟩) n cap) n xs)
    (sa : Option Addr) (m c : Nat) (zs : List Int) (hz : zs.length = m) (hi : IntsAt W sa zs) (hb : n + m ≤ 1000000) (hbase : base ≤ W.heap.size) :
    ∃ g' cap' w', (Builtin.append_ #[24, 24] ty #[.slice (some ⟨g, 0, none⟩) n cap, .slice sa m c]).run Try.prog W = .ok (.slice (some ⟨g', 0, none⟩) (n + m) cap') w' ∧
      w'.ownsRow base 3 1 (.slice (some ⟨g', 0, none⟩) (n + m) cap') (n + m) (xs ++ vals zs) ∧ W.grownBy w' (some g) ∧ (g' = g ∨ g' = W.heap.size) := by
  obtain ⟨i0, hi0, hz0, hz1, hz2⟩ := info_parts Try.infoI
  have hsome : ∀ (ad : Addr), sa = some ad → (∀ j u, (vals zs)[j]? = some u → W.cell? (ad.add j) = some u) → ∃ g' cap' w', (Builtin.append_ #[24, 24] ty #[.slice (some ⟨g, 0, none⟩) n cap, .slice sa m c]).run Try.prog W = .ok (.slice (some ⟨g', 0, none⟩) (n + m) cap') w' ∧
      w'.ownsRow base 3 1 (.slice (some ⟨g', 0, none⟩) (n + m) cap') (n + m) (xs ++ vals zs) ∧ W.grownBy w' (some g) ∧ (g' = g ∨ g' = W.heap.size) := by
    intro ad hsa hsrc
    subst hsa
    obtain ⟨v', w', hrun, ho1, hg1, hnone, hat⟩ := run_append_own_at (P := Try.prog) W base 24 ty 3 i0 _ 1 8 Try.underlying24 hi0 hz0 hz1 hz2 rfl (by omega) _ n xs hown ad m c (vals zs) (by rw [vals_len]; omega) hsrc (vals_one _) (by unfold maxLen; omega) (by omega) hbase
    have hv : ∃ g' cap', v' = .slice (some ⟨g', 0, none⟩) (n + m) cap' := by
      rcases ho1.2 with ⟨hn, _⟩ | ⟨g', cap', _, hv, _⟩
      · have := (hnone.1 hn).1; cases this
      · exact ⟨g', cap', hv⟩
    obtain ⟨g', cap', rfl⟩ := hv
    exact ⟨g', cap', w', hrun, ho1, hg1, by simpa [Value.ownBlock] using hat⟩
  rcases hi with h0 | ⟨b, off, ha, hlt, hc⟩
  · subst h0
    obtain rfl : m = 0 := hz.symm
    cases sa with
    | some ad => exact hsome ad rfl (fun j u hu => by simp [vals] at hu)
    | none =>
      have hcap : n ≤ cap := by
        rcases hown.2 with ⟨hn, _⟩ | ⟨g', cap', _, hv, _, _, hnc, _⟩
        · cases hn
        · injection hv with _ _ hc; rw [hc]; exact hnc
      have h1 := run_append_room_src (P := Try.prog) W 24 24 ty 3 i0 Try.underlying24 hi0 g 0 n cap (.slice none 0 c) 0 [] (Src.ofNil W Try.underlying24 c) (by omega) (fun j hj => by cases hj) (fun j hj => by cases hj)
      exact ⟨g, cap, W, h1, by simpa [vals] using hown, ⟨rfl, rfl, rfl, Nat.le_refl _, fun _ _ _ => rfl⟩, .inl rfl⟩
  · exact hsome _ ha (src_ints hc)
theorem wl_appS {ops : Array Oper} {rest : List Oper} {o : Oper} {a : Act} {Q : Exit → Act → World → Prop} (W : World) (hgd : o.guard = none) (s x : Operand)
    (ho : o.op = .call { callee := .builtin .append, args := #[s, x], argTypes := #[24, 24] })
    (base g n cap : Nat) (xs : List Value) (hs : a.eval s = .slice (some ⟨g, 0, none⟩) n cap) (hown : W.ownsRow base 3 1 (.slice (some ⟨g, 0, none⟩) n cap) n xs)
    (sa : Option Addr) (m c : Nat) (zs : List Int) (hx : a.eval x = .slice sa m c) (hz : zs.length = m) (hi : IntsAt W sa zs) (r : Nat) (hr : n + m = r) (hb : r ≤ 1000000) (hbase : base ≤ W.heap.size)
    (h : ∀ g' cap' w', w'.ownsRow base 3 1 (.slice (some ⟨g', 0, none⟩) r cap') r (xs ++ vals zs) → W.grownBy w' (some g) → (g' = g ∨ g' = W.heap.size) → wpList Try.prog ops Q rest (a.put o.dst (.slice (some ⟨g', 0, none⟩) r cap')) w') :
    wpList Try.prog ops Q (o :: rest) a W := by
  subst hr
  refine wpList_plain hgd fun K hK => ?_
  obtain ⟨g', cap', w', hrun, h2, h3, h4⟩ := run_appS W o.type base g n cap xs hown sa m c zs hz hi hb hbase
  unfold Oper.wp execOp
  simp only [ho, resolve, invoke, builtin, Sem.run_bind, Sem.run_pure, Result.andThen_ok, List.map_toArray, List.map_cons, List.map_nil, hs, hx, hrun]
  exact hK _ _ (h g' cap' w' h2 h3 h4)
theorem step_appS {ops : Array Oper} {o : Oper} {a : Act} {K : Act → World → Prop} {Q : Exit → Act → World → Prop} {E : Prop} (W : World) (hgd : o.guard = none) (s x : Operand)
    (ho : o.op = .call { callee := .builtin .append, args := #[s, x], argTypes := #[24, 24] })
    (base g n cap : Nat) (xs : List Value) (hs : a.eval s = .slice (some ⟨g, 0, none⟩) n cap) (hown : W.ownsRow base 3 1 (.slice (some ⟨g, 0, none⟩) n cap) n xs)
    (sa : Option Addr) (m c : Nat) (zs : List Int) (hx : a.eval x = .slice sa m c) (hz : zs.length = m) (hi : IntsAt W sa zs) (r : Nat) (hr : n + m = r) (hb : r ≤ 1000000) (hbase : base ≤ W.heap.size)
    (h : ∀ g' cap' w', w'.ownsRow base 3 1 (.slice (some ⟨g', 0, none⟩) r cap') r (xs ++ vals zs) → W.grownBy w' (some g) → (g' = g ∨ g' = W.heap.size) → K (a.put o.dst (.slice (some ⟨g', 0, none⟩) r cap')) w') :
    if Region.wanted o (yielded ops a.tmps) = true then Oper.wp Try.prog o a W K Q else E := by
  have hw : Region.wanted o (yielded ops a.tmps) = true := by simp [Region.wanted, hgd]
  rw [if_pos hw]
  subst hr
  obtain ⟨g', cap', w', hrun, h2, h3, h4⟩ := run_appS W o.type base g n cap xs hown sa m c zs hz hi hb hbase
  unfold Oper.wp execOp
  simp only [ho, resolve, invoke, builtin, Sem.run_bind, Sem.run_pure, Result.andThen_ok, List.map_toArray, List.map_cons, List.map_nil, hs, hx, hrun]
  exact h g' cap' w' h2 h3 h4
/-- behind an append of zs onto an empty row -/
theorem own_whole {w : World} {base g cap n : Nat} {zs : List Int} (h : w.ownsRow base 3 1 (.slice (some ⟨g, 0, none⟩) n cap) n ([] ++ vals zs)) (hn : zs.length = n) : OwnI w base (some ⟨g, 0, none⟩) cap zs := by
  subst hn; exact h
end Go.Proofs.Ytenhaccdiamagaa
