/- Drawing nodes, seldom invalid ones; drawing nodes and a key. -/
import Derived.Test.YtfhjmfcdogpbeaaGood
import Derived.Deep.RegionWith
namespace Go.Proofs.Ytfhjmfcdogpbeaa
open Go.RowKit
set_option linter.unusedVariables false
attribute [local go_sem ↓] Go.wp_at_zero Go.wp_at_succ

/-- A slice of numbers in blocks from 'base' on. -/
def IntsFrom (w : World) (base : Nat) (a : Option Addr) (zs : List Int) : Prop :=
  zs = [] ∨ ∃ b off, a = some ⟨b, off, none⟩ ∧ base ≤ b ∧ b < w.heap.size ∧ ∀ i, i < zs.length → w.cell? ⟨b, off + i, none⟩ = some (.int .i64 (gt zs i))
theorem IntsFrom.ints {w : World} {base : Nat} {a : Option Addr} {zs : List Int} (h : IntsFrom w base a zs) : IntsAt w a zs := by
  rcases h with h0 | ⟨b, off, ha, _, hb, hc⟩
  · exact .inl h0
  · exact .inr ⟨b, off, ha, hb, hc⟩
theorem OwnI.froms {w : World} {base : Nat} {a : Option Addr} {cap : Nat} {zs : List Int} (h : OwnI w base a cap zs) : IntsFrom w base a zs := by
  rcases Nat.eq_zero_or_pos zs.length with h0 | h0
  · exact .inl (List.eq_nil_of_length_eq_zero h0)
  · obtain ⟨g, ha, hb, hlt, hc, _⟩ := h.at_ h0
    exact .inr ⟨g, 0, ha, hb, hlt, fun i hi => by rw [Nat.zero_add]; exact hc i hi⟩
theorem IntsFrom.keep {w w' : World} {base : Nat} {a : Option Addr} {zs : List Int} (h : IntsFrom w base a zs) (hs : w.heap.size ≤ w'.heap.size) (hk : ∀ g, base ≤ g → g < w.heap.size → w'.heap[g]? = w.heap[g]?) : IntsFrom w' base a zs := by
  rcases h with h0 | ⟨b, off, ha, hb, hlt, hc⟩
  · exact .inl h0
  · exact .inr ⟨b, off, ha, hb, Nat.lt_of_lt_of_le hlt hs, fun i hi => (World.cell?_of_block (w := w) (hk b hb hlt)).trans (hc i hi)⟩

theorem OwnI.set {w : World} {base g cap i : Nat} {zs : List Int} (h : OwnI w base (some ⟨g, 0, none⟩) cap zs) (hi : i < zs.length) (x : Int) :
    OwnI (w.setCell ⟨g, i, none⟩ (.int .i64 x)) base (some ⟨g, 0, none⟩) cap (zs.set i x) := by
  rcases h.2 with ⟨hv, _⟩ | ⟨g', cap', cur, hv, hb, hg, hnc, hcm, hs, ht⟩
  · cases hv
  · injection hv with ha _ hcap
    injection ha with ha
    injection ha with ha
    subst ha hcap
    have hlen : (zs.set i x).length = zs.length := by simp
    refine ⟨by rw [vals_len]; omega, .inr ⟨g, cap, cur.setIfInBounds i (.int .i64 x), by rw [hlen], hb, ?_, by rw [hlen]; exact hnc, hcm, by simpa using hs, ?_⟩⟩
    · simp [World.setCell, Array.getElem?_modify, hg]
    · rw [hlen]
      have e : (cur.setIfInBounds i (Value.int .i64 x)).toList = cur.toList.set i (.int .i64 x) := by simp
      rw [e, List.take_set, ht]
      simp [vals, List.map_set]

theorem wl_app {ops : Array Oper} {rest : List Oper} {o : Oper} {a : Act} {Q : Exit → Act → World → Prop} (W : World) (hgd : o.guard = none) (s x : Operand)
    (ho : o.op = .call { callee := .builtin .append, args := #[s, x], argTypes := #[25, 25] })
    (base g n cap : Nat) (xs : List Value) (hs : a.eval s = .slice (some ⟨g, 0, none⟩) n cap) (hown : W.ownsRow base 3 1 (.slice (some ⟨g, 0, none⟩) n cap) n xs)
    (ad : Addr) (m c : Nat) (news : List Value) (hx : a.eval x = .slice (some ad) m c) (hl : news.length = m) (hnews : ∀ j u, news[j]? = some u → W.cell? (ad.add j) = some u)
    (h1 : ∀ u ∈ news, u.oneCell' = true) (r : Nat) (ys : List Value) (hr : n + m = r) (hys : xs ++ news = ys) (hb : r ≤ 1000000) (hbase : base ≤ W.heap.size)
    (h : ∀ g' cap' w', w'.ownsRow base 3 1 (.slice (some ⟨g', 0, none⟩) r cap') r ys → W.grownBy w' (some g) → (g' = g ∨ g' = W.heap.size) → wpList Try.prog ops Q rest (a.put o.dst (.slice (some ⟨g', 0, none⟩) r cap')) w') :
    wpList Try.prog ops Q (o :: rest) a W := by
  subst hr hys
  obtain ⟨i0, hi0, hz0, hz1, hz2⟩ := info_parts Try.infoI
  refine wpList_append_own_at (P := Try.prog) W hgd s x _ ho base 3 i0 _ 1 8 Try.underlying25 hi0 hz0 hz1 hz2 rfl (by omega) _ n xs hs hown ad m c news hx (by omega) hnews h1 (by unfold maxLen; omega) (by omega) hbase ?_
  intro v' w' ho1 hg1 hnone hat
  have hv : ∃ g' cap', v' = .slice (some ⟨g', 0, none⟩) (n + m) cap' := by
    rcases ho1.2 with ⟨hn, _⟩ | ⟨g', cap', _, hv, _⟩
    · have := (hnone.1 hn).1; cases this
    · exact ⟨g', cap', hv⟩
  obtain ⟨g', cap', rfl⟩ := hv
  exact h g' cap' w' ho1 hg1 (by simpa [Value.ownBlock] using hat)

/-- what drawing nodes leaves -/
def NodesPost (q K : Nat) (w : World) (e : Ending) (w' : World) : Prop :=
  ∃ (a : Option Addr) (cap : Nat) (zs : List Int), e = .returned (.slice a zs.length cap) ∧ IntsFrom w' w.heap.size a zs ∧ zs.length ≤ 20 ∧ zs.length ≤ cap ∧ Ready w' q K ∧ w.grownBy w' (some q)

theorem src_self {w : World} {base g cap : Nat} {zs : List Int} (h : OwnI w base (some ⟨g, 0, none⟩) cap zs) :
    ∀ j u, (vals zs)[j]? = some u → w.cell? ((⟨g, 0, none⟩ : Addr).add j) = some u := by
  have h' := src_take (k := zs.length) h (Below.refl _ _)
  rw [List.take_length] at h'
  exact h'


/-- drawn nodes and a drawn key -/
def DrewNK (w : World) (e : Ending) (w' : World) : Prop :=
  ∃ (a : Option Addr) (cap : Nat) (zs : List Int) (key : Int), e = .returned (.tuple #[.slice a zs.length cap, .int .i64 key]) ∧ IntsFrom w' w.heap.size a zs ∧ zs.length ≤ 20 ∧ zs.length ≤ cap ∧ Below w.heap.size w w'
def DrewN (w : World) (e : Ending) (w' : World) : Prop :=
  ∃ (a : Option Addr) (cap : Nat) (zs : List Int), e = .returned (.slice a zs.length cap) ∧ IntsFrom w' w.heap.size a zs ∧ zs.length ≤ 20 ∧ zs.length ≤ cap ∧ Below w.heap.size w w'

theorem below_of_grown {q : Nat} {w w0 w1 : World} (hb : Below w.heap.size w w0) (hq : w.heap.size ≤ q) (hz : w.heap.size ≤ w0.heap.size) (hg : w0.grownBy w1 (some q)) : Below w.heap.size w w1 :=
  hb.grown hg hz (fun k hk => by injection hk with hk; omega)



end Go.Proofs.Ytfhjmfcdogpbeaa
