/- Drawing nodes, seldom invalid ones; drawing nodes and a key. -/
import Derived.Test.YtphkpkafhilenaaGood
import Derived.Deep.RegionWith
namespace Go.Proofs.Ytphkpkafhilenaa
open Go.RowKit
set_option linter.unusedVariables false
attribute [local go_sem ↓] Go.wp_at_zero Go.wp_at_succ

/-- A slice of numbers in blocks from 'base' on. -/
def IntsFrom (w : World) (base : Nat) (a : Option Addr) (zs : List Int) : Prop :=
  zs = [] ∨ ∃ b off, a = some ⟨b, off, none⟩ ∧ base ≤ b ∧ b < w.heap.size ∧ ∀ i, i < zs.length → w.cell? ⟨b, off + i, none⟩ = some (.int .i64 (gt zs i))
theorem IntsFrom.ints {w : World} {base : Nat} {a : Option Addr} {zs : List Int} (h : IntsFrom w base a zs) : IntsAt w a zs := by
  rcases h with h0 | ⟨b, off, ha, _, hb, hc⟩
  · exact .inl h0
  · exact .inr ⟨b, off, ha, hb, hc⟩
theorem OwnI.froms {w : World} {base : Nat} {a : Option Addr} {cap : Nat} {zs : List Int} (h : OwnI w base a cap zs) : IntsFrom w base a zs := by
  rcases Nat.eq_zero_or_pos zs.length with h0 | h0
  · exact .inl (List.eq_nil_of_length_eq_zero h0)
  · obtain ⟨g, ha, hb, hlt, hc, _⟩ := h.at_ h0
    exact .inr ⟨g, 0, ha, hb, hlt, fun i hi => by rw [Nat.zero_add]; exact hc i hi⟩
theorem IntsFrom.keep {w w' : World} {base : Nat} {a : Option Addr} {zs : List Int} (h : IntsFrom w base a zs) (hs : w.heap.size ≤ w'.heap.size) (hk : ∀ g, base ≤ g → g < w.heap.size → w'.heap[g]? = w.heap[g]?) : IntsFrom w' base a zs := by
  rcases h with h0 | ⟨b, off, ha, hb, hlt, hc⟩
  · exact .inl h0
  · exact .inr ⟨b, off, ha, hb, Nat.lt_of_lt_of_le hlt hs, fun i hi => (World.cell?_of_block (w := w) (hk b hb hlt)).trans (hc i hi)⟩

theorem OwnI.set {w : World} {base g cap i : Nat} {zs : List Int} (h : OwnI w base (some ⟨g, 0, none⟩) cap zs) (hi : i < zs.length) (x : Int) :
    OwnI (w.setCell ⟨g, i, none⟩ (.int .i64 x)) base (some ⟨g, 0, none⟩) cap (zs.set i x) := by
  rcases h.2 with ⟨hv, _⟩ | ⟨g', cap', cur, hv, hb, hg, hnc, hcm, hs, ht⟩
  · cases hv
  · injection hv with ha _ hcap
    injection ha with ha
    injection ha with ha
    subst ha hcap
    have hlen : (zs.set i x).length = zs.length := by simp
    refine ⟨by rw [vals_len]; omega, .inr ⟨g, cap, cur.setIfInBounds i (.int .i64 x), by rw [hlen], hb, ?_, by rw [hlen]; exact hnc, hcm, by simpa using hs, ?_⟩⟩
    · simp [World.setCell, Array.getElem?_modify, hg]
    · rw [hlen]
      have e : (cur.setIfInBounds i (Value.int .i64 x)).toList = cur.toList.set i (.int .i64 x) := by simp
      rw [e, List.take_set, ht]
      simp [vals, List.map_set]

theorem wl_app {ops : Array Oper} {rest : List Oper} {o : Oper} {a : Act} {Q : Exit → Act → World → Prop} (W : World) (hgd : o.guard = none) (s x : Operand)
    (ho : o.op = .call { callee := .builtin .append, args := #[s, x], argTypes := #[32, 32] })
    (base g n cap : Nat) (xs : List Value) (hs : a.eval s = .slice (some ⟨g, 0, none⟩) n cap) (hown : W.ownsRow base 3 1 (.slice (some ⟨g, 0, none⟩) n cap) n xs)
    (ad : Addr) (m c : Nat) (news : List Value) (hx : a.eval x = .slice (some ad) m c) (hl : news.length = m) (hnews : ∀ j u, news[j]? = some u → W.cell? (ad.add j) = some u)
    (h1 : ∀ u ∈ news, u.oneCell' = true) (r : Nat) (ys : List Value) (hr : n + m = r) (hys : xs ++ news = ys) (hb : r ≤ 1000000) (hbase : base ≤ W.heap.size)
    (h : ∀ g' cap' w', w'.ownsRow base 3 1 (.slice (some ⟨g', 0, none⟩) r cap') r ys → W.grownBy w' (some g) → (g' = g ∨ g' = W.heap.size) → wpList Try.prog ops Q rest (a.put o.dst (.slice (some ⟨g', 0, none⟩) r cap')) w') :
    wpList Try.prog ops Q (o :: rest) a W := by
  subst hr hys
  obtain ⟨i0, hi0, hz0, hz1, hz2⟩ := info_parts Try.infoI
  refine wpList_append_own_at (P := Try.prog) W hgd s x _ ho base 3 i0 _ 1 8 Try.underlying32 hi0 hz0 hz1 hz2 rfl (by omega) _ n xs hs hown ad m c news hx (by omega) hnews h1 (by unfold maxLen; omega) (by omega) hbase ?_
  intro v' w' ho1 hg1 hnone hat
  have hv : ∃ g' cap', v' = .slice (some ⟨g', 0, none⟩) (n + m) cap' := by
    rcases ho1.2 with ⟨hn, _⟩ | ⟨g', cap', _, hv, _⟩
    · have := (hnone.1 hn).1; cases this
    · exact ⟨g', cap', hv⟩
  obtain ⟨g', cap', rfl⟩ := hv
  exact h g' cap' w' ho1 hg1 (by simpa [Value.ownBlock] using hat)

/-- what drawing nodes leaves -/
def NodesPost (q K : Nat) (w : World) (e : Ending) (w' : World) : Prop :=
  ∃ (a : Option Addr) (cap : Nat) (zs : List Int), e = .returned (.slice a zs.length cap) ∧ IntsFrom w' w.heap.size a zs ∧ zs.length ≤ 20 ∧ zs.length ≤ cap ∧ Ready w' q K ∧ w.grownBy w' (some q)

theorem src_self {w : World} {base g cap : Nat} {zs : List Int} (h : OwnI w base (some ⟨g, 0, none⟩) cap zs) :
    ∀ j u, (vals zs)[j]? = some u → w.cell? ((⟨g, 0, none⟩ : Addr).add j) = some u := by
  have h' := src_take (k := zs.length) h (Below.refl _ _)
  rw [List.take_length] at h'
  exact h'

set_option maxHeartbeats 1000000 in
theorem nodes_any (q K : Nat) (w : World) (h : Ready w q (K + 15)) :
    Calls Try.prog 46 #[.pointer (some ⟨q, 0, none⟩)] w (NodesPost q K w) := by
  have hq := h.lt
  have HR := Lib.hid h
  clear h
  go_enter Try.func46, Try.ntmps46
  go_wp2_with fail
  refine (good_any q (K + 4) 1 w (HR.out) (by omega) (by omega)).mono ?_
  rintro e w1 ⟨g, cap, zs, rfl, hown, hl1, hl2, hr1, hg1⟩
  have hcap := hown.cap_le
  unfold maxLen at hcap
  have hs1 := hg1.size
  go_wp2_with fail
  refine (pick_r q (K + 3) 20 w1 hr1 (by omega) (by omega)).mono ?_
  rintro e w2 ⟨v, hv0, hv1, rfl, hr2, hk2⟩
  have hown2 : OwnI w2 w.heap.size (some ⟨g, 0, none⟩) cap zs := hown.kept (fun g hg hg' => hk2.block g (by omega))
  have hg2 : w.grownBy w2 (some q) := grown_trans hg1 hk2.grown
  have hs2 := hg2.size
  by_cases hv : v = 0
  · subst hv
    go_wp2_with fail
    refine (pick_r q (K + 2) _ w2 hr2 (by omega) (by omega)).mono ?_
    rintro e w3 ⟨u, hu0, hu1, rfl, hr3, hk3⟩
    have hown3 : OwnI w3 w.heap.size (some ⟨g, 0, none⟩) cap zs := hown2.kept (fun g hg hg' => hk3.block g (by omega))
    have hg3 : w.grownBy w3 (some q) := grown_trans hg2 hk3.grown
    go_wp2_with fail
    refine (point_r q K w3 hr3).mono ?_
    rintro e w4 ⟨x, hx0, hx1, rfl, hr4, hk4⟩
    have hown4 : OwnI w4 w.heap.size (some ⟨g, 0, none⟩) cap zs := hown3.kept (fun g hg hg' => hk4.block g (by omega))
    have hg4 : w.grownBy w4 (some q) := grown_trans hg3 hk4.grown
    obtain ⟨j, rfl⟩ := Int.eq_ofNat_of_zero_le hu0
    have hj : j < zs.length := by omega
    obtain ⟨g', ha, hbg, hlt, hc, hfz⟩ := hown4.at_ (by omega)
    injection ha with ha
    injection ha with ha
    subst ha
    have hcj := hc j hj
    have hfj := hfz j
    clear hc hfz
    go_wp2
    go_ret
    refine ⟨_, cap, zs.set j x, by rw [List.length_set]; rfl, (hown4.set hj x).froms, by rw [List.length_set]; omega, by rw [List.length_set]; omega, ?_, ?_⟩
    · exact hr4.keep (fun i hi => Below.heap_setCell _ _ _ _ (by show i ≠ g; omega))
    · exact ⟨hg4.os, hg4.tape, hg4.output, by simpa [World.setCell] using hg4.size, fun i hi hne => (Below.heap_setCell _ _ _ _ (by show i ≠ g; omega)).trans (hg4.block i hi hne)⟩
  have hvB : (v == 0) = false := by simp [hv]
  by_cases hv1' : v = 1
  · subst hv1'
    have hsz : q < w2.heap.size := by omega
    go_wp2_with (at_builtin; refine wl_app _ (by rfl) _ _ (by rfl) w.heap.size g zs.length cap (vals zs) (by rfl) hown2 ⟨g, 0, none⟩ zs.length cap (vals zs) (by rfl) (vals_len zs) (src_self hown2) (vals_one _) (zs.length + zs.length) (vals (zs ++ zs)) rfl (by simp [vals]) (by omega) hs2 ?_; intro g5 cap5 w5 hown5 hg5 hat5)
    go_ret
    have hgl := hown2.at_ (by omega)
    obtain ⟨g', ha, hbg, hlt, _, _⟩ := hgl
    injection ha with ha
    injection ha with ha
    subst ha
    have hown5' : OwnI w5 w.heap.size (some ⟨g5, 0, none⟩) cap5 (zs ++ zs) := by unfold OwnI; rw [List.length_append]; exact hown5
    refine ⟨_, cap5, zs ++ zs, by rw [List.length_append]; rfl, hown5'.froms, by rw [List.length_append]; omega, hown5'.cap_le.1, ?_, ?_⟩
    · exact (hr2.less (by omega)).keep (fun i hi => hg5.block i (by omega) (by intro e; injection e with e; omega))
    · exact ⟨hg5.os.trans hg2.os, hg5.tape.trans hg2.tape, hg5.output.trans hg2.output, Nat.le_trans hg2.size hg5.size, fun i hi hne => (hg5.block i (by omega) (by intro e; injection e with e; omega)).trans (hg2.block i hi hne)⟩
  have hvB1 : (v == 1) = false := by simp [hv1']
  by_cases hv2 : v = 2
  · subst hv2
    go_wp2
    go_ret
    exact ⟨_, cap, [], rfl, .inl rfl, by simp, by simp, hr2.less (by omega), hg2⟩
  have hvB2 : (v == 2) = false := by simp [hv2]
  go_wp2
  go_ret
  exact ⟨_, cap, zs, rfl, hown2.froms, by omega, by omega, hr2.less (by omega), hg2⟩

/-- drawn nodes and a drawn key -/
def DrewNK (w : World) (e : Ending) (w' : World) : Prop :=
  ∃ (a : Option Addr) (cap : Nat) (zs : List Int) (key : Int), e = .returned (.tuple #[.slice a zs.length cap, .int .i64 key]) ∧ IntsFrom w' w.heap.size a zs ∧ zs.length ≤ 20 ∧ zs.length ≤ cap ∧ Below w.heap.size w w'
def DrewN (w : World) (e : Ending) (w' : World) : Prop :=
  ∃ (a : Option Addr) (cap : Nat) (zs : List Int), e = .returned (.slice a zs.length cap) ∧ IntsFrom w' w.heap.size a zs ∧ zs.length ≤ 20 ∧ zs.length ≤ cap ∧ Below w.heap.size w w'

theorem below_of_grown {q : Nat} {w w0 w1 : World} (hb : Below w.heap.size w w0) (hq : w.heap.size ≤ q) (hz : w.heap.size ≤ w0.heap.size) (hg : w0.grownBy w1 (some q)) : Below w.heap.size w w1 :=
  hb.grown hg hz (fun k hk => by injection hk with hk; omega)

theorem drawNodesValid (s : Option Addr) (len cap : Nat) (w : World) (h : BytesAt w s len cap) :
    Calls Try.prog 32 #[.slice s len cap] w (DrewN w) := by
  go_enter Try.func32, Try.ntmps32
  go_wp2_with fail
  refine (open_any s len cap w h).mono ?_
  rintro e w0 ⟨rfl, hr0, hb0, hz0⟩
  have HZ := Lib.hid hz0
  clear hz0
  go_wp2_with fail
  refine (nodes_any w.heap.size 5 w0 (hr0.less (by omega))).mono ?_
  rintro e w1 ⟨a, cap1, zs, rfl, hi, hl, hlc, hr1, hg1⟩
  go_wp2
  go_ret
  have hz := HZ.out
  exact ⟨a, cap1, zs, rfl, by
    rcases hi with h0 | ⟨b, off, ha, hb, hlt, hc⟩
    · exact .inl h0
    · exact .inr ⟨b, off, ha, by omega, hlt, hc⟩, hl, hlc, below_of_grown hb0 (Nat.le_refl _) (by omega) hg1⟩

set_option maxHeartbeats 1000000 in
theorem drawNodesNext (s : Option Addr) (len cap : Nat) (w : World) (h : BytesAt w s len cap) :
    Calls Try.prog 25 #[.slice s len cap] w (DrewNK w) := by
  go_enter Try.func25, Try.ntmps25
  go_wp2_with fail
  refine (open_any s len cap w h).mono ?_
  rintro e w0 ⟨rfl, hr0, hb0, hz0⟩
  have HZ := Lib.hid hz0
  clear hz0
  go_wp2_with fail
  refine (nodes_any w.heap.size 5 w0 (hr0.less (by omega))).mono ?_
  rintro e w1 ⟨a, cap1, zs, rfl, hi0, hl, hlc, hr1, hg1⟩
  have hi1 : IntsFrom w1 (w.heap.size + 1) a zs := by rw [← HZ.out]; exact hi0
  have hB1 : Below w.heap.size w w1 := below_of_grown hb0 (Nat.le_refl _) (by have := HZ.out; omega) hg1
  clear hi0
  go_wp2_with fail
  refine (pick_r w.heap.size 4 3 w1 hr1 (by omega) (by omega)).mono ?_
  rintro e w2 ⟨v, hv0, hv1, rfl, hr2, hk2⟩
  have hi2 : IntsFrom w2 (w.heap.size + 1) a zs := hi1.keep (Nat.le_of_eq hk2.size.symm) (fun g hg _ => hk2.block g (by omega))
  have hB2 : Below w.heap.size w w2 := hB1.trans (hk2.below (Nat.le_refl _))
  have fin : ∀ (w3 : World) (key : Int), Kept w.heap.size w2 w3 → DrewNK w (.returned (.tuple #[.slice a zs.length cap1, .int .i64 key])) w3 := by
    intro w3 key hk3
    refine ⟨a, cap1, zs, key, rfl, ?_, hl, hlc, hB2.trans (hk3.below (Nat.le_refl _))⟩
    rcases hi2.keep (Nat.le_of_eq hk3.size.symm) (fun g hg _ => hk3.block g (by omega)) with h0 | ⟨b, off, ha, hb, hlt, hc⟩
    · exact .inl h0
    · exact .inr ⟨b, off, ha, by omega, hlt, hc⟩
  have FIN := Lib.hid fin
  clear fin
  by_cases hz : v = 0 ∧ 0 < zs.length
  · obtain ⟨rfl, hpos⟩ := hz
    rcases hi2 with h0 | ⟨b, off, ha, hb, hlt, hc⟩
    · rw [h0] at hpos; simp at hpos
    · subst ha
      have HC := Lib.hid hc
      clear hc
      go_wp2
      go_region_with ((go_at_call 37; refine (pick_r w.heap.size 3 _ _ (by exact hr2) (by omega) (by omega)).mono ?_; rintro e w3 ⟨u, hu0, hu1, rfl, hr3, hk3⟩; obtain ⟨j, rfl⟩ := Int.eq_ofNat_of_zero_le hu0; have hcj : w3.cell? ⟨b, off + j, none⟩ = some (.int .i64 (gt zs j)) := (hk3.cell (p := ⟨b, off + j, none⟩) (by show b ≠ w.heap.size; omega)).trans (HC.out j (by omega))))
      all_goals
        go_wp2
        go_ret2
        exact FIN.out _ _ ⟨hk3.os, hk3.tape, hk3.output, hk3.size, hk3.block⟩
  · by_cases hv : v = 0
    · subst hv
      have hlen : zs.length = 0 := by omega
      have hlz : ((zs.length : Nat) : Int) ≤ 0 := by omega
      have HL := Lib.hid hlen
      clear hlen hz
      go_wp2_with fail
      refine (point_r w.heap.size 2 w2 hr2).mono ?_
      rintro e w3 ⟨x, hx0, hx1, rfl, hr3, hk3⟩
      go_wp2
      go_ret2
      exact FIN.out _ _ hk3
    · have hvB : (v == 0) = false := by simp [hv]
      clear hz hv
      go_wp2_with fail
      refine (point_r w.heap.size 2 w2 hr2).mono ?_
      rintro e w3 ⟨x, hx0, hx1, rfl, hr3, hk3⟩
      go_wp2
      go_ret2
      exact FIN.out _ _ hk3

theorem drawNodesBefore (s : Option Addr) (len cap : Nat) (w : World) (h : BytesAt w s len cap) :
    Calls Try.prog 30 #[.slice s len cap] w (DrewNK w) := by
  go_enter Try.func30, Try.ntmps30
  go_wp2_with fail
  refine (drawNodesNext s len cap w h).mono ?_
  rintro e w1 ⟨a, cap1, zs, key, rfl, hi, hl, hlc, hB⟩
  go_wp2
  go_ret2
  exact ⟨a, cap1, zs, key, rfl, hi, hl, hlc, hB⟩
end Go.Proofs.Ytphkpkafhilenaa
