/- linkNetwork, and the nodes of a network. -/
import Derived.Test.YtcbbdhmloniolaaNwStab
import Derived.Test.YtcbbdhmloniolaaNewR2
namespace Go.Proofs.Ytcbbdhmloniolaa
open Go.RowKit
set_option linter.unusedVariables false

theorem cnone_network (arr : Array Value) (h : arr = (Array.replicate 64 (.pointer none)).push (.slice none 0 0)) : CNone arr 78 (some (.slice none 0 0)) := by
  subst h
  exact ⟨⟨by decide, by decide, by decide⟩, by simp, by simp [Array.getElem_push], fun x hx => by rw [Array.getElem?_push, if_neg (by simp; omega), Array.getElem?_replicate, if_pos hx]⟩
def LinkedN (r : List Nd) (w : World) (e : Ending) (w' : World) : Prop :=
  ∃ K, e = .returned (.pointer (some ⟨w.heap.size, 0, none⟩)) ∧ NW w' w.heap.size (w.heap.size + 1) r.length K r ∧ Below w.heap.size w w'

set_option maxHeartbeats 1000000 in
theorem linkN_any (a : Option Addr) (len cap : Nat) (r : List Nd) (w : World) (h : RingAt w a r) (hz : r.length = len) (hv : rvB r = true) :
    Calls Try.prog 51 #[.slice a len cap] w (LinkedN r w) := by
  have HI := Lib.hid h
  have HZ := Lib.hid hz
  have HV := Lib.hid hv
  clear h hz hv
  go_enter Try.func51, Try.ntmps51
  go_wp2_with fail
  refine (links_any a len cap r w _ _ (some (.slice none 0 0)) (cnone_network _ (by rfl)) HI.out HZ.out HV.out).mono ?_
  rintro e w1 ⟨K, la, rfl, hL, hD, hl, hB⟩
  obtain ⟨t0, t1⟩ := hL.topcell
  have HL := Lib.hid hL
  have HD := Lib.hid hD
  have Hl := Lib.hid hl
  clear hL hD hl
  go_wp2
  go_ret
  exact ⟨K, rfl, ⟨la, HL.out.top (tp := none) _, HD.out, Hl.out⟩, hB.setCell (Nat.le_refl _) _⟩

/-- k nodes of the ring, in block R -/
def RowTo (R n k : Nat) (r : List Nd) (wr : World) : Prop :=
  ∃ (F : Nat → Nat) (cs : Array Value), wr.heap[R]? = some (.cells cs 28 (0, 0)) ∧ cs.size = n * 3 ∧ (∀ i, i < k → NdCells cs i (gn r i) (F i) ∧ IntsBlk wr (F i) (gn r i).aft ∧ R < F i ∧ F i < wr.heap.size) ∧ ∀ i j, i < k → j < k → F i = F j → i = j
theorem RowTo.keep {R n k : Nat} {r : List Nd} {w w' : World} (h : RowTo R n k r w) (hs : w.heap.size ≤ w'.heap.size) (hk : ∀ g, R ≤ g → g < w.heap.size → w'.heap[g]? = w.heap[g]?) : RowTo R n k r w' := by
  obtain ⟨F, cs, h1, h2, h3, h4⟩ := h
  refine ⟨F, cs, (hk R (Nat.le_refl _) (heap_lt h1)).trans h1, h2, fun i hi => ?_, h4⟩
  obtain ⟨a, b, c, d⟩ := h3 i hi
  exact ⟨a, b.kept (hk _ (by omega) d), c, by omega⟩
theorem RowTo.next {R n k I : Nat} {r : List Nd} {w w2 : World} (h : RowTo R n k r w) (hk : k < n) (hb : Below w.heap.size w w2) (hI : w.heap.size ≤ I) (hI2 : I < w2.heap.size) (hi' : IntsBlk w2 I (gn r k).aft) (hm : (gn r k).aft.length ≤ maxLen) :
    RowTo R n (k + 1) r (((w2.setCell ⟨R, k * 3, none⟩ (.int .i64 (gn r k).pos)).setCell ⟨R, k * 3 + 1, none⟩ (.int .i64 (gn r k).bef)).setCell ⟨R, k * 3 + 2, none⟩ (.slice (some ⟨I, 0, none⟩) (gn r k).aft.length (gn r k).aft.length)) := by
  obtain ⟨F, cs, h1, h2, h3, h4⟩ := h
  have hRlt := heap_lt h1
  have hne : ∀ g, g ≠ R → (((w2.setCell ⟨R, k * 3, none⟩ (.int .i64 (gn r k).pos)).setCell ⟨R, k * 3 + 1, none⟩ (.int .i64 (gn r k).bef)).setCell ⟨R, k * 3 + 2, none⟩ (.slice (some ⟨I, 0, none⟩) (gn r k).aft.length (gn r k).aft.length)).heap[g]? = w2.heap[g]? := fun g hg =>
    (heap_set_ne _ _ _ _ _ hg).trans ((heap_set_ne _ _ _ _ _ hg).trans (heap_set_ne _ _ _ _ _ hg))
  have hbs := hb.size
  refine ⟨fun j => if j = k then I else F j, _, heap_set _ _ _ _ (heap_set _ _ _ _ (heap_set _ _ _ _ ((hb.block R hRlt).trans h1))), by simpa using h2, fun i hi => ?_, fun i j hi hj he => ?_⟩
  · rcases Nat.lt_or_ge i k with h' | h'
    · obtain ⟨a, b, c, d⟩ := h3 i h'
      simp only [if_neg (show i ≠ k by omega)]
      exact ⟨nd_keep (nd_keep (nd_keep (d := 0) a (by omega) (by omega)) (by omega) (by omega)) (by omega) (by omega), b.kept ((hne _ (by omega)).trans (hb.block _ d)), c, by simp [World.setCell]; omega⟩
    · obtain rfl : i = k := by omega
      simp only [↓reduceIte]
      exact ⟨nd_set (by omega) hm, hi'.kept (hne _ (by omega)), by omega, by simp [World.setCell]; omega⟩
  · by_cases e1 : i = k
    · by_cases e2 : j = k
      · omega
      · simp only [if_pos e1, if_neg e2] at he
        have := (h3 j (by omega)).2.2.2; omega
    · by_cases e2 : j = k
      · simp only [if_neg e1, if_pos e2] at he
        have := (h3 i (by omega)).2.2.2; omega
      · simp only [if_neg e1, if_neg e2] at he
        exact h4 i j (by omega) (by omega) he
theorem RowTo.own {R : Nat} {r : List Nd} {w : World} (h : RowTo R r.length r.length r w) {lo : Nat} (hlo : lo ≤ R) : ∃ F, RingOwn w lo w.heap.size R r F := by
  obtain ⟨F, cs, h1, h2, h3, h4⟩ := h
  exact ⟨F, ⟨cs, h1, fun i hi => (h3 i hi).1⟩, fun i hi => (h3 i hi).2.1, ⟨hlo, heap_lt h1⟩, fun i hi => ⟨by have := (h3 i hi).2.2.1; omega, (h3 i hi).2.2.2, by have := (h3 i hi).2.2.1; omega⟩, fun i j hi hj => h4 i j hi hj⟩
theorem nd_ext2 {n m : Nd} (h1 : n.pos = m.pos) (h2 : n.bef = m.bef) (h3 : n.aft = m.aft) : n = m := by
  cases n; cases m; simp at h1 h2 h3; subst h1 h2 h3; rfl
/-- a ring in new blocks -/
def NewOwnR (r : List Nd) (w : World) (e : Ending) (w' : World) : Prop :=
  ∃ N cap F, e = .returned (.slice (some ⟨N, 0, none⟩) r.length cap) ∧ RingOwn w' w.heap.size w'.heap.size N r F ∧ r.length ≤ cap ∧ cap ≤ maxLen ∧ Below w.heap.size w w'
/-- what node needs, for a live peer -/
theorem NW.ndcells {w : World} {n L cap : Nat} {K : Nat → Option Pr} {r : List Nd} (h : NW w n L cap K r) (hv : rvB r = true) {k : Nat} (hk : k < r.length) :
    ∃ g g0 g1 b, w.cell? ⟨L, k, none⟩ = some (.pointer (some ⟨g, 0, none⟩)) ∧ Hid (w.cell? ⟨g, 0, none⟩ = some (.int .i64 (gn r k).pos) ∧ w.cell? ⟨g, 2, none⟩ = some (.pointer b) ∧ w.cell? ⟨g, 3, none⟩ = some (.pointer (some ⟨g0, 0, none⟩)) ∧ w.cell? ⟨g, 4, none⟩ = some (.pointer (some ⟨g1, 0, none⟩)) ∧ BefOf w b (gn r k).bef ∧ w.cell? ⟨g0, 0, none⟩ = some (.int .i64 (gt (gn r k).aft 0)) ∧ w.cell? ⟨g1, 0, none⟩ = some (.int .i64 (gt (gn r k).aft 1))) := by
  obtain ⟨hpp, hbf, ha0, ha1, haf⟩ := nd_open hv hk
  obtain ⟨p, _, _, hp, _⟩ := h.node hv hk
  obtain ⟨q0, q1, h0, h1, e0, e1, c0, c1, c2, c3, c4, cf, hpn, d0, d1, d2, d3, hb⟩ := h.cells hv hk hp
  have e1' := (h.known hv ha1 h1).1
  refine ⟨p.blk, q0.blk, q1.blk, p.b, h.listed hk hp, c0, c2, c3, c4, ?_, d0, e1'⟩
  rcases hb with ⟨hb, eb⟩ | ⟨hb, qb, hqb, eb⟩
  · exact .inl ⟨eb, hb⟩
  · have hbr : 0 ≤ (gn r k).bef ∧ (gn r k).bef < 64 := by omega
    obtain ⟨b0, _, _, _, _, _, hlt, _⟩ := h.known hv hbr hqb
    exact .inr ⟨qb.blk, eb, hlt, b0⟩

set_option maxHeartbeats 2000000 in
theorem nodes_nw (n L cap : Nat) (K : Nat → Option Pr) (r : List Nd) (w : World) (h : NW w n L cap K r) (hv : rvB r = true) :
    Calls Try.prog 53 #[.pointer (some ⟨n, 0, none⟩)] w (NewOwnR r w) := by
  have h10 := rv_len hv
  obtain ⟨t0, _⟩ := h.top
  have hlt := h.lt
  obtain ⟨len, hlen⟩ : ∃ l, l = r.length := ⟨_, rfl⟩
  have hmk2 := mk_nodes len (by omega)
  have t1 : ∀ o, (w.alloc o).cell? ⟨n, 64, none⟩ = some (.slice (some ⟨L, 0, none⟩) r.length cap) := fun o => (((Below.refl _ _).alloc (Nat.le_refl _) o : Below w.heap.size w (w.alloc o)).cell (p := ⟨n, 64, none⟩) hlt).trans t0
  rw [← hlen] at t0 t1 h10
  have HN := Lib.hid h
  have HV := Lib.hid hv
  have HL := Lib.hid hlen
  clear h hv hlen
  go_enter Try.func53, Try.ntmps53
  go_wp2
  clear t0 t1 hmk2
  go_loopw [17] (fun i wr => ∃ k : Nat, k ≤ len ∧ i = .int .i64 k ∧ RowTo w.heap.size len k r wr ∧ Below w.heap.size w wr) (fun i _ => len - (intOf i).toNat)
  case atStart =>
    exact ⟨0, by omega, rfl, ⟨fun _ => 0, _, heap_alloc_new w _, size_madeCells _ _, fun i hi => absurd hi (by omega), fun i j hi => absurd hi (by omega)⟩, (Below.refl _ _).alloc (Nat.le_refl _) _⟩
  case round =>
    obtain ⟨k, hk, rfl, hrow, hbel⟩ := hrel
    by_cases hlt' : k < len
    · have hkr : k < r.length := by rw [← HL.out]; exact hlt'
      obtain ⟨g, g0, g1, b, c0, hcs⟩ := (HN.out.keepB hbel).ndcells HV.out hkr
      have haf := (nd_open HV.out hkr).2.2.2.2
      have HE : Hid ((⟨(gn r k).pos, (gn r k).bef, [gt (gn r k).aft 0, gt (gn r k).aft 1]⟩ : Nd) = gn r k) := nd_ext2 rfl rfl haf.symm
      have HAL : Hid ((gn r k).aft.length = 2) := by show _ = _; rw [haf]; rfl
      have HROW := Lib.hid hrow
      clear hrow haf hkr
      go_wp2_with fail
      have hnode := node_any _ _ _ _ _ _ _ _ wr hcs.out.1 hcs.out.2.1 hcs.out.2.2.1 hcs.out.2.2.2.1 hcs.out.2.2.2.2.1 hcs.out.2.2.2.2.2.1 hcs.out.2.2.2.2.2.2
      rw [HE.out] at hnode
      refine hnode.mono ?_
      clear hnode
      rintro e w8 ⟨I, rfl, hi8, hI1, hI2, hb8⟩
      obtain ⟨F8, cs, h81, h82, _, _⟩ := HROW.out.keep hb8.size (fun g _ hg => hb8.block g hg)
      obtain ⟨v0, x0⟩ : ∃ v, w8.cell? ⟨w.heap.size, k * 3, none⟩ = some v := ⟨_, by rw [cell_of_cells h81]; exact Array.getElem?_eq_getElem (by omega)⟩
      obtain ⟨v1, x1⟩ : ∃ v, w8.cell? ⟨w.heap.size, k * 3 + 1, none⟩ = some v := ⟨_, by rw [cell_of_cells h81]; exact Array.getElem?_eq_getElem (by omega)⟩
      obtain ⟨v2, x2⟩ : ∃ v, w8.cell? ⟨w.heap.size, k * 3 + 2, none⟩ = some v := ⟨_, by rw [cell_of_cells h81]; exact Array.getElem?_eq_getElem (by omega)⟩
      have f0 := frozen_of_cells h81 (k * 3)
      have f1 := frozen_of_cells h81 (k * 3 + 1)
      have f2 := frozen_of_cells h81 (k * 3 + 2)
      have HI8 := Lib.hid hi8
      have hB8 : Below w.heap.size w w8 := hbel.trans (hb8.mono hbel.size)
      clear h81 h82 hi8 hcs c0
      go_wp2
      go_roundw
      case rel =>
        refine ⟨k + 1, by omega, by go_num, HROW.out.next hlt' hb8 hI1 hI2 HI8.out (by rw [HAL.out]; unfold maxLen; omega), ?_⟩
        exact ((hB8.setCell (Nat.le_refl _) _).setCell (Nat.le_refl _) _).setCell (Nat.le_refl _) _
      case measure => simp [intOf]; omega
    · obtain rfl : k = len := by omega
      have HROW := Lib.hid hrow
      clear hrow
      go_wp2
      go_ret
      have hl := HL.out
      subst hl
      obtain ⟨F, hF⟩ := HROW.out.own (Nat.le_refl _)
      exact ⟨w.heap.size, r.length, F, rfl, hF, Nat.le_refl _, by unfold maxLen; omega, hbel⟩
end Go.Proofs.Ytcbbdhmloniolaa
