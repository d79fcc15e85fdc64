/- What the functions on linked peers compute: skipping, live successors, principals. -/
import Derived.Test.YtcbbdhmloniolaaLink
namespace Go.Proofs.Ytcbbdhmloniolaa
open Go.RowKit
set_option linter.unusedVariables false

theorem Net.keep {w w' : World} {L : Nat} {r : List Nd} {K : Nat → Option Pr} (h : Net w L r K) (hk : ∀ g, g < w.heap.size → w'.heap[g]? = w.heap[g]?) : Net w' L r K := by
  obtain ⟨base, c, tp, la, h1, h3, h4⟩ := h; exact ⟨base, c, tp, la, h1.keep hk, h3, h4⟩
theorem Net.same {w w' : World} {L : Nat} {r : List Nd} {K : Nat → Option Pr} (h : Net w L r K) (hs : Same w w') : Net w' L r K := h.keep fun g _ => by rw [hs.heap]
theorem Net.keepB {w w' : World} {L : Nat} {r : List Nd} {K : Nat → Option Pr} (h : Net w L r K) (hb : Below w.heap.size w w') : Net w' L r K := h.keep fun g hg => hb.block g hg
/-- the peer of a position that some node knows -/
theorem Net.peer {w : World} {L : Nat} {r : List Nd} {K : Nat → Option Pr} (h : Net w L r K) (hv : rvB r = true) {z : Int} {v : Option Addr} (hz : 0 ≤ z ∧ z < 64) (hp : PtrOf K z v) :
    ∃ g, v = some ⟨g, 0, none⟩ ∧ K z.toNat ≠ none ∧ g < w.heap.size ∧ w.cell? ⟨g, 0, none⟩ = some (.int .i64 z) ∧ w.cell? ⟨g, 1, none⟩ = some (.bool (liveB r z)) := by
  obtain ⟨base, c, tp, la, h1, h3, h4⟩ := h
  obtain ⟨q, hq, rfl⟩ := hp
  obtain ⟨c0, c1, _⟩ := h1.cells (by omega) hq
  have hzz : ((z.toNat : Nat) : Int) = z := by omega
  rw [hzz] at c0
  refine ⟨q.blk, rfl, by rw [hq]; simp, heap_lt (h1.peer _ _ (by omega) hq).1, c0, ?_⟩
  rw [c1]
  rcases (show liveB r z = true ∨ liveB r z = false by cases liveB r z <;> simp) with hl | hl
  · obtain ⟨j, hj, he⟩ := (live_iff r z).1 hl
    obtain ⟨p, hp, hd⟩ := h3.1 j hj
    rw [he, hq] at hp; injection hp with hp; subst hp
    rw [hd.1, hl]
  · rw [h3.2 _ _ hq (fun j hj e => (live_no r z).1 hl j hj (by have := ((ndB_iff _).1 (rv_nd hv hj)).1; omega)), hl]
/-- the peer of a live node -/
theorem Net.at_ {w : World} {L : Nat} {r : List Nd} {K : Nat → Option Pr} (h : Net w L r K) (hv : rvB r = true) {i : Nat} (hi : i < r.length) :
    ∃ g b s0 s1, PtrOf K (gn r i).pos (some ⟨g, 0, none⟩) ∧ L < w.heap.size ∧ w.cell? ⟨L, i, none⟩ = some (.pointer (some ⟨g, 0, none⟩)) ∧ w.cell? ⟨g, 0, none⟩ = some (.int .i64 (gn r i).pos) ∧ w.cell? ⟨g, 2, none⟩ = some (.pointer b) ∧ w.cell? ⟨g, 3, none⟩ = some (.pointer s0) ∧ w.cell? ⟨g, 4, none⟩ = some (.pointer s1) ∧
      PtrTo K (gn r i).bef b ∧ PtrOf K (gt (gn r i).aft 0) s0 ∧ PtrOf K (gt (gn r i).aft 1) s1 := by
  obtain ⟨base, c, tp, la, h1, h3, h4⟩ := h
  obtain ⟨q, hq, hla⟩ := h4 i hi
  have hpi := ((ndB_iff _).1 (rv_nd hv hi)).1
  obtain ⟨c0, c1, c2, c3, c4, _⟩ := h1.cells (by omega) hq
  have hzz : (((gn r i).pos.toNat : Nat) : Int) = (gn r i).pos := by omega
  rw [hzz] at c0
  obtain ⟨p, hp, hd⟩ := h3.1 i hi
  rw [hq] at hp; injection hp with hp; subst hp
  exact ⟨q.blk, q.b, q.s0, q.s1, ⟨q, hq, rfl⟩, heap_lt h1.lblk, by rw [cell_of_cells h1.lblk, hla], c0, c2, c3, c4, hd.2.1, hd.2.2.1, hd.2.2.2⟩

theorem between_as (v : Bool) (a x b : Int) (w : World) (ha : 0 ≤ a) (ha' : a < 64) (hx : 0 ≤ x) (hx' : x < 64) (hb : 0 ≤ b) (hb' : b < 64) (hv : btwI a x b = v) :
    Calls Try.prog 99 #[.int .i64 x, .int .i64 a, .int .i64 b] w fun e w' => e = .returned (.bool v) ∧ w = w' := by
  subst hv; exact between_any a x b w ha ha' hx hx' hb hb'

def PkAt (p q x y : Int) (g g0 g1 : Nat) (f i : Value) : Prop :=
  (f = .pointer (some ⟨g, 0, none⟩) ∧ i = .int .i64 0) ∨ (f = .pointer (some ⟨g0, 0, none⟩) ∧ i = .int .i64 1 ∧ Hid (btwI p q x = false)) ∨ (f = .pointer (some ⟨g1, 0, none⟩) ∧ i = .int .i64 2 ∧ Hid (btwI p q x = false) ∧ Hid (btwI x q y = false))

set_option maxHeartbeats 2000000 in
theorem skips_any (L : Nat) (r : List Nd) (K : Nat → Option Pr) (i : Nat) (g gq : Nat) (q : Int) (w : World) (h : Net w L r K) (hv : rvB r = true) (hi : i < r.length) (hg : w.cell? ⟨L, i, none⟩ = some (.pointer (some ⟨g, 0, none⟩)))
    (hq0 : 0 ≤ q) (hq1 : q < 64) (hgq : w.cell? ⟨gq, 0, none⟩ = some (.int .i64 q)) :
    Calls Try.prog 113 #[.pointer (some ⟨g, 0, none⟩), .pointer (some ⟨gq, 0, none⟩)] w fun e w' => e = .returned (.bool (skB (gn r i) q)) ∧ Same w w' := by
  obtain ⟨g', b, s0, s1, hp, hL, hc, hc0, hc2, hc3, hc4, hb, h0, h1⟩ := h.at_ hv hi
  rw [hg] at hc
  injection hc with hc; injection hc with hc; injection hc with hc; injection hc with hc
  subst hc
  obtain ⟨hpp, _, x, y, ha, hx, hy⟩ := (ndB_iff _).1 (rv_nd hv hi)
  have ea : gt (gn r i).aft 0 = x := by rw [ha]; rfl
  have eb : gt (gn r i).aft 1 = y := by rw [ha]; rfl
  have He : Hid (skB (gn r i) q = (btwI (gn r i).pos q x || btwI x q y)) := by show skB (gn r i) q = _; rw [skB, ea, eb]
  rw [ea] at h0
  rw [eb] at h1
  obtain ⟨g0, rfl, _, _, d0, _⟩ := h.peer hv hx h0
  obtain ⟨g1, rfl, _, _, d1, _⟩ := h.peer hv hy h1
  generalize (gn r i).pos = p at *
  clear hb h0 h1 ea eb ha hp h hg
  obtain ⟨hp0, hp1⟩ := hpp
  obtain ⟨hx0, hx1⟩ := hx
  obtain ⟨hy0, hy1⟩ := hy
  have i0 : ∀ w, (Instr.index 89 (.agg #[.pointer (some ⟨g0, 0, none⟩), .pointer (some ⟨g1, 0, none⟩)]) (.int .i64 0)).run Try.prog w = .ok (.pointer (some ⟨g0, 0, none⟩)) w := fun _ => by kernel_rfl
  have i1 : ∀ w, (Instr.index 89 (.agg #[.pointer (some ⟨g0, 0, none⟩), .pointer (some ⟨g1, 0, none⟩)]) (.int .i64 1)).run Try.prog w = .ok (.pointer (some ⟨g1, 0, none⟩)) w := fun _ => by kernel_rfl
  go_enter Try.func113, Try.ntmps113
  go_wp2
  go_loopw [5, 13] (fun f i wr => PkAt p q x y g g0 g1 f i ∧ Same w wr) (fun _ i _ => 2 - (intOf i).toNat)
  case atStart => exact ⟨.inl ⟨rfl, rfl⟩, Same.refl _⟩
  case round =>
    obtain ⟨hrel, hs⟩ := hrel
    have e0 := (hs.cell ⟨g, 0, none⟩).trans hc0
    have e1 := (hs.cell ⟨g0, 0, none⟩).trans d0
    have e2 := (hs.cell ⟨g1, 0, none⟩).trans d1
    have e3 := (hs.cell ⟨gq, 0, none⟩).trans hgq
    rcases hrel with ⟨rfl, rfl⟩ | ⟨rfl, rfl, h1⟩ | ⟨rfl, rfl, h1, h2⟩
    · cases hsk : btwI p q x
      · have HS := Lib.hid hsk
        clear hsk
        go_wp2
        go_quiet ((go_at_call 99; exact Calls.quiet_of_same (calls_flip (between_as _ _ _ _ _ hp0 hp1 hq0 hq1 hx0 hx1 HS.out))))
        go_wp2
        go_roundw
        case rel => exact ⟨.inr (.inl ⟨rfl, rfl, HS⟩), hs.drewN _⟩
        case measure => simp [intOf]
      · have HS := Lib.hid hsk
        clear hsk
        go_wp2
        go_quiet ((go_at_call 99; exact Calls.quiet_of_same (calls_flip (between_as _ _ _ _ _ hp0 hp1 hq0 hq1 hx0 hx1 HS.out))))
        go_wp2
        go_ret
        exact ⟨ret_bool (by rw [He.out, HS.out]; rfl), hs.drewN _⟩
    · cases hsk : btwI x q y
      · have HS := Lib.hid hsk
        clear hsk
        go_wp2
        go_quiet ((go_at_call 99; exact Calls.quiet_of_same (calls_flip (between_as _ _ _ _ _ hx0 hx1 hq0 hq1 hy0 hy1 HS.out))))
        go_wp2
        go_roundw
        case rel => exact ⟨.inr (.inr ⟨rfl, rfl, h1, HS⟩), hs.drewN _⟩
        case measure => simp [intOf]
      · have HS := Lib.hid hsk
        clear hsk
        go_wp2
        go_quiet ((go_at_call 99; exact Calls.quiet_of_same (calls_flip (between_as _ _ _ _ _ hx0 hx1 hq0 hq1 hy0 hy1 HS.out))))
        go_wp2
        go_ret
        exact ⟨ret_bool (by rw [He.out, h1.out, HS.out]; rfl), hs.drewN _⟩
    · go_wp2
      go_ret
      exact ⟨ret_bool (by rw [He.out, h1.out, h2.out]; rfl), hs⟩
end Go.Proofs.Ytcbbdhmloniolaa
