/- A network: linked peers that change. -/
import Derived.Test.YtcbbdhmloniolaaNet2
import Derived.Test.YtcbbdhmloniolaaIdeal
import Derived.Test.YtcbbdhmloniolaaStepMath
namespace Go.Proofs.Ytcbbdhmloniolaa
open Go.RowKit
set_option linter.unusedVariables false

/-- a network in block n: it knows K, its live peers, listed in block L, are the nodes of r -/
def NW (w : World) (n L cap : Nat) (K : Nat → Option Pr) (r : List Nd) : Prop :=
  ∃ la, LK w n n (some (.slice (some ⟨L, 0, none⟩) r.length cap)) L la K ∧ Dn K r ∧ ListOk K r la r.length
section
variable {w w' : World} {n L cap : Nat} {K : Nat → Option Pr} {r : List Nd}
theorem NW.net (h : NW w n L cap K r) : Net w L r K := by
  obtain ⟨la, h1, h2, h3⟩ := h; exact ⟨_, _, _, la, h1, h2, h3⟩
theorem NW.keep (h : NW w n L cap K r) (hk : ∀ g, g < w.heap.size → w'.heap[g]? = w.heap[g]?) : NW w' n L cap K r := by
  obtain ⟨la, h1, h2, h3⟩ := h; exact ⟨la, h1.keep hk, h2, h3⟩
theorem NW.keepB (h : NW w n L cap K r) (hb : Below w.heap.size w w') : NW w' n L cap K r := h.keep fun g hg => hb.block g hg
theorem NW.same (h : NW w n L cap K r) (hs : Same w w') : NW w' n L cap K r := h.keep fun g _ => by rw [hs.heap]
theorem NW.lt (h : NW w n L cap K r) : n < w.heap.size := by obtain ⟨la, h1, _⟩ := h; exact h1.clt
theorem NW.top (h : NW w n L cap K r) : w.cell? ⟨n, 64, none⟩ = some (.slice (some ⟨L, 0, none⟩) r.length cap) ∧ w.frozen? ⟨n, 64, none⟩ = false := by
  obtain ⟨la, h1, _⟩ := h; exact h1.topcell
/-- the peer of a known position -/
theorem NW.known (h : NW w n L cap K r) (hv : rvB r = true) {z : Int} {q : Pr} (hz : 0 ≤ z ∧ z < 64) (hq : K z.toNat = some q) :
    w.cell? ⟨q.blk, 0, none⟩ = some (.int .i64 z) ∧ w.cell? ⟨q.blk, 1, none⟩ = some (.bool (liveB r z)) ∧ w.cell? ⟨q.blk, 2, none⟩ = some (.pointer q.b) ∧ w.cell? ⟨q.blk, 3, none⟩ = some (.pointer q.s0) ∧ w.cell? ⟨q.blk, 4, none⟩ = some (.pointer q.s1) ∧ (∀ i, w.frozen? ⟨q.blk, i, none⟩ = false) ∧ q.blk < w.heap.size ∧ n ≤ q.blk ∧ q.lv = liveB r z := by
  obtain ⟨g, hg, _, _, _, d1⟩ := h.net.peer hv hz ⟨q, hq, rfl⟩
  injection hg with hg; injection hg with hg; subst hg
  obtain ⟨la, h1, _⟩ := h
  obtain ⟨c0, c1, c2, c3, c4, cf⟩ := h1.cells (by omega) hq
  have hzz : ((z.toNat : Nat) : Int) = z := by omega
  rw [hzz] at c0
  obtain ⟨h4, h5⟩ := h1.peer _ _ (by omega) hq
  refine ⟨c0, d1, c2, c3, c4, cf, heap_lt h4, h5, ?_⟩
  rw [c1] at d1; injection d1 with d1; injection d1
/-- the peer of a node -/
theorem NW.node (h : NW w n L cap K r) (hv : rvB r = true) {k : Nat} (hk : k < r.length) :
    ∃ p q0 q1, K (gn r k).pos.toNat = some p ∧ p.lv = true ∧ PtrTo K (gn r k).bef p.b ∧ p.s0 = q0.ad ∧ p.s1 = q1.ad ∧ K (gt (gn r k).aft 0).toNat = some q0 ∧ K (gt (gn r k).aft 1).toNat = some q1 := by
  obtain ⟨la, h1, h2, h3⟩ := h
  obtain ⟨p, hp, hlv, hb, ⟨q0, hq0, e0⟩, ⟨q1, hq1, e1⟩⟩ := h2.1 k hk
  exact ⟨p, q0, q1, hp, hlv, hb, e0, e1, hq0, hq1⟩
/-- the listed peer -/
theorem NW.listed (h : NW w n L cap K r) {k : Nat} (hk : k < r.length) {p : Pr} (hp : K (gn r k).pos.toNat = some p) : w.cell? ⟨L, k, none⟩ = some (.pointer p.ad) := by
  obtain ⟨la, h1, h2, h3⟩ := h
  obtain ⟨q, hq, e⟩ := h3 k hk
  rw [hp] at hq; injection hq with hq; subst hq
  rw [cell_of_cells h1.lblk]; exact e
/-- a peer of a node is changed -/
theorem NW.set (h : NW w n L cap K r) (hv : rvB r = true) {k : Nat} (hk : k < r.length) {p p' : Pr} {nd : Nd} (hp : K (gn r k).pos.toNat = some p) (hb : p'.blk = p.blk) (hlv : p'.lv = true) (hpos : nd.pos = (gn r k).pos)
    (h0 : PtrTo K nd.bef p'.b) (h1 : PtrOf K (gt nd.aft 0) p'.s0) (h2 : PtrOf K (gt nd.aft 1) p'.s1)
    (hL : ∀ la tp, LK w n n tp L la K → LK w' n n tp L la (setK K (gn r k).pos.toNat p')) : NW w' n L cap (setK K (gn r k).pos.toNat p') (r.set k nd) ∧ KLe K (setK K (gn r k).pos.toNat p') := by
  obtain ⟨la, l1, l2, l3⟩ := h
  have hle := kle_put (p' := p') hp hb
  have hlen : (r.set k nd).length = r.length := by simp
  have hps : ∀ i, i < r.length → (gn (r.set k nd) i).pos = (gn r i).pos := fun i hi => by
    rw [gn_set' hi]
    by_cases e : i = k
    · rw [if_pos e, hpos, e]
    · rw [if_neg e]
  refine ⟨⟨la, by rw [hlen]; exact hL _ _ l1, ⟨fun i hi => ?_, fun x q hq hno => ?_⟩, fun j hj => ?_⟩, hle⟩
  · rw [hlen] at hi
    rw [hps i hi]
    by_cases e : i = k
    · subst e
      refine ⟨p', setK_at _ _ _, ?_⟩
      rw [gn_set' hi, if_pos rfl]
      exact ⟨hlv, h0.mono hle, h1.mono hle, h2.mono hle⟩
    · obtain ⟨q, hq, hd⟩ := l2.1 i hi
      have a1 := ((ndB_iff _).1 (rv_nd hv hi)).1
      have a2 := ((ndB_iff _).1 (rv_nd hv hk)).1
      refine ⟨q, by rw [setK_ne _ (fun e' => e (rv_inj hv hi hk (by omega)))]; exact hq, ?_⟩
      rw [gn_set' hi, if_neg e]
      exact hd.mono hle
  · have hx : x ≠ (gn r k).pos.toNat := fun e => hno k (by rw [hlen]; exact hk) (by rw [hps k hk]; exact e.symm)
    rw [setK_ne _ hx] at hq
    exact l2.2 x q hq (fun j hj => by have := hno j (by rw [hlen]; exact hj); rwa [hps j hj] at this)
  · rw [hlen] at hj
    obtain ⟨q, hq, e⟩ := l3 j hj
    obtain ⟨q', hq', e'⟩ := hle _ _ hq
    exact ⟨q', by rw [hps j hj]; exact hq', by rw [e]; simp [Pr.ad, e']⟩
/-- somebody gets to be known -/
theorem dn_get (l2 : Dn K r) {z : Nat} {q : Pr} (hq : K z = some q ∨ K z = none ∧ Fresh q) : Dn (setK K z q) r := by
  have hle := kle_get hq
  refine ⟨fun i hi => ?_, fun x p hp hno => ?_⟩
  · obtain ⟨p, hp, hd⟩ := l2.1 i hi
    refine ⟨p, ?_, hd.mono hle⟩
    by_cases e : (gn r i).pos.toNat = z
    · rcases hq with hq | ⟨hq, _⟩
      · rw [setK_same hq]; exact hp
      · rw [e, hq] at hp; cases hp
    · rw [setK_ne _ e]; exact hp
  · by_cases e : x = z
    · subst e
      rw [setK_at] at hp; injection hp with hp; subst hp
      rcases hq with hq | ⟨_, hf⟩
      · exact l2.2 x q hq hno
      · exact hf.1
    · rw [setK_ne _ e] at hp
      exact l2.2 x p hp hno
end

/-- as GotPeer, and a new peer lies in a new block -/
def GotPeer2 (base c : Nat) (tp : Option Value) (L : Nat) (la : Array Value) (K : Nat → Option Pr) (x : Nat) (w : World) (e : Ending) (w' : World) : Prop :=
  ∃ p, e = .returned (.pointer p.ad) ∧ LK w' base c tp L la (setK K x p) ∧ (K x = some p ∨ K x = none ∧ Fresh p) ∧ w.grownBy w' (some c) ∧ (K x = none → w.heap.size ≤ p.blk)

set_option maxHeartbeats 1000000 in
theorem peerAt_new (base c : Nat) (tp : Option Value) (L : Nat) (la : Array Value) (K : Nat → Option Pr) (x : Nat) (w : World) (hx : x < 64) (h : LK w base c tp L la K) (hbase : base ≤ w.heap.size) :
    Calls Try.prog 62 #[.pointer (some ⟨c, 0, none⟩), .int .i64 x] w (GotPeer2 base c tp L la K x w) := by
  have hlt := h.clt
  have hbc := h.bc
  obtain ⟨hc, hf⟩ := h.contact hx
  have H := Lib.hid h
  clear h
  cases hk : K x with
  | none =>
    rw [hk] at hc
    simp only [Option.map_none] at hc
    have HK := Lib.hid hk
    clear hk
    go_enter Try.func62, Try.ntmps62
    go_wp2
    go_ret
    rw [← World.setCell_alloc_past _ _ _ _ hlt]
    exact ⟨⟨w.heap.size, false, none, none, none⟩, rfl, H.out.add hx HK.out hbase, .inr ⟨HK.out, rfl, rfl⟩, only_set (World.grownBy_alloc w _ _) rfl, fun _ => Nat.le_refl _⟩
  | some p =>
    rw [hk] at hc
    simp only [Option.map_some] at hc
    have HK := Lib.hid hk
    clear hk
    go_enter Try.func62, Try.ntmps62
    go_wp2
    go_ret
    exact ⟨p, rfl, by rw [setK_same HK.out]; exact H.out, .inl HK.out, World.grownBy.refl w _, fun h0 => by rw [HK.out] at h0; cases h0⟩


/-- block g is no part of the network -/
def Away (n : Nat) (K : Nat → Option Pr) (g : Nat) : Prop := g ≠ n ∧ ∀ x p, x < 64 → K x = some p → p.blk ≠ g
/-- what is no part of the network is kept, and stays so -/
def Fr (n : Nat) (K K' : Nat → Option Pr) (w w' : World) : Prop := w.heap.size ≤ w'.heap.size ∧ ∀ g, g < w.heap.size → Away n K g → w'.heap[g]? = w.heap[g]? ∧ Away n K' g
theorem Fr.refl (n : Nat) (K : Nat → Option Pr) (w : World) : Fr n K K w w := ⟨Nat.le_refl _, fun g _ h => ⟨rfl, h⟩⟩
theorem Fr.trans {n : Nat} {A B C : Nat → Option Pr} {a b c : World} (h : Fr n A B a b) (k : Fr n B C b c) : Fr n A C a c :=
  ⟨Nat.le_trans h.1 k.1, fun g hg ha => by obtain ⟨h1, h2⟩ := h.2 g hg ha; obtain ⟨k1, k2⟩ := k.2 g (Nat.lt_of_lt_of_le hg h.1) h2; exact ⟨k1.trans h1, k2⟩⟩
theorem Fr.kept {n : Nat} {K : Nat → Option Pr} {w w' : World} (hb : Below w.heap.size w w') : Fr n K K w w' := ⟨hb.size, fun g hg h => ⟨hb.block g hg, h⟩⟩
/-- whoever is known in K' lies where he lay in K -/
def Back (K K' : Nat → Option Pr) : Prop := ∀ x p', K' x = some p' → ∃ p, K x = some p ∧ p.blk = p'.blk
theorem back_put {K : Nat → Option Pr} {x : Nat} {p p' : Pr} (h : K x = some p) (hb : p'.blk = p.blk) : Back K (setK K x p') := by
  intro y q hq
  by_cases hy : y = x
  · subst hy; rw [setK_at] at hq; injection hq with hq; subst hq; exact ⟨p, h, hb.symm⟩
  · rw [setK_ne _ hy] at hq; exact ⟨q, hq, rfl⟩
theorem Back.away {n : Nat} {K K' : Nat → Option Pr} {g : Nat} (h : Back K K') (ha : Away n K g) : Away n K' g :=
  ⟨ha.1, fun x p hx hp => by obtain ⟨q, hq, e⟩ := h x p hp; rw [← e]; exact ha.2 x q hx hq⟩
theorem fr_one {n : Nat} {K K' : Nat → Option Pr} {w : World} {x i : Nat} {p : Pr} {u : Value} (hx : x < 64) (hp : K x = some p) (hb : Back K K') : Fr n K K' w (w.setCell ⟨p.blk, i, none⟩ u) :=
  ⟨by simp [World.setCell], fun g _ ha => ⟨heap_set_ne _ _ _ _ _ (fun e => ha.2 x p hx hp e.symm), hb.away ha⟩⟩
theorem fr_two {n : Nat} {K K' : Nat → Option Pr} {w : World} {x i j : Nat} {p : Pr} {u v : Value} (hx : x < 64) (hp : K x = some p) (hb : Back K K') : Fr n K K' w ((w.setCell ⟨p.blk, i, none⟩ u).setCell ⟨p.blk, j, none⟩ v) :=
  ⟨by simp [World.setCell], fun g _ ha => ⟨(heap_set_ne _ _ _ _ _ (fun e => ha.2 x p hx hp e.symm)).trans (heap_set_ne _ _ _ _ _ (fun e => ha.2 x p hx hp e.symm)), hb.away ha⟩⟩
theorem fr_get {n : Nat} {K : Nat → Option Pr} {w w' : World} {z : Nat} {p : Pr} (hg : w.grownBy w' (some n)) (h : K z = some p ∨ K z = none ∧ Fresh p) (hn : K z = none → w.heap.size ≤ p.blk) : Fr n K (setK K z p) w w' :=
  ⟨hg.size, fun g hlt ha => ⟨hg.block g hlt (by intro e; injection e with e; exact ha.1 e), ha.1, fun x q hx hq => by
    by_cases hy : x = z
    · subst hy; rw [setK_at] at hq; injection hq with hq; subst hq
      rcases h with h | ⟨h, _⟩
      · exact ha.2 x p hx h
      · have := hn h; omega
    · rw [setK_ne _ hy] at hq; exact ha.2 x q hx hq⟩⟩
/-- what a step leaves -/
def StepPost (n L cap : Nat) (K : Nat → Option Pr) (r : List Nd) (b : Bool) (w : World) (e : Ending) (w' : World) : Prop :=
  e = .returned (.bool b) ∧ ∃ K', NW w' n L cap K' r ∧ KLe K K' ∧ Below n w w' ∧ Fr n K K' w w'
/-- what peerAt leaves -/
def GotN (n L cap : Nat) (K : Nat → Option Pr) (r : List Nd) (z : Int) (w : World) (e : Ending) (w' : World) : Prop :=
  ∃ q K', e = .returned (.pointer q.ad) ∧ K' z.toNat = some q ∧ NW w' n L cap K' r ∧ KLe K K' ∧ Below n w w' ∧ Fr n K K' w w'
theorem peerAt_nw (n L cap : Nat) (K : Nat → Option Pr) (r : List Nd) (z : Int) (w : World) (h0 : 0 ≤ z) (h1 : z < 64) (h : NW w n L cap K r) :
    Calls Try.prog 62 #[.pointer (some ⟨n, 0, none⟩), .int .i64 z] w (GotN n L cap K r z w) := by
  obtain ⟨la, l1, l2, l3⟩ := id h
  have hlt := h.lt
  obtain ⟨x, rfl⟩ := Int.eq_ofNat_of_zero_le h0
  refine (peerAt_new n n _ L la K x w (by omega) l1 (by omega)).mono ?_
  rintro e w' ⟨p, rfl, hL, hg, hgr, hnew⟩
  have hle := kle_get hg
  have hN : NW w' n L cap (setK K x p) r := ⟨la, hL, dn_get l2 hg, l3.mono hle⟩
  exact ⟨p, _, rfl, setK_at _ _ _, hN, hle, below_grown hgr (Nat.le_refl _) (by omega), fr_get hgr hg hnew⟩
end Go.Proofs.Ytcbbdhmloniolaa
