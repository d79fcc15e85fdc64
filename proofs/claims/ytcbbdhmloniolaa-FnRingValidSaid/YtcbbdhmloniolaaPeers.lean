/- Peers that are linked through pointers: the state that linkRing builds. -/
import Derived.Test.YtcbbdhmloniolaaMB
namespace Go.Proofs.Ytcbbdhmloniolaa
open Go.RowKit
set_option linter.unusedVariables false

/-- a known peer: its block, whether it is live, its predecessor and its successors -/
structure Pr where
  blk : Nat
  lv : Bool
  b : Option Addr
  s0 : Option Addr
  s1 : Option Addr
abbrev Pr.ad (p : Pr) : Option Addr := some ⟨p.blk, 0, none⟩
def setK (K : Nat → Option Pr) (x : Nat) (p : Pr) : Nat → Option Pr := fun y => if y = x then some p else K y
theorem setK_at (K : Nat → Option Pr) (x : Nat) (p : Pr) : setK K x p x = some p := by simp [setK]
theorem setK_ne {K : Nat → Option Pr} {x y : Nat} (p : Pr) (h : y ≠ x) : setK K x p y = K y := by simp [setK, h]
theorem setK_same {K : Nat → Option Pr} {x : Nat} {p : Pr} (h : K x = some p) : setK K x p = K := by
  funext y; unfold setK; split
  · rename_i h'; rw [h', h]
  · rfl

/-- the address of the peer of a position -/
def PtrOf (K : Nat → Option Pr) (z : Int) (v : Option Addr) : Prop := ∃ q, K z.toNat = some q ∧ v = q.ad
def PtrTo (K : Nat → Option Pr) (z : Int) (v : Option Addr) : Prop := (z = -1 ∧ v = none) ∨ (z ≠ -1 ∧ PtrOf K z v)
/-- what is known stays at its place -/
def KLe (K K' : Nat → Option Pr) : Prop := ∀ x p, K x = some p → ∃ p', K' x = some p' ∧ p'.blk = p.blk
theorem KLe.refl (K : Nat → Option Pr) : KLe K K := fun x p h => ⟨p, h, rfl⟩
theorem KLe.trans {A B C : Nat → Option Pr} (h : KLe A B) (k : KLe B C) : KLe A C := fun x p hp => by
  obtain ⟨q, hq, e⟩ := h x p hp
  obtain ⟨s, hs, e'⟩ := k x q hq
  exact ⟨s, hs, e'.trans e⟩
theorem PtrOf.mono {K K' : Nat → Option Pr} {z : Int} {v : Option Addr} (h : PtrOf K z v) (hk : KLe K K') : PtrOf K' z v := by
  obtain ⟨q, hq, rfl⟩ := h
  obtain ⟨p, hp, e⟩ := hk _ _ hq
  exact ⟨p, hp, by simp [Pr.ad, e]⟩
theorem PtrTo.mono {K K' : Nat → Option Pr} {z : Int} {v : Option Addr} (h : PtrTo K z v) (hk : KLe K K') : PtrTo K' z v := by
  rcases h with h | ⟨h1, h2⟩
  · exact .inl h
  · exact .inr ⟨h1, h2.mono hk⟩
/-- a peer that has just been made -/
def Fresh (p : Pr) : Prop := p.lv = false ∧ p.b = none
theorem kle_get {K : Nat → Option Pr} {x : Nat} {p : Pr} (h : K x = some p ∨ K x = none ∧ Fresh p) : KLe K (setK K x p) := by
  intro y q hq
  by_cases hy : y = x
  · subst hy
    rcases h with h | ⟨h, _⟩
    · rw [h] at hq; injection hq with hq; subst hq; exact ⟨_, setK_at _ _ _, rfl⟩
    · rw [h] at hq; cases hq
  · exact ⟨q, by rw [setK_ne _ hy]; exact hq, rfl⟩
theorem kle_put {K : Nat → Option Pr} {x : Nat} {p p' : Pr} (h : K x = some p) (hb : p'.blk = p.blk) : KLe K (setK K x p') := by
  intro y q hq
  by_cases hy : y = x
  · subst hy; rw [h] at hq; injection hq with hq; subst hq; exact ⟨_, setK_at _ _ _, hb⟩
  · exact ⟨q, by rw [setK_ne _ hy]; exact hq, rfl⟩

/-- node j is done: its peer is live and leads to its neighbours -/
def DoneN (K : Nat → Option Pr) (n : Nd) (p : Pr) : Prop := p.lv = true ∧ PtrTo K n.bef p.b ∧ PtrOf K (gt n.aft 0) p.s0 ∧ PtrOf K (gt n.aft 1) p.s1
theorem DoneN.mono {K K' : Nat → Option Pr} {n : Nd} {p : Pr} (h : DoneN K n p) (hk : KLe K K') : DoneN K' n p := ⟨h.1, h.2.1.mono hk, h.2.2.1.mono hk, h.2.2.2.mono hk⟩
/-- what is known of a position when k nodes are done -/
def StOk (K : Nat → Option Pr) (r : List Nd) (k : Nat) (x : Nat) (p : Pr) : Prop :=
  (∃ j, j < k ∧ (gn r j).pos.toNat = x ∧ DoneN K (gn r j) p) ∨ ((∀ j, j < k → (gn r j).pos.toNat ≠ x) ∧ Fresh p)
theorem StOk.mono {K K' : Nat → Option Pr} {r : List Nd} {k x : Nat} {p : Pr} (h : StOk K r k x p) (hk : KLe K K') : StOk K' r k x p := by
  rcases h with ⟨j, h1, h2, h3⟩ | h
  · exact .inl ⟨j, h1, h2, h3.mono hk⟩
  · exact .inr h
def Known (K : Nat → Option Pr) (r : List Nd) (k : Nat) : Prop := ∀ j, j < k → ∃ p, K (gn r j).pos.toNat = some p
theorem Known.mono {K K' : Nat → Option Pr} {r : List Nd} {k : Nat} (h : Known K r k) (hk : KLe K K') : Known K' r k := fun j hj => by
  obtain ⟨p, hp⟩ := h j hj
  obtain ⟨q, hq, _⟩ := hk _ _ hp
  exact ⟨q, hq⟩
/-- k nodes are done -/
def Done (K : Nat → Option Pr) (r : List Nd) (k : Nat) : Prop := Known K r k ∧ ∀ x p, K x = some p → StOk K r k x p
/-- k nodes are done, and the peer p of node k is known -/
def Mid (K : Nat → Option Pr) (r : List Nd) (k : Nat) (p : Pr) : Prop :=
  Known K r k ∧ K (gn r k).pos.toNat = some p ∧ ∀ x q, x ≠ (gn r k).pos.toNat → K x = some q → StOk K r k x q

theorem done_zero (r : List Nd) : Done (fun _ => none) r 0 := ⟨fun j h => absurd h (by omega), fun x p h => by cases h⟩
theorem got_ok {K : Nat → Option Pr} {r : List Nd} {k z : Nat} {q : Pr} (hk : Known K r k) (h : K z = none ∧ Fresh q) : StOk (setK K z q) r k z q := by
  refine .inr ⟨fun j hj e => ?_, h.2⟩
  obtain ⟨p, hp⟩ := hk j hj
  rw [e, h.1] at hp; cases hp
theorem Done.get {K : Nat → Option Pr} {r : List Nd} {k : Nat} {p : Pr} (h : Done K r k) (hp : K (gn r k).pos.toNat = some p ∨ K (gn r k).pos.toNat = none ∧ Fresh p) (hv : rvB r = true) (hk : k < r.length) :
    Mid (setK K (gn r k).pos.toNat p) r k p ∧ Fresh p := by
  have hle := kle_get hp
  refine ⟨⟨h.1.mono hle, setK_at _ _ _, fun x q hx hq => ?_⟩, ?_⟩
  · rw [setK_ne _ hx] at hq
    exact (h.2 x q hq).mono hle
  · rcases hp with hp | ⟨_, hf⟩
    · rcases h.2 _ _ hp with ⟨j, hj, he, _⟩ | ⟨_, hf⟩
      · exfalso
        have h1 := ((ndB_iff _).1 (rv_nd hv (k := j) (by omega))).1
        have h2 := ((ndB_iff _).1 (rv_nd hv hk)).1
        have := rv_inj hv (i := j) (j := k) (by omega) hk (by omega)
        omega
      · exact hf
    · exact hf
theorem Mid.get {K : Nat → Option Pr} {r : List Nd} {k z : Nat} {p q : Pr} (h : Mid K r k p) (hq : K z = some q ∨ K z = none ∧ Fresh q) : Mid (setK K z q) r k p := by
  have hle := kle_get hq
  refine ⟨h.1.mono hle, ?_, fun x s hx hs => ?_⟩
  · by_cases hz : (gn r k).pos.toNat = z
    · rcases hq with hq | ⟨hq, _⟩
      · rw [setK_same hq]; exact h.2.1
      · rw [← hz, h.2.1] at hq; cases hq
    · rw [setK_ne _ hz]; exact h.2.1
  · by_cases hxz : x = z
    · subst hxz
      rw [setK_at] at hs; injection hs with hs; subst hs
      rcases hq with hq | hq
      · exact (h.2.2 x q hx hq).mono hle
      · exact got_ok h.1 hq
    · rw [setK_ne _ hxz] at hs
      exact (h.2.2 x s hx hs).mono hle
theorem Mid.put {K : Nat → Option Pr} {r : List Nd} {k : Nat} {p p' : Pr} (h : Mid K r k p) (hb : p'.blk = p.blk) : Mid (setK K (gn r k).pos.toNat p') r k p' := by
  have hle := kle_put h.2.1 hb
  refine ⟨h.1.mono hle, setK_at _ _ _, fun x s hx hs => ?_⟩
  rw [setK_ne _ hx] at hs
  exact (h.2.2 x s hx hs).mono hle
theorem Mid.done {K : Nat → Option Pr} {r : List Nd} {k : Nat} {p : Pr} (h : Mid K r k p) (hd : DoneN K (gn r k) p) : Done K r (k + 1) := by
  constructor
  · intro j hj
    rcases Nat.lt_or_ge j k with h' | h'
    · exact h.1 j h'
    · have : j = k := by omega
      subst this; exact ⟨p, h.2.1⟩
  · intro x q hq
    by_cases hx : x = (gn r k).pos.toNat
    · subst hx
      rw [h.2.1] at hq; injection hq with hq; subst hq
      exact .inl ⟨k, by omega, rfl, hd⟩
    · rcases h.2.2 x q hx hq with ⟨j, h1, h2⟩ | ⟨h1, h2⟩
      · exact .inl ⟨j, by omega, h2⟩
      · refine .inr ⟨fun j hj => ?_, h2⟩
        rcases Nat.lt_or_ge j k with h' | h'
        · exact h1 j h'
        · have : j = k := by omega
          subst this; exact fun e => hx e.symm

/-- the contacts lie in a block of their own, or at the head of a network -/
def CTy (t : TypeId) : Prop := t ≠ 91 ∧ t ≠ 74 ∧ t ≠ 28
/-- The peers in memory: block c has the contacts, block L the live peers. -/
structure LK (w : World) (base c : Nat) (tp : Option Value) (L : Nat) (la : Array Value) (K : Nat → Option Pr) : Prop where
  cblk : ∃ (arr : Array Value) (t : TypeId), w.heap[c]? = some (.cells arr t (0, 0)) ∧ (CTy t ∧ 64 ≤ arr.size ∧ arr[64]? = tp) ∧ ∀ x, x < 64 → arr[x]? = some (.pointer ((K x).map fun p => ⟨p.blk, 0, none⟩))
  lblk : w.heap[L]? = some (.cells la 74 (0, 0))
  peer : ∀ x p, x < 64 → K x = some p → w.heap[p.blk]? = some (.cells #[.int .i64 x, .bool p.lv, .pointer p.b, .pointer p.s0, .pointer p.s1] 91 (0, 0)) ∧ base ≤ p.blk
  bc : base ≤ c
  bL : base ≤ L
section
variable {w w' : World} {base c L : Nat} {tp : Option Value} {la : Array Value} {K : Nat → Option Pr}

theorem LK.clt (h : LK w base c tp L la K) : c < w.heap.size := by obtain ⟨arr, t, h1, _⟩ := h.cblk; exact heap_lt h1
theorem LK.keep (h : LK w base c tp L la K) (hk : ∀ g, g < w.heap.size → w'.heap[g]? = w.heap[g]?) : LK w' base c tp L la K := by
  obtain ⟨arr, ct, h1, h2, h3⟩ := h.cblk
  refine ⟨⟨arr, ct, (hk _ (heap_lt h1)).trans h1, h2, h3⟩, (hk _ (heap_lt h.lblk)).trans h.lblk, fun x p hx hp => ?_, h.bc, h.bL⟩
  obtain ⟨h4, h5⟩ := h.peer x p hx hp
  exact ⟨(hk _ (heap_lt h4)).trans h4, h5⟩
theorem LK.alloc (h : LK w base c tp L la K) (o : Obj) : LK (w.alloc o) base c tp L la K := h.keep fun g hg => Below.heap_alloc w o g hg
theorem LK.same (h : LK w base c tp L la K) (hs : Same w w') : LK w' base c tp L la K := h.keep fun g _ => by rw [hs.heap]
theorem LK.ne_c (h : LK w base c tp L la K) {x : Nat} {p : Pr} (hx : x < 64) (hp : K x = some p) : p.blk ≠ c := by
  intro e
  obtain ⟨arr, ct, h1, h2, _⟩ := h.cblk
  have h3 := (h.peer x p hx hp).1
  rw [e, h1] at h3; injection h3 with h3; injection h3 with _ h3; exact h2.1.1 h3
theorem LK.ne_L (h : LK w base c tp L la K) {x : Nat} {p : Pr} (hx : x < 64) (hp : K x = some p) : p.blk ≠ L := by
  intro e
  have h3 := (h.peer x p hx hp).1
  rw [e, h.lblk] at h3; injection h3 with h3; injection h3 with _ h3; exact absurd h3 (by decide)
theorem LK.c_L (h : LK w base c tp L la K) : c ≠ L := by
  intro e
  obtain ⟨arr, ct, h1, h2, _⟩ := h.cblk
  rw [e, h.lblk] at h1; injection h1 with h1; injection h1 with _ h1; exact h2.1.2.1 h1.symm
theorem LK.inj (h : LK w base c tp L la K) {x y : Nat} {p q : Pr} (hx : x < 64) (hy : y < 64) (hp : K x = some p) (hq : K y = some q) (e : p.blk = q.blk) : x = y := by
  have h1 := (h.peer x p hx hp).1
  have h2 := (h.peer y q hy hq).1
  rw [e, h2] at h1; injection h1 with h1; injection h1 with h1
  have := congrArg (fun a : Array Value => a[0]?) h1
  simp at this; omega
/-- a field of a peer is stored -/
theorem LK.put (h : LK w base c tp L la K) {x : Nat} {p p' : Pr} (hx : x < 64) (hp : K x = some p) (hb : p'.blk = p.blk) (i : Nat) (u : Value)
    (hu : (#[.int .i64 x, .bool p.lv, .pointer p.b, .pointer p.s0, .pointer p.s1] : Array Value).setIfInBounds i u = #[.int .i64 x, .bool p'.lv, .pointer p'.b, .pointer p'.s0, .pointer p'.s1]) :
    LK (w.setCell ⟨p.blk, i, none⟩ u) base c tp L la (setK K x p') := by
  obtain ⟨arr, ct, h1, h2, h3⟩ := h.cblk
  refine ⟨⟨arr, ct, (heap_set_ne w _ i _ u (h.ne_c hx hp).symm).trans h1, h2, fun y hy => ?_⟩, (heap_set_ne w _ i _ u (h.ne_L hx hp).symm).trans h.lblk, fun y q hy hq => ?_, h.bc, h.bL⟩
  · rw [h3 y hy]
    by_cases e : y = x
    · subst e; rw [setK_at, hp]; simp [hb]
    · rw [setK_ne _ e]
  · by_cases e : y = x
    · subst e
      rw [setK_at] at hq; injection hq with hq; subst hq
      obtain ⟨h4, h5⟩ := h.peer y p hy hp
      rw [hb]
      exact ⟨by rw [heap_set w _ i u h4, hu], h5⟩
    · rw [setK_ne _ e] at hq
      obtain ⟨h4, h5⟩ := h.peer y q hy hq
      refine ⟨(heap_set_ne w _ i _ u (fun e' => e (h.inj hy hx hq hp e'))).trans h4, h5⟩
/-- a new peer -/
theorem LK.add (h : LK w base c tp L la K) {x : Nat} (hx : x < 64) (hn : K x = none) (hbase : base ≤ w.heap.size) :
    LK ((w.alloc (.cells #[.int .i64 x, .bool false, .pointer none, .pointer none, .pointer none] 91)).setCell ⟨c, x, none⟩ (.pointer (some ⟨w.heap.size, 0, none⟩))) base c tp L la (setK K x ⟨w.heap.size, false, none, none, none⟩) := by
  have ha := h.alloc (.cells #[.int .i64 x, .bool false, .pointer none, .pointer none, .pointer none] 91)
  obtain ⟨arr, ct, h1, h2, h3⟩ := ha.cblk
  have hclt := h.clt
  refine ⟨⟨_, ct, heap_set _ _ _ _ h1, ⟨h2.1, by simpa using h2.2.1, by rw [Array.getElem?_setIfInBounds, if_neg (by omega)]; exact h2.2.2⟩, fun y hy => ?_⟩, (heap_set_ne _ _ _ _ _ ha.c_L.symm).trans ha.lblk, fun y q hy hq => ?_, h.bc, h.bL⟩
  · by_cases e : y = x
    · subst e; rw [setK_at, Array.getElem?_setIfInBounds, if_pos rfl, if_pos (by have := h2.2.1; omega)]; rfl
    · rw [setK_ne _ e, ← h3 y hy]; simp [Ne.symm e]
  · by_cases e : y = x
    · subst e
      rw [setK_at] at hq; injection hq with hq; subst hq
      exact ⟨(heap_set_ne _ _ _ _ _ (by simp; omega)).trans (heap_alloc_new w _), hbase⟩
    · rw [setK_ne _ e] at hq
      obtain ⟨h4, h5⟩ := ha.peer y q hy hq
      exact ⟨(heap_set_ne _ _ _ _ _ (ha.ne_c hy hq)).trans h4, h5⟩
/-- a live peer is put into the list -/
theorem LK.list (h : LK w base c tp L la K) (i : Nat) (u : Value) : LK (w.setCell ⟨L, i, none⟩ u) base c tp L (la.setIfInBounds i u) K := by
  obtain ⟨arr, ct, h1, h2, h3⟩ := h.cblk
  refine ⟨⟨arr, ct, (heap_set_ne w _ i _ u h.c_L).trans h1, h2, h3⟩, heap_set w _ i u h.lblk, fun y q hy hq => ?_, h.bc, h.bL⟩
  obtain ⟨h4, h5⟩ := h.peer y q hy hq
  exact ⟨(heap_set_ne w _ i _ u (h.ne_L hy hq)).trans h4, h5⟩
theorem LK.cells (h : LK w base c tp L la K) {x : Nat} {p : Pr} (hx : x < 64) (hp : K x = some p) :
    w.cell? ⟨p.blk, 0, none⟩ = some (.int .i64 x) ∧ w.cell? ⟨p.blk, 1, none⟩ = some (.bool p.lv) ∧ w.cell? ⟨p.blk, 2, none⟩ = some (.pointer p.b) ∧ w.cell? ⟨p.blk, 3, none⟩ = some (.pointer p.s0) ∧ w.cell? ⟨p.blk, 4, none⟩ = some (.pointer p.s1) ∧ ∀ i, w.frozen? ⟨p.blk, i, none⟩ = false := by
  have h4 := (h.peer x p hx hp).1
  exact ⟨by rw [cell_of_cells h4]; rfl, by rw [cell_of_cells h4]; rfl, by rw [cell_of_cells h4]; rfl, by rw [cell_of_cells h4]; rfl, by rw [cell_of_cells h4]; rfl, fun i => frozen_of_cells h4 i⟩
theorem LK.contact (h : LK w base c tp L la K) {x : Nat} (hx : x < 64) : w.cell? ⟨c, x, none⟩ = some (.pointer ((K x).map fun p => ⟨p.blk, 0, none⟩)) ∧ w.frozen? ⟨c, x, none⟩ = false := by
  obtain ⟨arr, ct, h1, h2, h3⟩ := h.cblk
  exact ⟨by rw [cell_of_cells h1, h3 x hx], frozen_of_cells h1 x⟩
end

theorem only_set {a w : World} {g i : Nat} {u : Value} (h : a.grownBy w (some g)) {p : Addr} (hp : p = ⟨g, i, none⟩) : a.grownBy (w.setCell p u) (some g) := by
  subst hp
  exact ⟨h.os, h.tape, h.output, by simpa [World.setCell] using h.size, fun k hk hne => (heap_set_ne w g i k u (fun e => hne (by rw [e]))).trans (h.block k hk hne)⟩
theorem below_grown {B c : Nat} {w w' : World} (h : w.grownBy w' (some c)) (hc : B ≤ c) (hB : B ≤ w.heap.size) : Below B w w' :=
  (Below.refl B w).grown h hB (fun k hk => by injection hk with hk; omega)
/-- what peerAt leaves -/
def GotPeer (base c : Nat) (tp : Option Value) (L : Nat) (la : Array Value) (K : Nat → Option Pr) (x : Nat) (w : World) (e : Ending) (w' : World) : Prop :=
  ∃ p, e = .returned (.pointer p.ad) ∧ LK w' base c tp L la (setK K x p) ∧ (K x = some p ∨ K x = none ∧ Fresh p) ∧ w.grownBy w' (some c)

set_option maxHeartbeats 1000000 in
theorem peerAt_any (base c : Nat) (tp : Option Value) (L : Nat) (la : Array Value) (K : Nat → Option Pr) (x : Nat) (w : World) (hx : x < 64) (h : LK w base c tp L la K) (hbase : base ≤ w.heap.size) :
    Calls Try.prog 62 #[.pointer (some ⟨c, 0, none⟩), .int .i64 x] w (GotPeer base c tp L la K x w) := by
  have hlt := h.clt
  have hbc := h.bc
  obtain ⟨hc, hf⟩ := h.contact hx
  have H := Lib.hid h
  clear h
  cases hk : K x with
  | none =>
    rw [hk] at hc
    simp only [Option.map_none] at hc
    have HK := Lib.hid hk
    clear hk
    go_enter Try.func62, Try.ntmps62
    go_wp2
    go_ret
    rw [← World.setCell_alloc_past _ _ _ _ hlt]
    exact ⟨⟨w.heap.size, false, none, none, none⟩, rfl, H.out.add hx HK.out hbase, .inr ⟨HK.out, rfl, rfl⟩, only_set (World.grownBy_alloc w _ _) rfl⟩
  | some p =>
    rw [hk] at hc
    simp only [Option.map_some] at hc
    have HK := Lib.hid hk
    clear hk
    go_enter Try.func62, Try.ntmps62
    go_wp2
    go_ret
    exact ⟨p, rfl, by rw [setK_same HK.out]; exact H.out, .inl HK.out, World.grownBy.refl w _⟩

theorem peerAt_int (base c : Nat) (tp : Option Value) (L : Nat) (la : Array Value) (K : Nat → Option Pr) (z : Int) (w : World) (h0 : 0 ≤ z) (h1 : z < 64) (h : LK w base c tp L la K) (hbase : base ≤ w.heap.size) :
    Calls Try.prog 62 #[.pointer (some ⟨c, 0, none⟩), .int .i64 z] w (GotPeer base c tp L la K z.toNat w) := by
  obtain ⟨x, rfl⟩ := Int.eq_ofNat_of_zero_le h0
  exact peerAt_any base c tp L la K x w (by omega) h hbase

/-- a block of contacts that knows nobody -/
def CNone (arr : Array Value) (t : TypeId) (tp : Option Value) : Prop := CTy t ∧ 64 ≤ arr.size ∧ arr[64]? = tp ∧ ∀ x, x < 64 → arr[x]? = some (.pointer none)
theorem lk_start (w : World) (arr la : Array Value) (t : TypeId) (tp : Option Value) (h : CNone arr t tp) :
    LK ((w.alloc (.cells arr t)).alloc (.cells la 74)) w.heap.size w.heap.size tp (w.heap.size + 1) la (fun _ => none) := by
  refine ⟨⟨arr, t, heap_first w _ _, ⟨h.1, h.2.1, h.2.2.1⟩, fun x hx => ?_⟩, heap_second w _ _, (fun x p _ h => by cases h), Nat.le_refl _, by omega⟩
  simp only [Option.map_none]
  exact h.2.2.2 x hx
theorem cnone_contacts (arr : Array Value) (h : arr = Array.replicate 64 (.pointer none)) : CNone arr 76 none := by
  subst h
  exact ⟨⟨by decide, by decide, by decide⟩, by simp, by simp, fun x hx => by rw [Array.getElem?_replicate, if_pos hx]⟩
theorem LK.top {w : World} {base c L : Nat} {tp : Option Value} {la : Array Value} {K : Nat → Option Pr} {v : Value} (h : LK w base c (some v) L la K) (u : Value) : LK (w.setCell ⟨c, 64, none⟩ u) base c (some u) L la K := by
  obtain ⟨arr, ct, h1, h2, h3⟩ := h.cblk
  refine ⟨⟨_, ct, heap_set _ _ _ _ h1, ⟨h2.1, by simpa using h2.2.1, ?_⟩, fun y hy => ?_⟩, (heap_set_ne _ _ _ _ _ h.c_L.symm).trans h.lblk, fun y q hy hq => ?_, h.bc, h.bL⟩
  · have hs : 64 < arr.size := (Array.getElem?_eq_some_iff.1 h2.2.2).1
    rw [Array.getElem?_setIfInBounds, if_pos rfl, if_pos hs]
  · rw [Array.getElem?_setIfInBounds, if_neg (by omega)]; exact h3 y hy
  · obtain ⟨h4, h5⟩ := h.peer y q hy hq
    exact ⟨(heap_set_ne _ _ _ _ _ (h.ne_c hy hq)).trans h4, h5⟩
theorem LK.topcell {w : World} {base c L : Nat} {la : Array Value} {K : Nat → Option Pr} {v : Value} (h : LK w base c (some v) L la K) : w.cell? ⟨c, 64, none⟩ = some v ∧ w.frozen? ⟨c, 64, none⟩ = false := by
  obtain ⟨arr, ct, h1, h2, h3⟩ := h.cblk
  exact ⟨by rw [cell_of_cells h1]; exact h2.2.2, frozen_of_cells h1 64⟩
/-- another list of live peers -/
theorem LK.relist {w : World} {base c L L' : Nat} {tp : Option Value} {la la' : Array Value} {K : Nat → Option Pr} (h : LK w base c tp L la K) (hl : w.heap[L']? = some (.cells la' 74 (0, 0))) (hb : base ≤ L') : LK w base c tp L' la' K := ⟨h.cblk, hl, h.peer, h.bc, hb⟩

/-- the list of live peers so far -/
def ListOk (K : Nat → Option Pr) (r : List Nd) (la : Array Value) (k : Nat) : Prop := ∀ j, j < k → ∃ q, K (gn r j).pos.toNat = some q ∧ la[j]? = some (.pointer q.ad)
theorem ListOk.mono {K K' : Nat → Option Pr} {r : List Nd} {la : Array Value} {k : Nat} (h : ListOk K r la k) (hk : KLe K K') : ListOk K' r la k := fun j hj => by
  obtain ⟨q, h1, h2⟩ := h j hj
  obtain ⟨p, h3, h4⟩ := hk _ _ h1
  exact ⟨p, h3, by rw [h2]; simp [Pr.ad, h4]⟩
/-- at the head of the loop over the nodes -/
def LinkAt (r : List Nd) (w : World) (tp : Option Value) (len k : Nat) (wr : World) : Prop :=
  ∃ la K, LK wr w.heap.size w.heap.size tp (w.heap.size + 1) la K ∧ la.size = len ∧ Done K r k ∧ ListOk K r la k ∧ Below w.heap.size w wr
/-- at the head of the loop over the successors of node k -/
def MidAt (r : List Nd) (w : World) (tp : Option Value) (la : Array Value) (k g m : Nat) (wi : World) : Prop :=
  ∃ K p, LK wi w.heap.size w.heap.size tp (w.heap.size + 1) la K ∧ Mid K r k p ∧ p.blk = g ∧ p.lv = true ∧ PtrTo K (gn r k).bef p.b ∧ (1 ≤ m → PtrOf K (gt (gn r k).aft 0) p.s0) ∧ (2 ≤ m → PtrOf K (gt (gn r k).aft 1) p.s1) ∧ ListOk K r la k ∧ Below w.heap.size w wi

theorem mid_start {r : List Nd} {w w1 : World} {tp : Option Value} {la : Array Value} {K : Nat → Option Pr} {k : Nat} {p : Pr} (hx : (gn r k).pos.toNat < 64) (hL : LK w1 w.heap.size w.heap.size tp (w.heap.size + 1) la K) (hM : Mid K r k p) (hl : ListOk K r la k)
    (hB : Below w.heap.size w w1) (hb : (gn r k).bef = -1) (hf : Fresh p) : MidAt r w tp la k p.blk 0 (w1.setCell ⟨p.blk, 1, none⟩ (.bool true)) := by
  have hL' := hL.put (p' := { p with lv := true }) hx hM.2.1 rfl 1 (.bool true) rfl
  refine ⟨_, _, hL', hM.put (p' := { p with lv := true }) rfl, rfl, rfl, .inl ⟨hb, hf.2⟩, fun h => absurd h (by omega), fun h => absurd h (by omega), hl.mono (kle_put hM.2.1 rfl), hB.setCell (p := ⟨p.blk, 1, none⟩) (hL.peer _ _ hx hM.2.1).2 _⟩
theorem mid_before {r : List Nd} {w w3 : World} {tp : Option Value} {la : Array Value} {K : Nat → Option Pr} {k z : Nat} {p q : Pr} (hx : (gn r k).pos.toNat < 64) (hM : Mid K r k p) (hlv : p.lv = true)
    (hz : (gn r k).bef ≠ -1) (hzz : (gn r k).bef.toNat = z) (hL : LK w3 w.heap.size w.heap.size tp (w.heap.size + 1) la (setK K z q)) (hq : K z = some q ∨ K z = none ∧ Fresh q) (hl : ListOk K r la k) (hB : Below w.heap.size w w3) :
    MidAt r w tp la k p.blk 0 (w3.setCell ⟨p.blk, 2, none⟩ (.pointer q.ad)) := by
  have hM2 := hM.get hq
  have hL' := hL.put (p' := { p with b := q.ad }) hx hM2.2.1 rfl 2 (.pointer q.ad) rfl
  refine ⟨_, _, hL', hM2.put (p' := { p with b := q.ad }) rfl, rfl, hlv, .inr ⟨hz, ?_⟩, fun h => absurd h (by omega), fun h => absurd h (by omega), (hl.mono (kle_get hq)).mono (kle_put hM2.2.1 rfl), hB.setCell (p := ⟨p.blk, 2, none⟩) (hL.peer _ _ hx hM2.2.1).2 _⟩
  exact PtrOf.mono ⟨q, by rw [hzz]; exact setK_at _ _ _, rfl⟩ (kle_put hM2.2.1 rfl)
theorem mid_s0 {r : List Nd} {w w3 : World} {tp : Option Value} {la : Array Value} {K : Nat → Option Pr} {k : Nat} {p q : Pr} (hx : (gn r k).pos.toNat < 64) (hM : Mid K r k p) (hlv : p.lv = true) (hpb : PtrTo K (gn r k).bef p.b)
    (hL : LK w3 w.heap.size w.heap.size tp (w.heap.size + 1) la (setK K (gt (gn r k).aft 0).toNat q)) (hq : K (gt (gn r k).aft 0).toNat = some q ∨ K (gt (gn r k).aft 0).toNat = none ∧ Fresh q) (hl : ListOk K r la k) (hB : Below w.heap.size w w3) :
    MidAt r w tp la k p.blk 1 (w3.setCell ⟨p.blk, 3, none⟩ (.pointer q.ad)) := by
  have hM2 := hM.get hq
  have hL' := hL.put (p' := { p with s0 := q.ad }) hx hM2.2.1 rfl 3 (.pointer q.ad) rfl
  refine ⟨_, _, hL', hM2.put (p' := { p with s0 := q.ad }) rfl, rfl, hlv, (hpb.mono (kle_get hq)).mono (kle_put hM2.2.1 rfl), fun _ => ?_, fun h => absurd h (by omega), (hl.mono (kle_get hq)).mono (kle_put hM2.2.1 rfl), hB.setCell (p := ⟨p.blk, 3, none⟩) (hL.peer _ _ hx hM2.2.1).2 _⟩
  exact PtrOf.mono ⟨q, setK_at _ _ _, rfl⟩ (kle_put hM2.2.1 rfl)
theorem mid_s1 {r : List Nd} {w w3 : World} {tp : Option Value} {la : Array Value} {K : Nat → Option Pr} {k : Nat} {p q : Pr} (hx : (gn r k).pos.toNat < 64) (hM : Mid K r k p) (hlv : p.lv = true) (hpb : PtrTo K (gn r k).bef p.b) (hs0 : PtrOf K (gt (gn r k).aft 0) p.s0)
    (hL : LK w3 w.heap.size w.heap.size tp (w.heap.size + 1) la (setK K (gt (gn r k).aft 1).toNat q)) (hq : K (gt (gn r k).aft 1).toNat = some q ∨ K (gt (gn r k).aft 1).toNat = none ∧ Fresh q) (hl : ListOk K r la k) (hB : Below w.heap.size w w3) :
    MidAt r w tp la k p.blk 2 (w3.setCell ⟨p.blk, 4, none⟩ (.pointer q.ad)) := by
  have hM2 := hM.get hq
  have hL' := hL.put (p' := { p with s1 := q.ad }) hx hM2.2.1 rfl 4 (.pointer q.ad) rfl
  refine ⟨_, _, hL', hM2.put (p' := { p with s1 := q.ad }) rfl, rfl, hlv, (hpb.mono (kle_get hq)).mono (kle_put hM2.2.1 rfl), fun _ => (hs0.mono (kle_get hq)).mono (kle_put hM2.2.1 rfl), fun _ => ?_, (hl.mono (kle_get hq)).mono (kle_put hM2.2.1 rfl), hB.setCell (p := ⟨p.blk, 4, none⟩) (hL.peer _ _ hx hM2.2.1).2 _⟩
  exact PtrOf.mono ⟨q, setK_at _ _ _, rfl⟩ (kle_put hM2.2.1 rfl)
theorem mid_end {r : List Nd} {w wi : World} {tp : Option Value} {la : Array Value} {len k g : Nat} (h : MidAt r w tp la k g 2 wi) (hs : la.size = len) (hk : k < len) : LinkAt r w tp len (k + 1) (wi.setCell ⟨w.heap.size + 1, k, none⟩ (.pointer (some ⟨g, 0, none⟩))) := by
  obtain ⟨K, p, hL, hM, rfl, hlv, hpb, h0, h1, hl, hB⟩ := h
  refine ⟨_, K, hL.list k _, by simpa using hs, hM.done ⟨hlv, hpb, h0 (by omega), h1 (by omega)⟩, fun j hj => ?_, hB.setCell (p := ⟨w.heap.size + 1, k, none⟩) (by show w.heap.size ≤ w.heap.size + 1; omega) _⟩
  rcases Nat.lt_or_ge j k with h' | h'
  · obtain ⟨q, h2, h3⟩ := hl j h'
    exact ⟨q, h2, by rw [← h3]; simp [Array.getElem?_setIfInBounds]; omega⟩
  · have : j = k := by omega
    subst this
    exact ⟨p, hM.2.1, by simp [hs, hk]⟩
end Go.Proofs.Ytcbbdhmloniolaa
