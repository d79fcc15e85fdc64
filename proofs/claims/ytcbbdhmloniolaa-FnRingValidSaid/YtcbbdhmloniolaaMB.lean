/- RingMath · Cls · Ring · RingSpec · RingIds · RingPr · RingSafe -/
import Derived.Test.YtcbbdhmloniolaaMA
import Derived.Test.YtcbbdhmloniolaaRowsI
import Derived.WalkKit
import Derived.BigQuiet
import Derived.Deep.QuietTactic
import Derived.Below
import Derived.Lib.Hide
import Derived.Deep.RegionLaw
import Derived.Deep.DrawnRows
import Derived.Deep.RegionHeld3
import Derived.Test.YtcbbdhmloniolaaCls
namespace Go.Proofs.Ytcbbdhmloniolaa

/- Rings as lists of nodes: what the functions of chapter 3 compute. -/

section
set_option linter.unusedVariables false


/-- a live node: its position, its predecessor or -1, its successors -/
structure Nd where
  pos : Int
  bef : Int
  aft : List Int

def gn (r : List Nd) (i : Nat) : Nd := r.getD i ⟨0, 0, []⟩
theorem gn_get {r : List Nd} {i : Nat} (h : i < r.length) : gn r i = r[i] := by simp [gn, List.getElem?_eq_getElem h]
theorem gn_cons_zero (n : Nd) (r : List Nd) : gn (n :: r) 0 = n := by simp [gn]
theorem gn_cons_succ (n : Nd) (r : List Nd) (i : Nat) : gn (n :: r) (i + 1) = gn r i := by simp [gn]

/-- the first k hold -/
def allTo (p : Nat → Bool) : Nat → Bool
  | 0 => true
  | k + 1 => allTo p k && p k
/-- one of the first k holds -/
def anyTo (p : Nat → Bool) : Nat → Bool
  | 0 => false
  | k + 1 => anyTo p k || p k
theorem allTo_iff (p : Nat → Bool) (n : Nat) : allTo p n = true ↔ ∀ i, i < n → p i = true := by
  induction n with
  | zero => simp [allTo]
  | succ n ih =>
    simp only [allTo, Bool.and_eq_true, ih]
    constructor
    · rintro ⟨h1, h2⟩ i hi
      rcases Nat.lt_or_ge i n with h | h
      · exact h1 i h
      · have : i = n := by omega
        subst this; exact h2
    · intro h; exact ⟨fun i hi => h i (by omega), h n (by omega)⟩
theorem anyTo_iff (p : Nat → Bool) (n : Nat) : anyTo p n = true ↔ ∃ i, i < n ∧ p i = true := by
  induction n with
  | zero => simp [anyTo]
  | succ n ih =>
    simp only [anyTo, Bool.or_eq_true, ih]
    constructor
    · rintro (⟨i, hi, h⟩ | h)
      · exact ⟨i, by omega, h⟩
      · exact ⟨n, by omega, h⟩
    · rintro ⟨i, hi, h⟩
      rcases Nat.lt_or_ge i n with h' | h'
      · exact .inl ⟨i, h', h⟩
      · have : i = n := by omega
        subst this; exact .inr h
theorem allTo_succ {p : Nat → Bool} {k : Nat} (h : allTo p k = true) (hk : p k = true) : allTo p (k + 1) = true := by simp [allTo, h, hk]
theorem allTo_no {p : Nat → Bool} {k n : Nat} (h : k < n) (hk : p k = false) : allTo p n = false := by
  cases hn : allTo p n
  · rfl
  · rw [(allTo_iff p n).1 hn k h] at hk; cases hk
theorem anyTo_no (p : Nat → Bool) (n : Nat) : anyTo p n = false ↔ ∀ i, i < n → p i = false := by
  rw [← Bool.not_eq_true, anyTo_iff]
  constructor
  · intro h i hi
    cases hp : p i
    · rfl
    · exact absurd ⟨i, hi, hp⟩ h
  · rintro h ⟨i, hi, hp⟩; rw [h i hi] at hp; cases hp
theorem anyTo_yes {p : Nat → Bool} {k n : Nat} (h : k < n) (hk : p k = true) : anyTo p n = true := (anyTo_iff p n).2 ⟨k, h, hk⟩

/-- a predecessor -/
def befB (b : Int) : Bool := decide (b = -1) || ptB b
/-- two successors, both positions -/
def aftB (a : List Int) : Bool := decide (a.length = 2) && ptB (gt a 0) && ptB (gt a 1)
def ndB (n : Nd) : Bool := ptB n.pos && befB n.bef && aftB n.aft
def rokAt (r : List Nd) (k : Nat) : Bool := ndB (gn r k) && (decide (k = 0) || decide ((gn r (k - 1)).pos < (gn r k).pos))
/-- a valid ring -/
def rvB (r : List Nd) : Bool := decide (r.length ≤ 10) && allTo (rokAt r) r.length

/-- the positions of all nodes -/
def idsOf (r : List Nd) : List Int := r.map Nd.pos
/-- a node is live -/
def liveB (r : List Nd) (x : Int) : Bool := anyTo (fun i => decide ((gn r i).pos = x)) r.length
/-- a node skips a position -/
def skB (n : Nd) (x : Int) : Bool := btwI n.pos x (gt n.aft 0) || btwI (gt n.aft 0) x (gt n.aft 1)
def skdB (r : List Nd) (x : Int) : Bool := anyTo (fun k => skB (gn r k) x) r.length
/-- the principals among the first k nodes -/
def prTo (r : List Nd) : Nat → List Int
  | 0 => []
  | k + 1 => if skdB r (gn r k).pos then prTo r k else prTo r k ++ [(gn r k).pos]
def prL (r : List Nd) : List Int := prTo r r.length
/-- a node has a live successor -/
def lsB (r : List Nd) (n : Nd) : Bool := liveB r (gt n.aft 0) || liveB r (gt n.aft 1)
def sfB (r : List Nd) : Bool := allTo (fun k => lsB r (gn r k)) r.length && decide (3 ≤ (prL r).length)
/-- a safe ring -/
def safeB (r : List Nd) : Bool := rvB r && sfB r

/-- the ideal node at a place -/
def idNd (zs : List Int) (i : Nat) : Nd := ⟨gt zs i, gt zs ((i + zs.length - 1) % zs.length), [gt zs ((i + 1) % zs.length), gt zs ((i + 2) % zs.length)]⟩
def idR (zs : List Int) : List Nd := (List.range zs.length).map (idNd zs)
def sameN (a b : Nd) : Bool := decide (a.pos = b.pos) && decide (a.bef = b.bef) && decide (a.aft = b.aft)
def sameR (a b : List Nd) : Bool := decide (a.length = b.length) && allTo (fun i => sameN (gn a i) (gn b i)) a.length
/-- an ideal ring -/
def idlB (r : List Nd) : Bool := rvB r && decide (3 ≤ r.length) && sameR r (idR (idsOf r))

theorem befB_iff (b : Int) : befB b = true ↔ b = -1 ∨ 0 ≤ b ∧ b < 64 := by simp [befB, ptB]
theorem aftB_iff (a : List Int) : aftB a = true ↔ ∃ x y, a = [x, y] ∧ (0 ≤ x ∧ x < 64) ∧ 0 ≤ y ∧ y < 64 := by
  simp only [aftB, Bool.and_eq_true, decide_eq_true_eq, ptB_iff]
  constructor
  · rintro ⟨⟨hl, h0⟩, h1⟩
    match a, hl with
    | [x, y], _ => exact ⟨x, y, rfl, by simpa [gt] using h0, by simpa [gt] using h1⟩
  · rintro ⟨x, y, rfl, hx, hy⟩; simp [gt]; omega
theorem ndB_iff (n : Nd) : ndB n = true ↔ (0 ≤ n.pos ∧ n.pos < 64) ∧ (n.bef = -1 ∨ 0 ≤ n.bef ∧ n.bef < 64) ∧ ∃ x y, n.aft = [x, y] ∧ (0 ≤ x ∧ x < 64) ∧ 0 ≤ y ∧ y < 64 := by
  simp only [ndB, Bool.and_eq_true, ptB_iff, befB_iff, aftB_iff, and_assoc]
theorem rv_iff (r : List Nd) : rvB r = true ↔ r.length ≤ 10 ∧ ∀ k, k < r.length → ndB (gn r k) = true ∧ (k = 0 ∨ (gn r (k - 1)).pos < (gn r k).pos) := by
  simp only [rvB, Bool.and_eq_true, decide_eq_true_eq, allTo_iff, rokAt, Bool.or_eq_true]
theorem rv_nd {r : List Nd} (h : rvB r = true) {k : Nat} (hk : k < r.length) : ndB (gn r k) = true := ((rv_iff r).1 h).2 k hk |>.1
theorem rv_len {r : List Nd} (h : rvB r = true) : r.length ≤ 10 := ((rv_iff r).1 h).1
theorem rv_lt {r : List Nd} (h : rvB r = true) : ∀ {i j : Nat}, i < j → j < r.length → (gn r i).pos < (gn r j).pos := by
  intro i j hij hj
  induction j with
  | zero => omega
  | succ j ih =>
    have h1 := (((rv_iff r).1 h).2 (j + 1) hj).2
    have h2 : (gn r j).pos < (gn r (j + 1)).pos := by rcases h1 with h1 | h1; omega; exact h1
    rcases Nat.lt_or_ge i j with h3 | h3
    · have := ih h3 (by omega); omega
    · have : i = j := by omega
      subst this; exact h2
theorem rv_inj {r : List Nd} (h : rvB r = true) {i j : Nat} (hi : i < r.length) (hj : j < r.length) (he : (gn r i).pos = (gn r j).pos) : i = j := by
  rcases Nat.lt_trichotomy i j with h1 | h1 | h1
  · have := rv_lt h h1 hj; omega
  · exact h1
  · have := rv_lt h h1 hi; omega

theorem ids_len (r : List Nd) : (idsOf r).length = r.length := by simp [idsOf]
theorem ids_gt {r : List Nd} {i : Nat} (h : i < r.length) : gt (idsOf r) i = (gn r i).pos := by
  rw [gt_get (by simpa [idsOf] using h), gn_get h]; simp [idsOf]
theorem live_iff (r : List Nd) (x : Int) : liveB r x = true ↔ ∃ i, i < r.length ∧ (gn r i).pos = x := by simp [liveB, anyTo_iff]
theorem live_no (r : List Nd) (x : Int) : liveB r x = false ↔ ∀ i, i < r.length → (gn r i).pos ≠ x := by simp [liveB, anyTo_no]
theorem live_at {r : List Nd} {i : Nat} (h : i < r.length) : liveB r (gn r i).pos = true := (live_iff _ _).2 ⟨i, h, rfl⟩
theorem skd_iff (r : List Nd) (x : Int) : skdB r x = true ↔ ∃ k, k < r.length ∧ skB (gn r k) x = true := by simp [skdB, anyTo_iff]
theorem skd_no (r : List Nd) (x : Int) : skdB r x = false ↔ ∀ k, k < r.length → skB (gn r k) x = false := by simp [skdB, anyTo_no]

theorem mem_prTo (r : List Nd) (k : Nat) (x : Int) : x ∈ prTo r k ↔ ∃ i, i < k ∧ (gn r i).pos = x ∧ skdB r x = false := by
  induction k with
  | zero => simp [prTo]
  | succ k ih =>
    rw [prTo]
    cases hs : skdB r (gn r k).pos
    · simp only [Bool.false_eq_true, if_false, List.mem_append, ih, List.mem_singleton]
      constructor
      · rintro (⟨i, hi, h1, h2⟩ | rfl)
        · exact ⟨i, by omega, h1, h2⟩
        · exact ⟨k, by omega, rfl, hs⟩
      · rintro ⟨i, hi, h1, h2⟩
        rcases Nat.lt_or_ge i k with h | h
        · exact .inl ⟨i, h, h1, h2⟩
        · have : i = k := by omega
          subst this; exact .inr h1.symm
    · simp only [if_true, ih]
      constructor
      · rintro ⟨i, hi, h1, h2⟩; exact ⟨i, by omega, h1, h2⟩
      · rintro ⟨i, hi, h1, h2⟩
        rcases Nat.lt_or_ge i k with h | h
        · exact ⟨i, h, h1, h2⟩
        · have : i = k := by omega
          subst this; rw [h1] at hs; rw [hs] at h2; cases h2
theorem mem_pr (r : List Nd) (x : Int) : x ∈ prL r ↔ liveB r x = true ∧ skdB r x = false := by
  rw [prL, mem_prTo, live_iff]
  constructor
  · rintro ⟨i, h1, h2, h3⟩; exact ⟨⟨i, h1, h2⟩, h3⟩
  · rintro ⟨⟨i, h1, h2⟩, h3⟩; exact ⟨i, h1, h2, h3⟩
theorem prTo_len (r : List Nd) (k : Nat) : (prTo r k).length ≤ k := by
  induction k with
  | zero => simp [prTo]
  | succ k ih =>
    rw [prTo]
    split
    · omega
    · rw [List.length_append, List.length_singleton]; omega
/-- principals are ascending -/
theorem prTo_asc {r : List Nd} (h : rvB r = true) {k : Nat} (hk : k ≤ r.length) : (prTo r k).Pairwise (· < ·) := by
  induction k with
  | zero => simp [prTo]
  | succ k ih =>
    rw [prTo]
    split
    · exact ih (by omega)
    · rw [List.pairwise_append]
      refine ⟨ih (by omega), by simp, fun a ha b hb => ?_⟩
      rw [List.mem_singleton] at hb
      subst hb
      obtain ⟨i, hi, rfl, _⟩ := (mem_prTo _ _ _).1 ha
      exact rv_lt h hi (by omega)
theorem pr_nodup {r : List Nd} (h : rvB r = true) : (prL r).Nodup := (prTo_asc h (Nat.le_refl _)).imp (fun h => by omega)

/-- distinct numbers that all lie in a list are at most as many as the list has -/
theorem sub_len : ∀ (l zs : List Int), l.Nodup → (∀ x ∈ l, x ∈ zs) → l.length ≤ zs.length := by
  intro l
  induction l with
  | nil => intro zs _ _; simp
  | cons x l ih =>
    intro zs hn hs
    rw [List.nodup_cons] at hn
    have hx := hs x (by simp)
    have h1 := ih (zs.erase x) hn.2 (fun y hy => by
      have hne : y ≠ x := fun e => hn.1 (e ▸ hy)
      exact (List.mem_erase_of_ne hne).2 (hs y (by simp [hy])))
    rw [List.length_erase_of_mem hx] at h1
    have h2 : 0 < zs.length := List.length_pos_of_mem hx
    simp; omega

theorem btwI_iff (a x b : Int) : btwI a x b = true ↔ (a < b ∧ a < x ∧ x < b) ∨ (b ≤ a ∧ (a < x ∨ x < b)) := by simp [btwI]
theorem sf_iff (r : List Nd) : sfB r = true ↔ (∀ k, k < r.length → lsB r (gn r k) = true) ∧ 3 ≤ (prL r).length := by
  simp [sfB, allTo_iff]
theorem safe_iff (r : List Nd) : safeB r = true ↔ rvB r = true ∧ (∀ k, k < r.length → lsB r (gn r k) = true) ∧ 3 ≤ (prL r).length := by
  simp [safeB, sf_iff]
/-- what is skipped lies before the first successor, or at it, or behind it -/
theorem btw_part {n a0 a1 p : Int} (hn : 0 ≤ n ∧ n < 64) (h0 : 0 ≤ a0 ∧ a0 < 64) (h1 : 0 ≤ a1 ∧ a1 < 64) (hp : 0 ≤ p ∧ p < 64) (h : btwI n p a1 = true) :
    btwI n p a0 = true ∨ p = a0 ∨ btwI a0 p a1 = true := by
  simp only [btwI_iff] at *; omega
/-- a node of a safe ring knows its place, two successors, in order -/
theorem safe_order {r : List Nd} (h : safeB r = true) {k : Nat} (hk : k < r.length) : btwI (gn r k).pos (gt (gn r k).aft 0) (gt (gn r k).aft 1) = true := by
  obtain ⟨hv, _, h3⟩ := (safe_iff r).1 h
  obtain ⟨hp, _, x, y, ha, hx, hy⟩ := (ndB_iff _).1 (rv_nd hv hk)
  rw [ha]
  cases hb : btwI (gn r k).pos (gt [x, y] 0) (gt [x, y] 1)
  · exfalso
    have hs : ∀ q ∈ prL r, q ∈ [x, (gn r k).pos] := by
      intro q hq
      obtain ⟨hl, hnsk⟩ := (mem_pr _ _).1 hq
      obtain ⟨i, hi, hqi⟩ := (live_iff _ _).1 hl
      have hqp := ((ndB_iff _).1 (rv_nd hv hi)).1
      rw [hqi] at hqp
      have := (skd_no _ _).1 hnsk k hk
      rw [skB, ha] at this
      simp only [Bool.or_eq_false_iff] at this
      have e0 : gt [x, y] 0 = x := rfl
      have e1 : gt [x, y] 1 = y := rfl
      rw [e0, e1] at this hb
      rw [← Bool.not_eq_true, ← Bool.not_eq_true, btwI_iff, btwI_iff] at this
      rw [← Bool.not_eq_true, btwI_iff] at hb
      simp only [List.mem_cons, List.not_mem_nil, or_false]
      omega
    have := sub_len _ _ (pr_nodup hv) hs
    simp at this; omega
  · rfl
theorem safe_self {r : List Nd} (h : safeB r = true) {k : Nat} (hk : k < r.length) : gt (gn r k).aft 0 ≠ (gn r k).pos ∧ gt (gn r k).aft 1 ≠ (gn r k).pos ∧ gt (gn r k).aft 0 ≠ gt (gn r k).aft 1 := by
  obtain ⟨hv, _, h3⟩ := (safe_iff r).1 h
  have ho := safe_order h hk
  rw [btwI_iff] at ho
  refine ⟨by omega, fun e => ?_, by omega⟩
  obtain ⟨hp, _, x, y, ha, hx, hy⟩ := (ndB_iff _).1 (rv_nd hv hk)
  have e0 : gt [x, y] 0 = x := rfl
  have e1 : gt [x, y] 1 = y := rfl
  rw [ha, e1] at e
  have hs : ∀ q ∈ prL r, q ∈ [x, (gn r k).pos] := by
    intro q hq
    obtain ⟨hl, hnsk⟩ := (mem_pr _ _).1 hq
    obtain ⟨i, hi, hqi⟩ := (live_iff _ _).1 hl
    have hqp := ((ndB_iff _).1 (rv_nd hv hi)).1
    rw [hqi] at hqp
    have := (skd_no _ _).1 hnsk k hk
    rw [skB, ha, e0, e1] at this
    simp only [Bool.or_eq_false_iff] at this
    rw [← Bool.not_eq_true, ← Bool.not_eq_true, btwI_iff, btwI_iff] at this
    simp only [List.mem_cons, List.not_mem_nil, or_false]
    omega
  have := sub_len _ _ (pr_nodup hv) hs
  simp at this; omega
theorem safe_btw {r : List Nd} (h : safeB r = true) {k : Nat} (hk : k < r.length) {q : Int} (hq : q ∈ prL r) (hb : btwI (gn r k).pos q (gt (gn r k).aft 1) = true) : q = gt (gn r k).aft 0 := by
  obtain ⟨hv, _, h3⟩ := (safe_iff r).1 h
  obtain ⟨hp, _, x, y, ha, hx, hy⟩ := (ndB_iff _).1 (rv_nd hv hk)
  have e0 : gt [x, y] 0 = x := rfl
  have e1 : gt [x, y] 1 = y := rfl
  obtain ⟨hl, hnsk⟩ := (mem_pr _ _).1 hq
  obtain ⟨i, hi, hqi⟩ := (live_iff _ _).1 hl
  have hqp := ((ndB_iff _).1 (rv_nd hv hi)).1
  rw [hqi] at hqp
  have hsk := (skd_no _ _).1 hnsk k hk
  rw [skB, ha, e0, e1] at hsk
  simp only [Bool.or_eq_false_iff] at hsk
  rw [ha, e1] at hb
  rw [ha, e0]
  rcases btw_part hp hx hy hqp hb with h | h | h
  · rw [h] at hsk; cases hsk.1
  · exact h
  · rw [h] at hsk; cases hsk.2

end

/- Rings in memory; what RingValid does. -/

section
open Go.RowKit
set_option linter.unusedVariables false


/-- A slice value that reads as numbers. -/
def IntsV (w : World) (v : Value) (zs : List Int) : Prop :=
  ∃ a cap, v = .slice a zs.length cap ∧ zs.length ≤ cap ∧ cap ≤ maxLen ∧ IntsAt w a zs
/-- Three cells that read as a node. -/
def NodeAt (w : World) (b o : Nat) (n : Nd) : Prop :=
  w.cell? ⟨b, o, none⟩ = some (.int .i64 n.pos) ∧ w.cell? ⟨b, o + 1, none⟩ = some (.int .i64 n.bef) ∧ ∃ v, w.cell? ⟨b, o + 2, none⟩ = some v ∧ IntsV w v n.aft
/-- A slice at address a reads as the ring r. -/
def RingAt (w : World) (a : Option Addr) (r : List Nd) : Prop :=
  r = [] ∨ ∃ b off, a = some ⟨b, off, none⟩ ∧ b < w.heap.size ∧ ∀ i, i < r.length → NodeAt w b (off + i * 3) (gn r i)

theorem ints_two {w : World} {a : Option Addr} {x y : Int} (h : IntsAt w a [x, y]) : ∃ b off, a = some ⟨b, off, none⟩ ∧ b < w.heap.size ∧ w.cell? ⟨b, off, none⟩ = some (.int .i64 x) ∧ w.cell? ⟨b, off + 1, none⟩ = some (.int .i64 y) := by
  rcases h with h | ⟨b, off, ha, hb, hc⟩
  · cases h
  · exact ⟨b, off, ha, hb, hc 0 (by simp), hc 1 (by simp)⟩

def TwoOk (x y : Int) (k : Nat) : Prop := (1 ≤ k → ptB x = true) ∧ (2 ≤ k → ptB y = true)
theorem two0 (x y : Int) : TwoOk x y 0 := ⟨fun h => absurd h (by omega), fun h => absurd h (by omega)⟩
theorem two1 {x y : Int} (h : ptB x = true) : TwoOk x y 1 := ⟨fun _ => h, fun h => absurd h (by omega)⟩
theorem two2 {x y : Int} (h : ptB x = true) (h' : ptB y = true) : TwoOk x y 2 := ⟨fun _ => h, fun _ => h'⟩

set_option maxHeartbeats 400000 in
theorem ndv_any (n : Nd) (sa : Option Addr) (sc : Nat) (w : World) (h : IntsAt w sa n.aft) (hl : n.aft.length ≤ sc) (hm : sc ≤ maxLen) :
    Calls Try.prog 37 #[.agg #[.int .i64 n.pos, .int .i64 n.bef, .slice sa n.aft.length sc]] w fun e w' => e = .returned (.bool (ndB n)) ∧ Below w.heap.size w w' := by
  obtain ⟨pos, bef, aft⟩ := n
  unfold maxLen at hm
  simp only at *
  have hB : ∀ o, Below w.heap.size w (w.alloc o) := fun o => (Below.refl _ _).alloc (Nat.le_refl _) _
  have HB := Lib.hid hB
  clear hB
  cases hp : ptB pos
  · have He : Hid (ndB ⟨pos, bef, aft⟩ = false) := by show ndB _ = false; simp [ndB, hp]
    clear h
    go_enter Try.func37, Try.ntmps37
    go_wp2_with (go_at_call 43; refine (valid_any _ _).mono ?_; rintro e w' ⟨rfl, rfl⟩)
    go_ret
    exact ⟨ret_bool He.out.symm, HB.out _⟩
  by_cases h2 : aft.length = 2
  · match aft, h2 with
    | [x, y], _ =>
      obtain ⟨b, off, rfl, hb, hc0, hc1⟩ := ints_two h
      clear h
      have He : Hid (ndB ⟨pos, bef, [x, y]⟩ = (befB bef && (ptB x && ptB y))) := by show ndB _ = _; simp [ndB, hp, aftB, gt]
      simp only [List.length_cons, List.length_nil, Nat.zero_add] at hl ⊢
      go_enter Try.func37, Try.ntmps37
      go_wp2_with (go_at_call 43; refine (valid_any _ _).mono ?_; rintro e w' ⟨rfl, rfl⟩)
      go_loop [18] (fun i => ∃ k : Nat, k ≤ 2 ∧ i = .int .i64 k ∧ TwoOk x y k) (fun i => 2 - (intOf i).toNat)
      case atStart => exact ⟨0, by omega, rfl, two0 _ _⟩
      case round =>
        obtain ⟨k, hk, rfl, h12⟩ := hrel
        by_cases hk0 : k = 0
        · subst hk0
          cases hx : ptB x
          · go_wp2_with (go_at_call 43; refine (valid_any _ _).mono ?_; rintro e w' ⟨rfl, rfl⟩)
            go_ret
            exact ⟨ret_bool (by rw [He.out, hx]; simp), HB.out _⟩
          · go_wp2_with (go_at_call 43; refine (valid_any _ _).mono ?_; rintro e w' ⟨rfl, rfl⟩)
            go_round
            case rel => exact ⟨1, by omega, by go_num, two1 hx⟩
            case measure => simp [intOf]
        · by_cases hk1 : k = 1
          · subst hk1
            have hx := h12.1 (by omega)
            clear h12
            cases hy : ptB y
            · go_wp2_with (go_at_call 43; refine (valid_any _ _).mono ?_; rintro e w' ⟨rfl, rfl⟩)
              go_ret
              exact ⟨ret_bool (by rw [He.out, hy]; simp), HB.out _⟩
            · go_wp2_with (go_at_call 43; refine (valid_any _ _).mono ?_; rintro e w' ⟨rfl, rfl⟩)
              go_round
              case rel => exact ⟨2, by omega, by go_num, two2 hx hy⟩
              case measure => simp [intOf]
          · obtain rfl : k = 2 := by omega
            have hx := h12.1 (by omega)
            have hy := h12.2 (by omega)
            clear h12 hk0 hk1
            cases hbe : (bef == -1)
            · go_wp2_with (go_at_call 43; refine (valid_any _ _).mono ?_; rintro e w' ⟨rfl, rfl⟩)
              go_ret
              exact ⟨ret_bool (by rw [He.out, hx, hy]; simp [befB] at *; simp [hbe]), HB.out _⟩
            · go_wp2_with (go_at_call 43; refine (valid_any _ _).mono ?_; rintro e w' ⟨rfl, rfl⟩)
              go_ret
              exact ⟨ret_bool (by rw [He.out, hx, hy]; simp [befB] at *; simp [hbe]), HB.out _⟩
  · have hne : ((aft.length : Int) != 2) = true := by simp; omega
    have He : Hid (ndB ⟨pos, bef, aft⟩ = false) := by show ndB _ = false; simp [ndB, aftB, h2]
    clear h h2
    go_enter Try.func37, Try.ntmps37
    go_wp2_with (go_at_call 43; refine (valid_any _ _).mono ?_; rintro e w' ⟨rfl, rfl⟩)
    go_ret
    exact ⟨ret_bool He.out.symm, HB.out _⟩

theorem ndv_as (v : Bool) (n : Nd) (sa : Option Addr) (sc : Nat) (w : World) (h : IntsAt w sa n.aft) (hl : n.aft.length ≤ sc) (hm : sc ≤ maxLen) (hv : ndB n = v) :
    Calls Try.prog 37 #[.agg #[.int .i64 n.pos, .int .i64 n.bef, .slice sa n.aft.length sc]] w fun e w' => e = .returned (.bool v) ∧ Below w.heap.size w w' := by
  subst hv; exact ndv_any n sa sc w h hl hm
theorem node_open {w : World} {b o : Nat} {n : Nd} (h : NodeAt w b o n) : ∃ sa sc, w.cell? ⟨b, o, none⟩ = some (.int .i64 n.pos) ∧ w.cell? ⟨b, o + 1, none⟩ = some (.int .i64 n.bef) ∧ w.cell? ⟨b, o + 2, none⟩ = some (.slice sa n.aft.length sc) ∧ n.aft.length ≤ sc ∧ sc ≤ maxLen ∧ IntsAt w sa n.aft := by
  obtain ⟨h0, h1, v, h2, sa, sc, rfl, h3, h4, h5⟩ := h
  exact ⟨sa, sc, h0, h1, h2, h3, h4, h5⟩
theorem NodeAt.keepB {w w' : World} {B b o : Nat} {n : Nd} (h : NodeAt w b o n) (hlt : b < w.heap.size) (hb : Below B w w') (hB : w.heap.size ≤ B) : NodeAt w' b o n := by
  obtain ⟨h0, h1, v, h2, sa, sc, hv, h3, h4, h5⟩ := h
  have hlt' : b < B := Nat.lt_of_lt_of_le hlt hB
  exact ⟨(hb.cell (p := ⟨b, o, none⟩) hlt').trans h0, (hb.cell (p := ⟨b, o + 1, none⟩) hlt').trans h1, v, (hb.cell (p := ⟨b, o + 2, none⟩) hlt').trans h2, sa, sc, hv, h3, h4, h5.keepB hb hB⟩
theorem RingAt.keepB {w w' : World} {B : Nat} {a : Option Addr} {r : List Nd} (h : RingAt w a r) (hb : Below B w w') (hB : w.heap.size ≤ B) : RingAt w' a r := by
  rcases h with h0 | ⟨b, off, ha, hlt, hc⟩
  · exact .inl h0
  · exact .inr ⟨b, off, ha, Nat.lt_of_lt_of_le hlt hb.size, fun i hi => (hc i hi).keepB hlt hb hB⟩
theorem RingAt.at_ {w : World} {a : Option Addr} {r : List Nd} (h : RingAt w a r) {i : Nat} (hi : i < r.length) : ∃ b off, a = some ⟨b, off, none⟩ ∧ b < w.heap.size ∧ ∀ j, j < r.length → NodeAt w b (off + j * 3) (gn r j) := by
  rcases h with h0 | ⟨b, off, ha, hlt, hc⟩
  · rw [h0] at hi; simp at hi
  · exact ⟨b, off, ha, hlt, hc⟩

set_option maxHeartbeats 1000000 in
theorem rv_any (a : Option Addr) (len cap : Nat) (r : List Nd) (w : World) (h : RingAt w a r) (hz : r.length = len) (hm : len ≤ maxLen) :
    Calls Try.prog 10 #[.slice a len cap] w fun e w' => e = .returned (.bool (rvB r)) ∧ Below w.heap.size w w' := by
  have HI := Lib.hid h
  have HZ := Lib.hid hz
  unfold maxLen at hm
  by_cases h10 : 10 < len
  · have He : Hid (rvB r = false) := by show rvB r = false; simp [rvB, hz]; omega
    clear h hz
    go_enter Try.func10, Try.ntmps10
    go_wp2
    go_ret
    exact ⟨ret_bool He.out.symm, Below.refl _ _⟩
  have He : Hid (rvB r = allTo (rokAt r) len) := by show rvB r = _; simp [rvB, hz]; omega
  clear h hz
  go_enter Try.func10, Try.ntmps10
  go_wp2
  go_loopw [10] (fun i wr => ∃ k : Nat, k ≤ len ∧ i = .int .i64 k ∧ allTo (rokAt r) k = true ∧ Below w.heap.size w wr) (fun i _ => len - (intOf i).toNat)
  case atStart => exact ⟨0, by omega, rfl, rfl, Below.refl _ _⟩
  case round =>
    obtain ⟨k, hk, rfl, hall, hbel⟩ := hrel
    have HA := Lib.hid hall
    clear hall
    by_cases hlt : k < len
    · obtain ⟨b, off, rfl, hb0, hnodes⟩ := (HI.out.keepB hbel (Nat.le_refl _)).at_ (by rw [HZ.out]; exact hlt)
      obtain ⟨sa, sc, hc0, hc1, hc2, hl, hmx, hints⟩ := node_open (hnodes k (by rw [HZ.out]; exact hlt))
      have HN := Lib.hid hnodes
      clear hnodes
      have HX := Lib.hid hmx
      have HT := Lib.hid hints
      clear hmx hints
      have hbw : ∀ o, Below wr.heap.size wr (wr.alloc o) := fun o => (Below.refl _ _).alloc (Nat.le_refl _) _
      have HBW := Lib.hid hbw
      clear hbw
      obtain ⟨W, hW⟩ : ∃ W, W = wr.alloc (.cells #[.int .i64 (gn r k).pos, .int .i64 (gn r k).bef, .slice sa (gn r k).aft.length sc] 28) := ⟨_, rfl⟩
      have hWb : Below wr.heap.size wr W := by rw [hW]; exact HBW.out _
      have hWs : wr.heap.size < W.heap.size := by rw [hW]; simp
      have hW0 : ∀ x : Cls (Below W.heap.size W), x.to.cell? ⟨wr.heap.size, 0, none⟩ = some (.int .i64 (gn r k).pos) := fun x => (x.ok.cell (p := ⟨wr.heap.size, 0, none⟩) hWs).trans (by rw [hW]; simp)
      have hW1 : ∀ x : Cls (Below W.heap.size W), x.to.cell? ⟨wr.heap.size, 1, none⟩ = some (.int .i64 (gn r k).bef) := fun x => (x.ok.cell (p := ⟨wr.heap.size, 1, none⟩) hWs).trans (by rw [hW]; simp)
      have hW2 : ∀ x : Cls (Below W.heap.size W), x.to.cell? ⟨wr.heap.size, 2, none⟩ = some (.slice sa (gn r k).aft.length sc) := fun x => (x.ok.cell (p := ⟨wr.heap.size, 2, none⟩) hWs).trans (by rw [hW]; simp)
      have HW := Lib.hid hW
      clear hW
      cases hn : ndB (gn r k)
      · have HNV := Lib.hid hn
        clear hn
        go_wp2_with fail
        rw [← HW.out]
        refine wp_region_cls (Below W.heap.size W) (by kernel_rfl) (by kernel_rfl) below_drawn ?_
        repeat (go_big_quiet_step ((go_at_call 37; rename_i x; exact cls_below (ndv_as false (gn r k) sa sc _ (HT.out.keepB (hWb.trans (x.ok.mono (by omega))) (Nat.le_refl _)) hl HX.out HNV.out) x.ok (Nat.le_refl _))))
        refine wpQuiet_nil ?_
        intro w2 hw'
        have hb2 := cls_out hw'
        clear hw'
        have hbel2 : Below w.heap.size w w2 := hbel.trans ((hWb.trans (hb2.mono (by omega))).mono hbel.size)
        clear hW0 hW1 hW2
        go_wp2
        go_ret
        exact ⟨ret_bool (by rw [He.out, allTo_no hlt]; simp [rokAt, HNV.out]), hbel2⟩
      · have HNV := Lib.hid hn
        clear hn
        by_cases hk0 : k = 0
        · have hk00 : decide (0 < (k : Int)) = false := by simp; omega
          have hk01 : decide (0 < k) = false := by simp; omega
          have HK := Lib.hid hk0
          clear hk0
          go_wp2_with fail
          rw [← HW.out]
          refine wp_region_cls (Below W.heap.size W) (by kernel_rfl) (by kernel_rfl) below_drawn ?_
          repeat (go_big_quiet_step ((go_at_call 37; rename_i x; exact cls_below (ndv_as true (gn r k) sa sc _ (HT.out.keepB (hWb.trans (x.ok.mono (by omega))) (Nat.le_refl _)) hl HX.out HNV.out) x.ok (Nat.le_refl _))))
          refine wpQuiet_nil ?_
          intro w2 hw'
          have hb2 := cls_out hw'
          clear hw'
          have hbel2 : Below w.heap.size w w2 := hbel.trans ((hWb.trans (hb2.mono (by omega))).mono hbel.size)
          clear hW0 hW1 hW2 hk00 hk01
          go_wp2
          go_roundw
          case rel => exact ⟨k + 1, by omega, by go_num, allTo_succ HA.out (by rw [rokAt, HNV.out]; simp [HK.out]), hbel2⟩
          case measure => simp [intOf]; omega
        · have hk1 : ((k : Int) - 1).toNat = k - 1 := by omega
          obtain ⟨sa', sc', hd0, hd1, hd2, _, _, _⟩ := node_open (HN.out (k - 1) (by rw [HZ.out]; omega))
          have hD0 : ∀ x : Cls (Below W.heap.size W), x.to.cell? ⟨b, off + (k - 1) * 3, none⟩ = some (.int .i64 (gn r (k - 1)).pos) := fun x => ((hWb.trans (x.ok.mono (by omega))).cell (p := ⟨b, off + (k - 1) * 3, none⟩) hb0).trans hd0
          have hkp : 0 < k := by omega
          have hki : (1 : Int) ≤ (k : Int) := by omega
          by_cases hle : (gn r k).pos ≤ (gn r (k - 1)).pos
          · have HL := Lib.hid hle
            go_wp2_with fail
            rw [← HW.out]
            refine wp_region_cls (Below W.heap.size W) (by kernel_rfl) (by kernel_rfl) below_drawn ?_
            repeat (go_big_quiet_step ((go_at_call 37; rename_i x; exact cls_below (ndv_as true (gn r k) sa sc _ (HT.out.keepB (hWb.trans (x.ok.mono (by omega))) (Nat.le_refl _)) hl HX.out HNV.out) x.ok (Nat.le_refl _))))
            refine wpQuiet_nil ?_
            intro w2 hw'
            have hb2 := cls_out hw'
            clear hw'
            have hbel2 : Below w.heap.size w w2 := hbel.trans ((hWb.trans (hb2.mono (by omega))).mono hbel.size)
            clear hW0 hW1 hW2
            clear hD0
            go_wp2
            go_ret
            exact ⟨ret_bool (by rw [He.out, allTo_no hlt]; simp [rokAt, HNV.out, hk0]; omega), hbel2⟩
          · have hle' : (gn r (k - 1)).pos < (gn r k).pos := by omega
            go_wp2_with fail
            rw [← HW.out]
            refine wp_region_cls (Below W.heap.size W) (by kernel_rfl) (by kernel_rfl) below_drawn ?_
            repeat (go_big_quiet_step ((go_at_call 37; rename_i x; exact cls_below (ndv_as true (gn r k) sa sc _ (HT.out.keepB (hWb.trans (x.ok.mono (by omega))) (Nat.le_refl _)) hl HX.out HNV.out) x.ok (Nat.le_refl _))))
            refine wpQuiet_nil ?_
            intro w2 hw'
            have hb2 := cls_out hw'
            clear hw'
            have hbel2 : Below w.heap.size w w2 := hbel.trans ((hWb.trans (hb2.mono (by omega))).mono hbel.size)
            clear hW0 hW1 hW2
            clear hD0
            go_wp2
            go_roundw
            case rel => exact ⟨k + 1, by omega, by go_num, allTo_succ HA.out (by simp [rokAt, HNV.out]; omega), hbel2⟩
            case measure => simp [intOf]; omega
    · go_wp2
      go_ret
      exact ⟨ret_bool (by rw [He.out, show len = k by omega]; exact HA.out.symm), hbel⟩

end

/- What the model's RingValid does. -/

section
open Go.RowKit
set_option linter.unusedVariables false


theorem rok_no {r : List Nd} {k : Nat} (h : ndB (gn r k) = false) : rokAt r k = false := by simp [rokAt, h]
theorem rok_yes {r : List Nd} {k : Nat} (h : ndB (gn r k) = true) (ho : k = 0 ∨ (gn r (k - 1)).pos < (gn r k).pos) : rokAt r k = true := by simp [rokAt, h]; exact ho
theorem rok_le {r : List Nd} {k : Nat} (hk : ¬ k = 0) (ho : (gn r k).pos ≤ (gn r (k - 1)).pos) : rokAt r k = false := by simp [rokAt, hk]; omega
theorem nd_pos {n : Nd} (h : ptB n.pos = false) : ndB n = false := by simp [ndB, h]
theorem nd_bef {n : Nd} (h : (n.bef != -1) = true) (h' : ptB n.bef = false) : ndB n = false := by
  have : ¬ n.bef = -1 := by simpa using h
  simp [ndB, befB, this, h']
theorem nd_len {n : Nd} (h : ((n.aft.length : Int) != 2) = true) : ndB n = false := by
  have : ¬ n.aft.length = 2 := by simp at h; omega
  simp [ndB, aftB, this]
theorem nd_two {n : Nd} {x y : Int} (hp : ptB n.pos = true) (hb : befB n.bef = true) (ha : n.aft = [x, y]) : ndB n = (ptB x && ptB y) := by
  simp [ndB, hp, hb, ha, aftB, gt]
theorem bef_one {b : Int} (h : (b != -1) = false) : befB b = true := by simp at h; simp [befB, h]
theorem bef_pt {b : Int} (h : ptB b = true) : befB b = true := by simp [befB, h]
theorem point_as (v : Bool) (n : Int) (w : World) (hv : ptB n = v) :
    Calls Try.prog 38 #[.int .i64 n] w fun e w' => e = .returned (.bool v) ∧ w = w' := by subst hv; exact point_any n w

set_option maxHeartbeats 4000000 in
theorem srv_any (a : Option Addr) (len cap : Nat) (r : List Nd) (w : World) (h : RingAt w a r) (hz : r.length = len) (hm : len ≤ maxLen) :
    Calls Try.prog 11 #[.slice a len cap] w fun e w' => e = .returned (.bool (rvB r)) ∧ Below w.heap.size w w' := by
  have HI := Lib.hid h
  have HZ := Lib.hid hz
  unfold maxLen at hm
  have He : Hid (rvB r = (allTo (rokAt r) len && decide (len ≤ 10))) := by show rvB r = _; rw [rvB, hz, Bool.and_comm]
  clear h hz
  go_enter Try.func11, Try.ntmps11
  go_wp2
  go_loopw [3] (fun i wr => ∃ k : Nat, k ≤ len ∧ i = .int .i64 k ∧ allTo (rokAt r) k = true ∧ Below w.heap.size w wr) (fun i _ => len - (intOf i).toNat)
  case atStart => exact ⟨0, by omega, rfl, rfl, Below.refl _ _⟩
  case round =>
    obtain ⟨k, hk, rfl, hall, hbel⟩ := hrel
    have HA := Lib.hid hall
    clear hall
    by_cases hlt : k < len
    · obtain ⟨b, off, rfl, hb0, hnodes⟩ := (HI.out.keepB hbel (Nat.le_refl _)).at_ (by rw [HZ.out]; exact hlt)
      obtain ⟨sa, sc, hc0, hc1, hc2, hl, hmx, hints⟩ := node_open (hnodes k (by rw [HZ.out]; exact hlt))
      have HN := Lib.hid hnodes
      clear hnodes
      have HX := Lib.hid hmx
      have HT := Lib.hid hints
      unfold maxLen at hmx
      clear hints
      have hbw : ∀ o, Below wr.heap.size wr (wr.alloc o) := fun o => (Below.refl _ _).alloc (Nat.le_refl _) _
      have HBW := Lib.hid hbw
      clear hbw
      obtain ⟨W, hW⟩ : ∃ W, W = wr.alloc (.cells #[.int .i64 (gn r k).pos, .int .i64 (gn r k).bef, .slice sa (gn r k).aft.length sc] 28) := ⟨_, rfl⟩
      have hWb : Below wr.heap.size wr W := by rw [hW]; exact HBW.out _
      have hWs : wr.heap.size < W.heap.size := by rw [hW]; simp
      have hW0 : ∀ x : Cls (Below W.heap.size W), x.to.cell? ⟨wr.heap.size, 0, none⟩ = some (.int .i64 (gn r k).pos) := fun x => (x.ok.cell (p := ⟨wr.heap.size, 0, none⟩) hWs).trans (by rw [hW]; simp)
      have hW1 : ∀ x : Cls (Below W.heap.size W), x.to.cell? ⟨wr.heap.size, 1, none⟩ = some (.int .i64 (gn r k).bef) := fun x => (x.ok.cell (p := ⟨wr.heap.size, 1, none⟩) hWs).trans (by rw [hW]; simp)
      have hC2 : W.cell? ⟨wr.heap.size, 2, none⟩ = some (.slice sa (gn r k).aft.length sc) := by rw [hW]; simp
      have hW2 : ∀ x : Cls (Below W.heap.size W), x.to.cell? ⟨wr.heap.size, 2, none⟩ = some (.slice sa (gn r k).aft.length sc) := fun x => (x.ok.cell (p := ⟨wr.heap.size, 2, none⟩) hWs).trans hC2
      have HC2 := Lib.hid hC2
      have HW := Lib.hid hW
      clear hW hC2
      have hD0 : ∀ x : Cls (Below W.heap.size W), 0 < k → x.to.cell? ⟨b, off + (k - 1) * 3, none⟩ = some (.int .i64 (gn r (k - 1)).pos) := fun x hk0 => ((hWb.trans (x.ok.mono (by omega))).cell (p := ⟨b, off + (k - 1) * 3, none⟩) hb0).trans (node_open (HN.out (k - 1) (by rw [HZ.out]; omega))).choose_spec.choose_spec.1
      cases hp : ptB (gn r k).pos
      · have HP := Lib.hid hp
        go_wp2_with fail
        rw [← HW.out]
        refine wp_region_cls (Below W.heap.size W) (by kernel_rfl) (by kernel_rfl) below_drawn ?_
        repeat (go_big_quiet_step ((go_at_call 38; rename_i x; first | exact cls_same (point_as _ _ _ hp) x.ok | exact cls_same (point_as _ _ _ hbp) x.ok)))
        refine wpQuiet_nil ?_
        intro w2 hw'
        have hb2 := cls_out hw'
        clear hw'
        have hbel2 : Below w.heap.size w w2 := hbel.trans ((hWb.trans (hb2.mono (by omega))).mono hbel.size)
        have hC2 := (hb2.cell (p := ⟨wr.heap.size, 2, none⟩) hWs).trans HC2.out
        clear hW0 hW1 hW2 hD0
        go_wp2
        go_ret
        exact ⟨ret_bool (by rw [He.out, allTo_no hlt, Bool.false_and]; exact rok_no (nd_pos hp)), hbel2⟩
      · cases hkp : decide (0 < k)
        · have hk0 : k = 0 := by simp at hkp; omega
          have hki : decide (0 < (k : Int)) = false := by simp; omega
          have HO : Hid (k = 0 ∨ (gn r (k - 1)).pos < (gn r k).pos) := .inl hk0
          have HK0 := Lib.hid hk0
          clear hk0
          cases hbn : ((gn r k).bef != -1)
          · have HB1 := Lib.hid (bef_one hbn)
            cases hln : (((gn r k).aft.length : Int) != 2)
            · have hl2 : (gn r k).aft.length = 2 := by simp at hln; omega
              obtain ⟨x, y, hxy⟩ : ∃ x y, (gn r k).aft = [x, y] := by
                match hh : (gn r k).aft, hl2 with
                | [x, y], _ => exact ⟨x, y, rfl⟩
              have HND := Lib.hid (nd_two hp HB1.out hxy)
              rw [hxy] at HT
              have hlen2 : (gn r k).aft.length = 2 := hl2
              clear hxy hl2
              rw [hlen2] at hW2 hc2 HC2 HW hl hln
              clear hlen2
              go_wp2_with fail
              rw [← HW.out]
              refine wp_region_cls (Below W.heap.size W) (by kernel_rfl) (by kernel_rfl) below_drawn ?_
              repeat (go_big_quiet_step ((go_at_call 38; rename_i x; first | exact cls_same (point_as _ _ _ hp) x.ok | exact cls_same (point_as _ _ _ hbp) x.ok)))
              refine wpQuiet_nil ?_
              intro w2 hw'
              have hb2 := cls_out hw'
              clear hw'
              have hbel2 : Below w.heap.size w w2 := hbel.trans ((hWb.trans (hb2.mono (by omega))).mono hbel.size)
              have hC2 := (hb2.cell (p := ⟨wr.heap.size, 2, none⟩) hWs).trans HC2.out
              clear hW0 hW1 hW2 hD0
              obtain ⟨b3, o3, rfl, hb3, hx0, hy0⟩ := ints_two HT.out
              have hxx : w2.cell? ⟨b3, o3, none⟩ = some (.int .i64 x) := ((hWb.trans (hb2.mono (by omega))).cell (p := ⟨b3, o3, none⟩) hb3).trans hx0
              have hyy : w2.cell? ⟨b3, o3 + 1, none⟩ = some (.int .i64 y) := ((hWb.trans (hb2.mono (by omega))).cell (p := ⟨b3, o3 + 1, none⟩) hb3).trans hy0
              clear hx0 hy0
              go_wp2
              go_loop [5] (fun i => ∃ m : Nat, m ≤ 2 ∧ i = .int .i64 m ∧ TwoOk x y m) (fun i => 2 - (intOf i).toNat)
              case atStart => exact ⟨0, by omega, rfl, two0 _ _⟩
              case round =>
                obtain ⟨m, hm2, rfl, h12⟩ := hrel
                by_cases hm0 : m = 0
                · subst hm0
                  cases hx : ptB x
                  · go_wp2_with (go_at_call 38; refine (point_as _ _ _ hx).mono ?_; rintro e w' ⟨rfl, rfl⟩)
                    go_ret
                    exact ⟨ret_bool (by rw [He.out, allTo_no hlt, Bool.false_and]; exact rok_no (HND.out.trans (by rw [hx]; simp))), hbel2⟩
                  · go_wp2_with (go_at_call 38; refine (point_as _ _ _ hx).mono ?_; rintro e w' ⟨rfl, rfl⟩)
                    go_round
                    case rel => exact ⟨1, by omega, by go_num, two1 hx⟩
                    case measure => simp [intOf]
                · by_cases hm1 : m = 1
                  · subst hm1
                    have hx := h12.1 (by omega)
                    cases hy : ptB y
                    · go_wp2_with (go_at_call 38; refine (point_as _ _ _ hy).mono ?_; rintro e w' ⟨rfl, rfl⟩)
                      go_ret
                      exact ⟨ret_bool (by rw [He.out, allTo_no hlt, Bool.false_and]; exact rok_no (HND.out.trans (by rw [hy]; simp))), hbel2⟩
                    · go_wp2_with (go_at_call 38; refine (point_as _ _ _ hy).mono ?_; rintro e w' ⟨rfl, rfl⟩)
                      go_round
                      case rel => exact ⟨2, by omega, by go_num, two2 hx hy⟩
                      case measure => simp [intOf]
                  · obtain rfl : m = 2 := by omega
                    have hx := h12.1 (by omega)
                    have hy := h12.2 (by omega)
                    go_wp2
                    go_roundw
                    case rel => exact ⟨k + 1, by omega, by go_num, allTo_succ HA.out (rok_yes (HND.out.trans (by rw [hx, hy]; rfl)) HO.out), hbel2⟩
                    case measure => simp [intOf]; omega
            · go_wp2_with fail
              rw [← HW.out]
              refine wp_region_cls (Below W.heap.size W) (by kernel_rfl) (by kernel_rfl) below_drawn ?_
              repeat (go_big_quiet_step ((go_at_call 38; rename_i x; first | exact cls_same (point_as _ _ _ hp) x.ok | exact cls_same (point_as _ _ _ hbp) x.ok)))
              refine wpQuiet_nil ?_
              intro w2 hw'
              have hb2 := cls_out hw'
              clear hw'
              have hbel2 : Below w.heap.size w w2 := hbel.trans ((hWb.trans (hb2.mono (by omega))).mono hbel.size)
              have hC2 := (hb2.cell (p := ⟨wr.heap.size, 2, none⟩) hWs).trans HC2.out
              clear hW0 hW1 hW2 hD0
              go_wp2
              go_ret
              exact ⟨ret_bool (by rw [He.out, allTo_no hlt, Bool.false_and]; exact rok_no (nd_len hln)), hbel2⟩
          · cases hbp : ptB (gn r k).bef
            · go_wp2_with fail
              rw [← HW.out]
              refine wp_region_cls (Below W.heap.size W) (by kernel_rfl) (by kernel_rfl) below_drawn ?_
              repeat (go_big_quiet_step ((go_at_call 38; rename_i x; first | exact cls_same (point_as _ _ _ hp) x.ok | exact cls_same (point_as _ _ _ hbp) x.ok)))
              refine wpQuiet_nil ?_
              intro w2 hw'
              have hb2 := cls_out hw'
              clear hw'
              have hbel2 : Below w.heap.size w w2 := hbel.trans ((hWb.trans (hb2.mono (by omega))).mono hbel.size)
              have hC2 := (hb2.cell (p := ⟨wr.heap.size, 2, none⟩) hWs).trans HC2.out
              clear hW0 hW1 hW2 hD0
              go_wp2
              go_ret
              exact ⟨ret_bool (by rw [He.out, allTo_no hlt, Bool.false_and]; exact rok_no (nd_bef hbn hbp)), hbel2⟩
            · have HB1 := Lib.hid (bef_pt hbp)
              cases hln : (((gn r k).aft.length : Int) != 2)
              · have hl2 : (gn r k).aft.length = 2 := by simp at hln; omega
                obtain ⟨x, y, hxy⟩ : ∃ x y, (gn r k).aft = [x, y] := by
                  match hh : (gn r k).aft, hl2 with
                  | [x, y], _ => exact ⟨x, y, rfl⟩
                have HND := Lib.hid (nd_two hp HB1.out hxy)
                rw [hxy] at HT
                have hlen2 : (gn r k).aft.length = 2 := hl2
                clear hxy hl2
                rw [hlen2] at hW2 hc2 HC2 HW hl hln
                clear hlen2
                go_wp2_with fail
                rw [← HW.out]
                refine wp_region_cls (Below W.heap.size W) (by kernel_rfl) (by kernel_rfl) below_drawn ?_
                repeat (go_big_quiet_step ((go_at_call 38; rename_i x; first | exact cls_same (point_as _ _ _ hp) x.ok | exact cls_same (point_as _ _ _ hbp) x.ok)))
                refine wpQuiet_nil ?_
                intro w2 hw'
                have hb2 := cls_out hw'
                clear hw'
                have hbel2 : Below w.heap.size w w2 := hbel.trans ((hWb.trans (hb2.mono (by omega))).mono hbel.size)
                have hC2 := (hb2.cell (p := ⟨wr.heap.size, 2, none⟩) hWs).trans HC2.out
                clear hW0 hW1 hW2 hD0
                obtain ⟨b3, o3, rfl, hb3, hx0, hy0⟩ := ints_two HT.out
                have hxx : w2.cell? ⟨b3, o3, none⟩ = some (.int .i64 x) := ((hWb.trans (hb2.mono (by omega))).cell (p := ⟨b3, o3, none⟩) hb3).trans hx0
                have hyy : w2.cell? ⟨b3, o3 + 1, none⟩ = some (.int .i64 y) := ((hWb.trans (hb2.mono (by omega))).cell (p := ⟨b3, o3 + 1, none⟩) hb3).trans hy0
                clear hx0 hy0
                go_wp2
                go_loop [5] (fun i => ∃ m : Nat, m ≤ 2 ∧ i = .int .i64 m ∧ TwoOk x y m) (fun i => 2 - (intOf i).toNat)
                case atStart => exact ⟨0, by omega, rfl, two0 _ _⟩
                case round =>
                  obtain ⟨m, hm2, rfl, h12⟩ := hrel
                  by_cases hm0 : m = 0
                  · subst hm0
                    cases hx : ptB x
                    · go_wp2_with (go_at_call 38; refine (point_as _ _ _ hx).mono ?_; rintro e w' ⟨rfl, rfl⟩)
                      go_ret
                      exact ⟨ret_bool (by rw [He.out, allTo_no hlt, Bool.false_and]; exact rok_no (HND.out.trans (by rw [hx]; simp))), hbel2⟩
                    · go_wp2_with (go_at_call 38; refine (point_as _ _ _ hx).mono ?_; rintro e w' ⟨rfl, rfl⟩)
                      go_round
                      case rel => exact ⟨1, by omega, by go_num, two1 hx⟩
                      case measure => simp [intOf]
                  · by_cases hm1 : m = 1
                    · subst hm1
                      have hx := h12.1 (by omega)
                      cases hy : ptB y
                      · go_wp2_with (go_at_call 38; refine (point_as _ _ _ hy).mono ?_; rintro e w' ⟨rfl, rfl⟩)
                        go_ret
                        exact ⟨ret_bool (by rw [He.out, allTo_no hlt, Bool.false_and]; exact rok_no (HND.out.trans (by rw [hy]; simp))), hbel2⟩
                      · go_wp2_with (go_at_call 38; refine (point_as _ _ _ hy).mono ?_; rintro e w' ⟨rfl, rfl⟩)
                        go_round
                        case rel => exact ⟨2, by omega, by go_num, two2 hx hy⟩
                        case measure => simp [intOf]
                    · obtain rfl : m = 2 := by omega
                      have hx := h12.1 (by omega)
                      have hy := h12.2 (by omega)
                      go_wp2
                      go_roundw
                      case rel => exact ⟨k + 1, by omega, by go_num, allTo_succ HA.out (rok_yes (HND.out.trans (by rw [hx, hy]; rfl)) HO.out), hbel2⟩
                      case measure => simp [intOf]; omega
              · go_wp2_with fail
                rw [← HW.out]
                refine wp_region_cls (Below W.heap.size W) (by kernel_rfl) (by kernel_rfl) below_drawn ?_
                repeat (go_big_quiet_step ((go_at_call 38; rename_i x; first | exact cls_same (point_as _ _ _ hp) x.ok | exact cls_same (point_as _ _ _ hbp) x.ok)))
                refine wpQuiet_nil ?_
                intro w2 hw'
                have hb2 := cls_out hw'
                clear hw'
                have hbel2 : Below w.heap.size w w2 := hbel.trans ((hWb.trans (hb2.mono (by omega))).mono hbel.size)
                have hC2 := (hb2.cell (p := ⟨wr.heap.size, 2, none⟩) hWs).trans HC2.out
                clear hW0 hW1 hW2 hD0
                go_wp2
                go_ret
                exact ⟨ret_bool (by rw [He.out, allTo_no hlt, Bool.false_and]; exact rok_no (nd_len hln)), hbel2⟩
        · have hk0 : 0 < k := by simpa using hkp
          have hki : (0 : Int) < (k : Int) := by omega
          have hki1 : (1 : Int) ≤ (k : Int) := by omega
          have hk1 : ((k : Int) - 1).toNat = k - 1 := by omega
          cases hle : decide ((gn r k).pos ≤ (gn r (k - 1)).pos)
          · have HO : Hid (k = 0 ∨ (gn r (k - 1)).pos < (gn r k).pos) := .inr (by simp at hle; omega)
            cases hbn : ((gn r k).bef != -1)
            · have HB1 := Lib.hid (bef_one hbn)
              cases hln : (((gn r k).aft.length : Int) != 2)
              · have hl2 : (gn r k).aft.length = 2 := by simp at hln; omega
                obtain ⟨x, y, hxy⟩ : ∃ x y, (gn r k).aft = [x, y] := by
                  match hh : (gn r k).aft, hl2 with
                  | [x, y], _ => exact ⟨x, y, rfl⟩
                have HND := Lib.hid (nd_two hp HB1.out hxy)
                rw [hxy] at HT
                have hlen2 : (gn r k).aft.length = 2 := hl2
                clear hxy hl2
                rw [hlen2] at hW2 hc2 HC2 HW hl hln
                clear hlen2
                go_wp2_with fail
                rw [← HW.out]
                refine wp_region_cls (Below W.heap.size W) (by kernel_rfl) (by kernel_rfl) below_drawn ?_
                repeat (go_big_quiet_step ((go_at_call 38; rename_i x; first | exact cls_same (point_as _ _ _ hp) x.ok | exact cls_same (point_as _ _ _ hbp) x.ok)))
                refine wpQuiet_nil ?_
                intro w2 hw'
                have hb2 := cls_out hw'
                clear hw'
                have hbel2 : Below w.heap.size w w2 := hbel.trans ((hWb.trans (hb2.mono (by omega))).mono hbel.size)
                have hC2 := (hb2.cell (p := ⟨wr.heap.size, 2, none⟩) hWs).trans HC2.out
                clear hW0 hW1 hW2 hD0
                obtain ⟨b3, o3, rfl, hb3, hx0, hy0⟩ := ints_two HT.out
                have hxx : w2.cell? ⟨b3, o3, none⟩ = some (.int .i64 x) := ((hWb.trans (hb2.mono (by omega))).cell (p := ⟨b3, o3, none⟩) hb3).trans hx0
                have hyy : w2.cell? ⟨b3, o3 + 1, none⟩ = some (.int .i64 y) := ((hWb.trans (hb2.mono (by omega))).cell (p := ⟨b3, o3 + 1, none⟩) hb3).trans hy0
                clear hx0 hy0
                go_wp2
                go_loop [5] (fun i => ∃ m : Nat, m ≤ 2 ∧ i = .int .i64 m ∧ TwoOk x y m) (fun i => 2 - (intOf i).toNat)
                case atStart => exact ⟨0, by omega, rfl, two0 _ _⟩
                case round =>
                  obtain ⟨m, hm2, rfl, h12⟩ := hrel
                  by_cases hm0 : m = 0
                  · subst hm0
                    cases hx : ptB x
                    · go_wp2_with (go_at_call 38; refine (point_as _ _ _ hx).mono ?_; rintro e w' ⟨rfl, rfl⟩)
                      go_ret
                      exact ⟨ret_bool (by rw [He.out, allTo_no hlt, Bool.false_and]; exact rok_no (HND.out.trans (by rw [hx]; simp))), hbel2⟩
                    · go_wp2_with (go_at_call 38; refine (point_as _ _ _ hx).mono ?_; rintro e w' ⟨rfl, rfl⟩)
                      go_round
                      case rel => exact ⟨1, by omega, by go_num, two1 hx⟩
                      case measure => simp [intOf]
                  · by_cases hm1 : m = 1
                    · subst hm1
                      have hx := h12.1 (by omega)
                      cases hy : ptB y
                      · go_wp2_with (go_at_call 38; refine (point_as _ _ _ hy).mono ?_; rintro e w' ⟨rfl, rfl⟩)
                        go_ret
                        exact ⟨ret_bool (by rw [He.out, allTo_no hlt, Bool.false_and]; exact rok_no (HND.out.trans (by rw [hy]; simp))), hbel2⟩
                      · go_wp2_with (go_at_call 38; refine (point_as _ _ _ hy).mono ?_; rintro e w' ⟨rfl, rfl⟩)
                        go_round
                        case rel => exact ⟨2, by omega, by go_num, two2 hx hy⟩
                        case measure => simp [intOf]
                    · obtain rfl : m = 2 := by omega
                      have hx := h12.1 (by omega)
                      have hy := h12.2 (by omega)
                      go_wp2
                      go_roundw
                      case rel => exact ⟨k + 1, by omega, by go_num, allTo_succ HA.out (rok_yes (HND.out.trans (by rw [hx, hy]; rfl)) HO.out), hbel2⟩
                      case measure => simp [intOf]; omega
              · go_wp2_with fail
                rw [← HW.out]
                refine wp_region_cls (Below W.heap.size W) (by kernel_rfl) (by kernel_rfl) below_drawn ?_
                repeat (go_big_quiet_step ((go_at_call 38; rename_i x; first | exact cls_same (point_as _ _ _ hp) x.ok | exact cls_same (point_as _ _ _ hbp) x.ok)))
                refine wpQuiet_nil ?_
                intro w2 hw'
                have hb2 := cls_out hw'
                clear hw'
                have hbel2 : Below w.heap.size w w2 := hbel.trans ((hWb.trans (hb2.mono (by omega))).mono hbel.size)
                have hC2 := (hb2.cell (p := ⟨wr.heap.size, 2, none⟩) hWs).trans HC2.out
                clear hW0 hW1 hW2 hD0
                go_wp2
                go_ret
                exact ⟨ret_bool (by rw [He.out, allTo_no hlt, Bool.false_and]; exact rok_no (nd_len hln)), hbel2⟩
            · cases hbp : ptB (gn r k).bef
              · go_wp2_with fail
                rw [← HW.out]
                refine wp_region_cls (Below W.heap.size W) (by kernel_rfl) (by kernel_rfl) below_drawn ?_
                repeat (go_big_quiet_step ((go_at_call 38; rename_i x; first | exact cls_same (point_as _ _ _ hp) x.ok | exact cls_same (point_as _ _ _ hbp) x.ok)))
                refine wpQuiet_nil ?_
                intro w2 hw'
                have hb2 := cls_out hw'
                clear hw'
                have hbel2 : Below w.heap.size w w2 := hbel.trans ((hWb.trans (hb2.mono (by omega))).mono hbel.size)
                have hC2 := (hb2.cell (p := ⟨wr.heap.size, 2, none⟩) hWs).trans HC2.out
                clear hW0 hW1 hW2 hD0
                go_wp2
                go_ret
                exact ⟨ret_bool (by rw [He.out, allTo_no hlt, Bool.false_and]; exact rok_no (nd_bef hbn hbp)), hbel2⟩
              · have HB1 := Lib.hid (bef_pt hbp)
                cases hln : (((gn r k).aft.length : Int) != 2)
                · have hl2 : (gn r k).aft.length = 2 := by simp at hln; omega
                  obtain ⟨x, y, hxy⟩ : ∃ x y, (gn r k).aft = [x, y] := by
                    match hh : (gn r k).aft, hl2 with
                    | [x, y], _ => exact ⟨x, y, rfl⟩
                  have HND := Lib.hid (nd_two hp HB1.out hxy)
                  rw [hxy] at HT
                  have hlen2 : (gn r k).aft.length = 2 := hl2
                  clear hxy hl2
                  rw [hlen2] at hW2 hc2 HC2 HW hl hln
                  clear hlen2
                  go_wp2_with fail
                  rw [← HW.out]
                  refine wp_region_cls (Below W.heap.size W) (by kernel_rfl) (by kernel_rfl) below_drawn ?_
                  repeat (go_big_quiet_step ((go_at_call 38; rename_i x; first | exact cls_same (point_as _ _ _ hp) x.ok | exact cls_same (point_as _ _ _ hbp) x.ok)))
                  refine wpQuiet_nil ?_
                  intro w2 hw'
                  have hb2 := cls_out hw'
                  clear hw'
                  have hbel2 : Below w.heap.size w w2 := hbel.trans ((hWb.trans (hb2.mono (by omega))).mono hbel.size)
                  have hC2 := (hb2.cell (p := ⟨wr.heap.size, 2, none⟩) hWs).trans HC2.out
                  clear hW0 hW1 hW2 hD0
                  obtain ⟨b3, o3, rfl, hb3, hx0, hy0⟩ := ints_two HT.out
                  have hxx : w2.cell? ⟨b3, o3, none⟩ = some (.int .i64 x) := ((hWb.trans (hb2.mono (by omega))).cell (p := ⟨b3, o3, none⟩) hb3).trans hx0
                  have hyy : w2.cell? ⟨b3, o3 + 1, none⟩ = some (.int .i64 y) := ((hWb.trans (hb2.mono (by omega))).cell (p := ⟨b3, o3 + 1, none⟩) hb3).trans hy0
                  clear hx0 hy0
                  go_wp2
                  go_loop [5] (fun i => ∃ m : Nat, m ≤ 2 ∧ i = .int .i64 m ∧ TwoOk x y m) (fun i => 2 - (intOf i).toNat)
                  case atStart => exact ⟨0, by omega, rfl, two0 _ _⟩
                  case round =>
                    obtain ⟨m, hm2, rfl, h12⟩ := hrel
                    by_cases hm0 : m = 0
                    · subst hm0
                      cases hx : ptB x
                      · go_wp2_with (go_at_call 38; refine (point_as _ _ _ hx).mono ?_; rintro e w' ⟨rfl, rfl⟩)
                        go_ret
                        exact ⟨ret_bool (by rw [He.out, allTo_no hlt, Bool.false_and]; exact rok_no (HND.out.trans (by rw [hx]; simp))), hbel2⟩
                      · go_wp2_with (go_at_call 38; refine (point_as _ _ _ hx).mono ?_; rintro e w' ⟨rfl, rfl⟩)
                        go_round
                        case rel => exact ⟨1, by omega, by go_num, two1 hx⟩
                        case measure => simp [intOf]
                    · by_cases hm1 : m = 1
                      · subst hm1
                        have hx := h12.1 (by omega)
                        cases hy : ptB y
                        · go_wp2_with (go_at_call 38; refine (point_as _ _ _ hy).mono ?_; rintro e w' ⟨rfl, rfl⟩)
                          go_ret
                          exact ⟨ret_bool (by rw [He.out, allTo_no hlt, Bool.false_and]; exact rok_no (HND.out.trans (by rw [hy]; simp))), hbel2⟩
                        · go_wp2_with (go_at_call 38; refine (point_as _ _ _ hy).mono ?_; rintro e w' ⟨rfl, rfl⟩)
                          go_round
                          case rel => exact ⟨2, by omega, by go_num, two2 hx hy⟩
                          case measure => simp [intOf]
                      · obtain rfl : m = 2 := by omega
                        have hx := h12.1 (by omega)
                        have hy := h12.2 (by omega)
                        go_wp2
                        go_roundw
                        case rel => exact ⟨k + 1, by omega, by go_num, allTo_succ HA.out (rok_yes (HND.out.trans (by rw [hx, hy]; rfl)) HO.out), hbel2⟩
                        case measure => simp [intOf]; omega
                · go_wp2_with fail
                  rw [← HW.out]
                  refine wp_region_cls (Below W.heap.size W) (by kernel_rfl) (by kernel_rfl) below_drawn ?_
                  repeat (go_big_quiet_step ((go_at_call 38; rename_i x; first | exact cls_same (point_as _ _ _ hp) x.ok | exact cls_same (point_as _ _ _ hbp) x.ok)))
                  refine wpQuiet_nil ?_
                  intro w2 hw'
                  have hb2 := cls_out hw'
                  clear hw'
                  have hbel2 : Below w.heap.size w w2 := hbel.trans ((hWb.trans (hb2.mono (by omega))).mono hbel.size)
                  have hC2 := (hb2.cell (p := ⟨wr.heap.size, 2, none⟩) hWs).trans HC2.out
                  clear hW0 hW1 hW2 hD0
                  go_wp2
                  go_ret
                  exact ⟨ret_bool (by rw [He.out, allTo_no hlt, Bool.false_and]; exact rok_no (nd_len hln)), hbel2⟩
          · have hle' : (gn r k).pos ≤ (gn r (k - 1)).pos := by simpa using hle
            go_wp2_with fail
            rw [← HW.out]
            refine wp_region_cls (Below W.heap.size W) (by kernel_rfl) (by kernel_rfl) below_drawn ?_
            repeat (go_big_quiet_step ((go_at_call 38; rename_i x; first | exact cls_same (point_as _ _ _ hp) x.ok | exact cls_same (point_as _ _ _ hbp) x.ok)))
            refine wpQuiet_nil ?_
            intro w2 hw'
            have hb2 := cls_out hw'
            clear hw'
            have hbel2 : Below w.heap.size w w2 := hbel.trans ((hWb.trans (hb2.mono (by omega))).mono hbel.size)
            have hC2 := (hb2.cell (p := ⟨wr.heap.size, 2, none⟩) hWs).trans HC2.out
            clear hW0 hW1 hW2 hD0
            go_wp2
            go_ret
            exact ⟨ret_bool (by rw [He.out, allTo_no hlt, Bool.false_and]; exact rok_le (by omega) hle'), hbel2⟩
    · have HK : Hid (k = len) := by show k = len; omega
      go_wp2
      go_ret
      exact ⟨ret_bool (by have h1 := HA.out; rw [HK.out] at h1; rw [He.out, h1, Bool.true_and, decide_eq_decide]; omega), hbel⟩

end

/- The positions of a ring: RingIds and its model. -/

section
open Go.RowKit
set_option linter.unusedVariables false

attribute [local go_sem ↓] Go.wp_at_zero Go.wp_at_succ

theorem ids_take {r : List Nd} {k : Nat} (h : k < r.length) : (idsOf r).take (k + 1) = (idsOf r).take k ++ [(gn r k).pos] := by
  rw [List.take_succ_eq_append_getElem (by simpa [idsOf] using h), gn_get h]; simp [idsOf]
theorem ids_take_len {r : List Nd} {k : Nat} (h : k ≤ r.length) : ((idsOf r).take k).length = k := by simp [idsOf]; omega


def idsV (r : List Nd) : List Int := if rvB r then idsOf r else []
theorem rv_as (v : Bool) (a : Option Addr) (len cap : Nat) (r : List Nd) (w : World) (h : RingAt w a r) (hz : r.length = len) (hm : len ≤ maxLen) (hv : rvB r = v) :
    Calls Try.prog 10 #[.slice a len cap] w fun e w' => e = .returned (.bool v) ∧ Below w.heap.size w w' := by subst hv; exact rv_any a len cap r w h hz hm
theorem srv_as (v : Bool) (a : Option Addr) (len cap : Nat) (r : List Nd) (w : World) (h : RingAt w a r) (hz : r.length = len) (hm : len ≤ maxLen) (hv : rvB r = v) :
    Calls Try.prog 11 #[.slice a len cap] w fun e w' => e = .returned (.bool v) ∧ Below w.heap.size w w' := by subst hv; exact srv_any a len cap r w h hz hm



end

/- Finding a node, skipping, principals and safety: what the model computes. -/

section
open Go.RowKit
set_option linter.unusedVariables false

attribute [local go_sem ↓] Go.wp_at_zero Go.wp_at_succ

/-- the index of a node, or -1 -/
def fndI (r : List Nd) (x : Int) : Int := if r.findIdx (fun n => decide (n.pos = x)) < r.length then ((r.findIdx (fun n => decide (n.pos = x)) : Nat) : Int) else -1
def NotAt (r : List Nd) (x : Int) (k : Nat) : Prop := ∀ i, i < k → (gn r i).pos ≠ x
theorem notAt_zero (r : List Nd) (x : Int) : NotAt r x 0 := fun i h => absurd h (by omega)
theorem notAt_succ {r : List Nd} {x : Int} {k : Nat} (h : NotAt r x k) (hk : ¬ (gn r k).pos = x) : NotAt r x (k + 1) := by
  intro i hi
  rcases Nat.lt_or_ge i k with h' | h'
  · exact h i h'
  · have : i = k := by omega
    subst this; exact hk
theorem fnd_at {r : List Nd} {x : Int} {k : Nat} (hk : k < r.length) (hn : NotAt r x k) (he : (gn r k).pos = x) : fndI r x = k := by
  have : r.findIdx (fun n => decide (n.pos = x)) = k := by
    rw [List.findIdx_eq hk]
    refine ⟨by rw [gn_get hk] at he; simpa using he, fun j hj => ?_⟩
    have := hn j hj
    rw [gn_get (by omega)] at this
    simpa using this
  rw [fndI, this, if_pos hk]
theorem fnd_none {r : List Nd} {x : Int} (hn : NotAt r x r.length) : fndI r x = -1 := by
  have : r.findIdx (fun n => decide (n.pos = x)) = r.length := by
    rw [List.findIdx_eq_length]
    intro n hn'
    obtain ⟨i, hi, rfl⟩ := List.getElem_of_mem hn'
    have := hn i hi
    rw [gn_get hi] at this
    simpa using this
  rw [fndI, this, if_neg (by omega)]
theorem fnd_live {r : List Nd} {x : Int} (h : liveB r x = true) : ∃ k : Nat, k < r.length ∧ fndI r x = k ∧ (gn r k).pos = x := by
  obtain ⟨i, hi, he⟩ := (live_iff r x).1 h
  have hlt : r.findIdx (fun n => decide (n.pos = x)) < r.length := List.findIdx_lt_length_of_exists ⟨r[i], List.getElem_mem hi, by rw [gn_get hi] at he; simpa using he⟩
  refine ⟨_, hlt, by rw [fndI, if_pos hlt], ?_⟩
  have := List.findIdx_getElem (w := hlt)
  rw [gn_get hlt]
  simpa using this
theorem fnd_dead {r : List Nd} {x : Int} (h : liveB r x = false) : fndI r x = -1 := fnd_none ((live_no r x).1 h)
theorem fnd_ge (r : List Nd) (x : Int) : decide (0 ≤ fndI r x) = liveB r x := by
  cases h : liveB r x
  · rw [fnd_dead h]; rfl
  · obtain ⟨k, _, he, _⟩ := fnd_live h
    rw [he]; simp

set_option maxHeartbeats 1000000 in
theorem sfind_any (a : Option Addr) (len cap : Nat) (r : List Nd) (x : Int) (w : World) (h : RingAt w a r) (hz : r.length = len) (hm : len ≤ maxLen) :
    Calls Try.prog 63 #[.slice a len cap, .int .i64 x] w fun e w' => e = .returned (.int .i64 (fndI r x)) ∧ w = w' := by
  unfold maxLen at hm
  have HI := Lib.hid h
  have HZ := Lib.hid hz
  clear h hz
  go_enter Try.func63, Try.ntmps63
  go_wp2
  go_loop [5] (fun i => ∃ k : Nat, k ≤ len ∧ i = .int .i64 k ∧ NotAt r x k) (fun i => len - (intOf i).toNat)
  case atStart => exact ⟨0, by omega, rfl, notAt_zero _ _⟩
  case round =>
    obtain ⟨k, hk, rfl, hn⟩ := hrel
    by_cases hlt : k < len
    · obtain ⟨b, off, rfl, hb0, hnodes⟩ := HI.out.at_ (by rw [HZ.out]; exact hlt)
      obtain ⟨sa, sc, hc0, _, _, _, _, _⟩ := node_open (hnodes k (by rw [HZ.out]; exact hlt))
      clear hnodes
      cases he : ((gn r k).pos == x)
      · have he' : ¬ (gn r k).pos = x := by simpa using he
        have HE := Lib.hid he'
        clear he'
        go_wp2
        go_round
        case rel => exact ⟨k + 1, by omega, by go_num, notAt_succ hn HE.out⟩
        case measure => simp [intOf]; omega
      · have he' : (gn r k).pos = x := by simpa using he
        have HE := Lib.hid he'
        clear he'
        go_wp2
        go_ret
        exact ⟨ret_int (fnd_at (by rw [HZ.out]; exact hlt) hn HE.out).symm, rfl⟩
    · go_wp2
      go_ret
      exact ⟨ret_int (fnd_none (by rw [HZ.out, show len = k by omega]; exact hn)).symm, rfl⟩

def SkAt (p q x y : Int) (l i : Value) : Prop := (l = .int .i64 p ∧ i = .int .i64 0) ∨ (l = .int .i64 x ∧ i = .int .i64 1 ∧ Hid (btwI p q x = false)) ∨ (l = .int .i64 y ∧ i = .int .i64 2 ∧ Hid (btwI p q x = false) ∧ Hid (btwI x q y = false))

set_option maxHeartbeats 1000000 in
theorem sskip_any (p bf x y : Int) (sa : Option Addr) (sc : Nat) (q : Int) (w : World) (h : IntsAt w sa [x, y]) (hl : 2 ≤ sc) (hm : sc ≤ maxLen) :
    Calls Try.prog 88 #[.agg #[.int .i64 p, .int .i64 bf, .slice sa 2 sc], .int .i64 q] w fun e w' => e = .returned (.bool (btwI p q x || btwI x q y)) ∧ Below w.heap.size w w' := by
  unfold maxLen at hm
  obtain ⟨b, off, rfl, hb, hc0, hc1⟩ := ints_two h
  clear h
  have hB : ∀ o, Below w.heap.size w (w.alloc o) := fun o => (Below.refl _ _).alloc (Nat.le_refl _) _
  have HB := Lib.hid hB
  clear hB
  go_enter Try.func88, Try.ntmps88
  go_wp2
  go_loop [5, 6] (fun l i => SkAt p q x y l i) (fun _ i => 2 - (intOf i).toNat)
  case atStart => exact .inl ⟨rfl, rfl⟩
  case round =>
    rcases hrel with ⟨rfl, rfl⟩ | ⟨rfl, rfl, h1⟩ | ⟨rfl, rfl, h1, h2⟩
    · cases hs : btwI p q x
      · have HS := Lib.hid hs
        go_wp2_with (go_at_call 64; refine (sbetw_any _ _ _ _).mono ?_; rintro e w' ⟨rfl, rfl⟩)
        go_round
        case rel => exact .inr (.inl ⟨rfl, rfl, HS⟩)
        case measure => simp [intOf]
      · go_wp2_with (go_at_call 64; refine (sbetw_any _ _ _ _).mono ?_; rintro e w' ⟨rfl, rfl⟩)
        go_ret
        exact ⟨ret_bool (by simp [hs]), HB.out _⟩
    · cases hs : btwI x q y
      · have HS := Lib.hid hs
        go_wp2_with (go_at_call 64; refine (sbetw_any _ _ _ _).mono ?_; rintro e w' ⟨rfl, rfl⟩)
        go_round
        case rel => exact .inr (.inr ⟨rfl, rfl, h1, HS⟩)
        case measure => simp [intOf]
      · go_wp2_with (go_at_call 64; refine (sbetw_any _ _ _ _).mono ?_; rintro e w' ⟨rfl, rfl⟩)
        go_ret
        exact ⟨ret_bool (by simp [hs]), HB.out _⟩
    · go_wp2
      go_ret
      exact ⟨ret_bool (by rw [h1.out, h2.out]; rfl), HB.out _⟩

theorem aft_two {n : Nd} (h : ndB n = true) : ∃ x y, n.aft = [x, y] ∧ (0 ≤ x ∧ x < 64) ∧ 0 ≤ y ∧ y < 64 := ((ndB_iff n).1 h).2.2
theorem sskip_as (v : Bool) (n : Nd) (sa : Option Addr) (sc : Nat) (q : Int) (w : World) (hn : ndB n = true) (h : IntsAt w sa n.aft) (hl : n.aft.length ≤ sc) (hm : sc ≤ maxLen) (hv : skB n q = v) :
    Calls Try.prog 88 #[.agg #[.int .i64 n.pos, .int .i64 n.bef, .slice sa n.aft.length sc], .int .i64 q] w fun e w' => e = .returned (.bool v) ∧ Below w.heap.size w w' := by
  subst hv
  obtain ⟨x, y, ha, _⟩ := aft_two hn
  have hl2 : n.aft.length = 2 := by rw [ha]; rfl
  have hs : skB n q = (btwI n.pos q x || btwI x q y) := by rw [skB, ha]; rfl
  rw [hl2, hs]
  exact sskip_any n.pos n.bef x y sa sc q w (by rw [← ha]; exact h) (by omega) hm

set_option maxHeartbeats 2000000 in
/-- the principals so far -/
theorem spr_any (a : Option Addr) (len cap : Nat) (r : List Nd) (w : World) (h : RingAt w a r) (hz : r.length = len) (hv : rvB r = true) :
    Calls Try.prog 67 #[.slice a len cap] w (NewInts (prL r) w) := by
  have hm := rv_len hv
  rw [hz] at hm
  have HI := Lib.hid h
  have HZ := Lib.hid hz
  have HV := Lib.hid hv
  clear h hz hv
  go_enter Try.func67, Try.ntmps67
  go_wp2
  go_loopw [3, 4] (fun o i wr => ∃ k : Nat, k ≤ len ∧ i = .int .i64 k ∧ IntsSoFar (prTo r k) w o wr) (fun _ i _ => len - (intOf i).toNat)
  case atStart => exact ⟨0, by omega, rfl, sofar_new w _ rfl⟩
  case round =>
    obtain ⟨k, hk, rfl, g, gc, rfl, hown, hbel⟩ := hrel
    obtain ⟨wo, rfl⟩ : ∃ x, x = wr := ⟨_, rfl⟩
    by_cases hlt : k < len
    · have hpl := prTo_len r k
      go_wp2
      go_loopw [5, 6] (fun sk i wi => ∃ m : Nat, m ≤ len ∧ i = .int .i64 m ∧ sk = .bool (anyTo (fun j => skB (gn r j) (gn r k).pos) m) ∧ Below wo.heap.size wo wi) (fun _ i _ => len - (intOf i).toNat)
      case atStart => exact ⟨0, by omega, rfl, rfl, Below.refl _ _⟩
      case round =>
        obtain ⟨m, hm', rfl, rfl, hbi⟩ := hrel
        obtain ⟨wi, rfl⟩ : ∃ x, x = wr := ⟨_, rfl⟩
        by_cases hmt : m < len
        · obtain ⟨b, off, rfl, hb0, hnodes⟩ := ((HI.out.keepB hbel (Nat.le_refl _)).keepB hbi (Nat.le_refl _)).at_ (by rw [HZ.out]; exact hlt)
          obtain ⟨sa, sc, hc0, hc1, hc2, hl, hmx, hints⟩ := node_open (hnodes m (by rw [HZ.out]; exact hmt))
          obtain ⟨sa', sc', hd0, hd1, hd2, _, _, _⟩ := node_open (hnodes k (by rw [HZ.out]; exact hlt))
          have hnd := rv_nd HV.out (k := m) (by rw [HZ.out]; exact hmt)
          have HND := Lib.hid hnd
          clear hnd hnodes
          have HX := Lib.hid hmx
          have HT := Lib.hid hints
          clear hmx hints
          have e0 : ∀ x : Cls (Below wi.heap.size wi), x.to.cell? ⟨b, off + m * 3, none⟩ = some (.int .i64 (gn r m).pos) := fun x => (x.ok.cell (p := ⟨b, off + m * 3, none⟩) hb0).trans hc0
          have e1 : ∀ x : Cls (Below wi.heap.size wi), x.to.cell? ⟨b, off + m * 3 + 1, none⟩ = some (.int .i64 (gn r m).bef) := fun x => (x.ok.cell (p := ⟨b, off + m * 3 + 1, none⟩) hb0).trans hc1
          have e2 : ∀ x : Cls (Below wi.heap.size wi), x.to.cell? ⟨b, off + m * 3 + 2, none⟩ = some (.slice sa (gn r m).aft.length sc) := fun x => (x.ok.cell (p := ⟨b, off + m * 3 + 2, none⟩) hb0).trans hc2
          have e3 : ∀ x : Cls (Below wi.heap.size wi), x.to.cell? ⟨b, off + k * 3, none⟩ = some (.int .i64 (gn r k).pos) := fun x => (x.ok.cell (p := ⟨b, off + k * 3, none⟩) hb0).trans hd0
          have i0 : (0 : Int) ≤ (m : Int) := by omega
          have i1 : (m : Int) < (len : Int) := by omega
          have i2 : (0 : Int) ≤ (k : Int) := by omega
          have i3 : (k : Int) < (len : Int) := by omega
          cases hsk : anyTo (fun j => skB (gn r j) (gn r k).pos) m
          · cases hs1 : skB (gn r m) (gn r k).pos
            all_goals
              have HS : Hid (anyTo (fun j => skB (gn r j) (gn r k).pos) (m + 1) = skB (gn r m) (gn r k).pos) := by show anyTo _ (m + 1) = _; rw [anyTo, hsk, Bool.false_or]
              have HSK := Lib.hid hsk
              have HS1 := Lib.hid hs1
              clear hs1 hsk
              go_wp2
              refine wp_region_cls (Below wi.heap.size wi) (by kernel_rfl) (by kernel_rfl) below_drawn ?_
              repeat (go_big_quiet_step ((go_at_call 88; rename_i x; exact cls_below (sskip_as _ (gn r m) sa sc _ _ HND.out (HT.out.keepB x.ok (Nat.le_refl _)) hl HX.out HS1.out) x.ok (Nat.le_refl _))))
              refine wpQuiet_nil ?_
              intro w2 hw'
              have hb2 := cls_out hw'
              clear hw' e0 e1 e2 e3
              go_wp2
              go_roundw
              case rel => exact ⟨m + 1, by omega, by go_num, by rw [HS.out, HS1.out], hbi.trans (hb2.mono hbi.size)⟩
              case measure => simp [intOf]; omega
          · have HS : Hid (anyTo (fun j => skB (gn r j) (gn r k).pos) (m + 1) = true) := by show anyTo _ (m + 1) = _; rw [anyTo, hsk, Bool.true_or]
            have HSK := Lib.hid hsk
            clear hsk
            go_wp2
            refine wp_region_cls (Below wi.heap.size wi) (by kernel_rfl) (by kernel_rfl) below_drawn ?_
            repeat (go_big_quiet_step (fail))
            refine wpQuiet_nil ?_
            intro w2 hw'
            have hb2 := cls_out hw'
            clear hw' e0 e1 e2 e3
            go_wp2
            go_roundw
            case rel => exact ⟨m + 1, by omega, by go_num, by rw [HS.out], hbi.trans (hb2.mono hbi.size)⟩
            case measure => simp [intOf]; omega
        · have HM : Hid (anyTo (fun j => skB (gn r j) (gn r k).pos) m = skdB r (gn r k).pos) := by show _ = _; rw [skdB, HZ.out, show m = len by omega]
          have hbel2 : Below w.heap.size w wi := hbel.trans (hbi.mono hbel.size)
          have hown2 : OwnI wi w.heap.size (some ⟨g, 0, none⟩) gc (prTo r k) := hown.keepB hbi (Nat.le_refl _)
          cases hsd : skdB r (gn r k).pos
          · have hmm : anyTo (fun j => skB (gn r j) (gn r k).pos) m = false := HM.out.trans hsd
            rw [hmm]
            have HP : Hid (prTo r (k + 1) = prTo r k ++ [(gn r k).pos]) := by show prTo r (k + 1) = _; rw [prTo, hsd]; rfl
            clear hmm hsd
            obtain ⟨b, off, rfl, hb0, hnodes⟩ := ((HI.out.keepB hbel (Nat.le_refl _)).keepB hbi (Nat.le_refl _)).at_ (by rw [HZ.out]; exact hlt)
            obtain ⟨sa, sc, hc0, hc1, hc2, hl, hmx, hints⟩ := node_open (hnodes k (by rw [HZ.out]; exact hlt))
            clear hnodes hints hmx
            have hgl := hown2.lt
            have HO := Lib.hid hown2
            clear hown2 hown
            unfold OwnI at HO
            go_wp2_with (at_builtin; refine wl_app _ (by rfl) _ _ (by rfl) w.heap.size g (prTo r k).length gc (vals (prTo r k)) (by rfl) (HO.out.alloc _) ⟨wi.heap.size, 0, none⟩ 1 1 [.int .i64 (gn r k).pos] (by rfl) rfl (src_one (heap_alloc_new wi _)) (by simp [Value.oneCell']) ((prTo r k).length + 1) (vals (prTo r k ++ [(gn r k).pos])) rfl (by simp [vals]) (by omega) (by simp; omega) ?_; intro g5 cap5 w5 hown5 hg5 hat5)
            go_roundw
            case rel => exact ⟨k + 1, by omega, by go_num, by rw [HP.out]; exact sofar_next hbel2 ((Below.refl _ _).alloc (Nat.le_refl _) _) hg5 hgl.1 hown5⟩
            case measure => simp [intOf]; omega
          · have hmm : anyTo (fun j => skB (gn r j) (gn r k).pos) m = true := HM.out.trans hsd
            rw [hmm]
            have HP : Hid (prTo r (k + 1) = prTo r k) := by show prTo r (k + 1) = _; rw [prTo, hsd]; rfl
            clear hmm hsd
            have HO := Lib.hid hown2
            clear hown2 hown
            go_wp2
            go_roundw
            case rel => exact ⟨k + 1, by omega, by go_num, by rw [HP.out]; exact ⟨g, gc, rfl, HO.out, hbel2⟩⟩
            case measure => simp [intOf]; omega
    · have HF : Hid (prTo r k = prL r) := by show _ = _; rw [prL, HZ.out, show k = len by omega]
      go_wp2
      go_ret
      rw [← HF.out]
      exact new_of_sofar ⟨g, gc, rfl, hown, hbel⟩

end

/- Principals and safety, as the model computes them. -/

section
open Go.RowKit
set_option linter.unusedVariables false


def prV (r : List Nd) : List Int := if rvB r then prL r else []


def LvAt (r : List Nd) (x y : Int) (l i : Value) : Prop := (l = .bool false ∧ i = .int .i64 0) ∨ (l = .bool (liveB r x) ∧ i = .int .i64 1) ∨ (l = .bool (liveB r x || liveB r y) ∧ i = .int .i64 2)
theorem fnd_pos {r : List Nd} {x : Int} {v : Bool} (h : liveB r x = v) : decide (0 ≤ fndI r x) = v := by rw [fnd_ge, h]

set_option maxHeartbeats 2000000 in
theorem ssf_any (a : Option Addr) (len cap : Nat) (r : List Nd) (w : World) (h : RingAt w a r) (hz : r.length = len) (hv : rvB r = true) :
    Calls Try.prog 47 #[.slice a len cap] w fun e w' => e = .returned (.bool (sfB r)) ∧ Below w.heap.size w w' := by
  have hm := rv_len hv
  rw [hz] at hm
  have HI := Lib.hid h
  have HZ := Lib.hid hz
  have HV := Lib.hid hv
  have HM : Hid (len ≤ maxLen) := by show len ≤ maxLen; unfold maxLen; omega
  have He : Hid (sfB r = (allTo (fun k => lsB r (gn r k)) len && decide (3 ≤ (prL r).length))) := by show sfB r = _; rw [sfB, hz]
  clear h hz hv
  go_enter Try.func47, Try.ntmps47
  go_wp2
  go_loop [3] (fun i => ∃ k : Nat, k ≤ len ∧ i = .int .i64 k ∧ allTo (fun k => lsB r (gn r k)) k = true) (fun i => len - (intOf i).toNat)
  case atStart => exact ⟨0, by omega, rfl, rfl⟩
  case round =>
    obtain ⟨k, hk, rfl, hall⟩ := hrel
    have HA := Lib.hid hall
    clear hall
    by_cases hlt : k < len
    · obtain ⟨b, off, rfl, hb0, hnodes⟩ := HI.out.at_ (by rw [HZ.out]; exact hlt)
      obtain ⟨sa, sc, hc0, hc1, hc2, hl, hmx, hints⟩ := node_open (hnodes k (by rw [HZ.out]; exact hlt))
      clear hnodes
      unfold maxLen at hmx
      obtain ⟨x, y, ha, _, _⟩ := aft_two (rv_nd HV.out (k := k) (by rw [HZ.out]; exact hlt))
      have HLS : Hid (lsB r (gn r k) = (liveB r x || liveB r y)) := by show lsB r (gn r k) = _; rw [lsB, ha]; rfl
      have hl2 : (gn r k).aft.length = 2 := by rw [ha]; rfl
      rw [ha] at hints
      rw [hl2] at hc2 hl
      clear ha hl2
      obtain ⟨b3, o3, rfl, hb3, hx0, hy0⟩ := ints_two hints
      clear hints
      go_wp2
      go_loop [4, 5] (fun l i => LvAt r x y l i) (fun _ i => 2 - (intOf i).toNat)
      case atStart => exact .inl ⟨rfl, rfl⟩
      case round =>
        rcases hrel with ⟨rfl, rfl⟩ | ⟨rfl, rfl⟩ | ⟨rfl, rfl⟩
        · cases hx : liveB r x
          all_goals
            have hfx := fnd_pos hx
            have HX := Lib.hid hx
            clear hx
            go_wp2_with (go_at_call 63; refine (sfind_any _ _ _ r _ _ HI.out HZ.out HM.out).mono ?_; rintro e w' ⟨rfl, rfl⟩)
            go_round
            case rel => exact .inr (.inl ⟨by rw [HX.out], rfl⟩)
            case measure => simp [intOf]
        · cases hx : liveB r x
          · cases hy : liveB r y
            all_goals
              have hfx := fnd_pos hy
              have HX := Lib.hid hx
              have HY := Lib.hid hy
              clear hy hx
              go_wp2_with (go_at_call 63; refine (sfind_any _ _ _ r _ _ HI.out HZ.out HM.out).mono ?_; rintro e w' ⟨rfl, rfl⟩)
              go_round
              case rel => exact .inr (.inr ⟨by rw [HX.out, HY.out]; rfl, rfl⟩)
              case measure => simp [intOf]
          · have HX := Lib.hid hx
            clear hx
            go_wp2
            go_round
            case rel => exact .inr (.inr ⟨by rw [HX.out]; rfl, rfl⟩)
            case measure => simp [intOf]
        · cases hxy : (liveB r x || liveB r y)
          · have HXY := Lib.hid hxy
            clear hxy
            go_wp2
            go_ret
            exact ⟨ret_bool (by rw [He.out, allTo_no hlt, Bool.false_and]; rw [HLS.out, HXY.out]), Below.refl _ _⟩
          · have HXY := Lib.hid hxy
            clear hxy
            go_wp2
            go_round
            case rel => exact ⟨k + 1, by omega, by go_num, allTo_succ HA.out (by rw [HLS.out, HXY.out])⟩
            case measure => simp [intOf]; omega
    · have HK : Hid (k = len) := by show k = len; omega
      go_wp2_with fail
      refine (spr_any _ _ _ r w HI.out HZ.out HV.out).mono ?_
      rintro e w2 ⟨g, gc, rfl, ho, hb2⟩
      go_wp2
      go_ret
      exact ⟨ret_bool (by have h1 := HA.out; rw [HK.out] at h1; rw [He.out, h1, Bool.true_and, decide_eq_decide]; omega), hb2⟩

set_option maxHeartbeats 1000000 in
theorem ssafe_any (a : Option Addr) (len cap : Nat) (r : List Nd) (w : World) (h : RingAt w a r) (hz : r.length = len) (hm : len ≤ maxLen) :
    Calls Try.prog 22 #[.slice a len cap] w fun e w' => e = .returned (.bool (safeB r)) ∧ Below w.heap.size w w' := by
  have HI := Lib.hid h
  have HZ := Lib.hid hz
  have HM := Lib.hid hm
  clear h hz hm
  cases hv : rvB r
  · have He : Hid (safeB r = false) := by show safeB r = false; simp [safeB, hv]
    have HV := Lib.hid hv
    clear hv
    go_enter Try.func22, Try.ntmps22
    go_wp2_with fail
    refine (srv_as false a len cap r w HI.out HZ.out HM.out HV.out).mono ?_
    rintro e w1 ⟨rfl, hb1⟩
    go_wp2
    go_ret
    exact ⟨ret_bool He.out.symm, hb1⟩
  · have He : Hid (safeB r = sfB r) := by show safeB r = _; simp [safeB, hv]
    have HV := Lib.hid hv
    clear hv
    go_enter Try.func22, Try.ntmps22
    go_wp2_with fail
    refine (srv_as true a len cap r w HI.out HZ.out HM.out HV.out).mono ?_
    rintro e w1 ⟨rfl, hb1⟩
    go_wp2_with fail
    refine (ssf_any a len cap r w1 (HI.out.keepB hb1 (Nat.le_refl _)) HZ.out HV.out).mono ?_
    rintro e w2 ⟨rfl, hb2⟩
    go_wp2
    go_ret
    exact ⟨ret_bool He.out.symm, hb1.trans (hb2.mono hb1.size)⟩

end

end Go.Proofs.Ytcbbdhmloniolaa
