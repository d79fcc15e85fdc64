/- Rings as lists of nodes: what the functions of chapter 3 compute. -/
import Derived.Test.YtfhjmfcdogpbeaaNodesMath
namespace Go.Proofs.Ytfhjmfcdogpbeaa
set_option linter.unusedVariables false

/-- a live node: its position, its predecessor or -1, its successors -/
structure Nd where
  pos : Int
  bef : Int
  aft : List Int

def gn (r : List Nd) (i : Nat) : Nd := r.getD i ⟨0, 0, []⟩
theorem gn_get {r : List Nd} {i : Nat} (h : i < r.length) : gn r i = r[i] := by simp [gn, List.getElem?_eq_getElem h]
theorem gn_cons_zero (n : Nd) (r : List Nd) : gn (n :: r) 0 = n := by simp [gn]
theorem gn_cons_succ (n : Nd) (r : List Nd) (i : Nat) : gn (n :: r) (i + 1) = gn r i := by simp [gn]

/-- the first k hold -/
def allTo (p : Nat → Bool) : Nat → Bool
  | 0 => true
  | k + 1 => allTo p k && p k
/-- one of the first k holds -/
def anyTo (p : Nat → Bool) : Nat → Bool
  | 0 => false
  | k + 1 => anyTo p k || p k
theorem allTo_iff (p : Nat → Bool) (n : Nat) : allTo p n = true ↔ ∀ i, i < n → p i = true := by
  induction n with
  | zero => simp [allTo]
  | succ n ih =>
    simp only [allTo, Bool.and_eq_true, ih]
    constructor
    · rintro ⟨h1, h2⟩ i hi
      rcases Nat.lt_or_ge i n with h | h
      · exact h1 i h
      · have : i = n := by omega
        subst this; exact h2
    · intro h; exact ⟨fun i hi => h i (by omega), h n (by omega)⟩
theorem anyTo_iff (p : Nat → Bool) (n : Nat) : anyTo p n = true ↔ ∃ i, i < n ∧ p i = true := by
  induction n with
  | zero => simp [anyTo]
  | succ n ih =>
    simp only [anyTo, Bool.or_eq_true, ih]
    constructor
    · rintro (⟨i, hi, h⟩ | h)
      · exact ⟨i, by omega, h⟩
      · exact ⟨n, by omega, h⟩
    · rintro ⟨i, hi, h⟩
      rcases Nat.lt_or_ge i n with h' | h'
      · exact .inl ⟨i, h', h⟩
      · have : i = n := by omega
        subst this; exact .inr h
theorem allTo_succ {p : Nat → Bool} {k : Nat} (h : allTo p k = true) (hk : p k = true) : allTo p (k + 1) = true := by simp [allTo, h, hk]
theorem allTo_no {p : Nat → Bool} {k n : Nat} (h : k < n) (hk : p k = false) : allTo p n = false := by
  cases hn : allTo p n
  · rfl
  · rw [(allTo_iff p n).1 hn k h] at hk; cases hk
theorem anyTo_no (p : Nat → Bool) (n : Nat) : anyTo p n = false ↔ ∀ i, i < n → p i = false := by
  rw [← Bool.not_eq_true, anyTo_iff]
  constructor
  · intro h i hi
    cases hp : p i
    · rfl
    · exact absurd ⟨i, hi, hp⟩ h
  · rintro h ⟨i, hi, hp⟩; rw [h i hi] at hp; cases hp
theorem anyTo_yes {p : Nat → Bool} {k n : Nat} (h : k < n) (hk : p k = true) : anyTo p n = true := (anyTo_iff p n).2 ⟨k, h, hk⟩

/-- a predecessor -/
def befB (b : Int) : Bool := decide (b = -1) || ptB b
/-- two successors, both positions -/
def aftB (a : List Int) : Bool := decide (a.length = 2) && ptB (gt a 0) && ptB (gt a 1)
def ndB (n : Nd) : Bool := ptB n.pos && befB n.bef && aftB n.aft
def rokAt (r : List Nd) (k : Nat) : Bool := ndB (gn r k) && (decide (k = 0) || decide ((gn r (k - 1)).pos < (gn r k).pos))
/-- a valid ring -/
def rvB (r : List Nd) : Bool := decide (r.length ≤ 10) && allTo (rokAt r) r.length

/-- the positions of all nodes -/
def idsOf (r : List Nd) : List Int := r.map Nd.pos
/-- a node is live -/
def liveB (r : List Nd) (x : Int) : Bool := anyTo (fun i => decide ((gn r i).pos = x)) r.length
/-- a node skips a position -/
def skB (n : Nd) (x : Int) : Bool := btwI n.pos x (gt n.aft 0) || btwI (gt n.aft 0) x (gt n.aft 1)
def skdB (r : List Nd) (x : Int) : Bool := anyTo (fun k => skB (gn r k) x) r.length
/-- the principals among the first k nodes -/
def prTo (r : List Nd) : Nat → List Int
  | 0 => []
  | k + 1 => if skdB r (gn r k).pos then prTo r k else prTo r k ++ [(gn r k).pos]
def prL (r : List Nd) : List Int := prTo r r.length
/-- a node has a live successor -/
def lsB (r : List Nd) (n : Nd) : Bool := liveB r (gt n.aft 0) || liveB r (gt n.aft 1)
def sfB (r : List Nd) : Bool := allTo (fun k => lsB r (gn r k)) r.length && decide (3 ≤ (prL r).length)
/-- a safe ring -/
def safeB (r : List Nd) : Bool := rvB r && sfB r

/-- the ideal node at a place -/
def idNd (zs : List Int) (i : Nat) : Nd := ⟨gt zs i, gt zs ((i + zs.length - 1) % zs.length), [gt zs ((i + 1) % zs.length), gt zs ((i + 2) % zs.length)]⟩
def idR (zs : List Int) : List Nd := (List.range zs.length).map (idNd zs)
def sameN (a b : Nd) : Bool := decide (a.pos = b.pos) && decide (a.bef = b.bef) && decide (a.aft = b.aft)
def sameR (a b : List Nd) : Bool := decide (a.length = b.length) && allTo (fun i => sameN (gn a i) (gn b i)) a.length
/-- an ideal ring -/
def idlB (r : List Nd) : Bool := rvB r && decide (3 ≤ r.length) && sameR r (idR (idsOf r))

theorem befB_iff (b : Int) : befB b = true ↔ b = -1 ∨ 0 ≤ b ∧ b < 64 := by simp [befB, ptB]
theorem aftB_iff (a : List Int) : aftB a = true ↔ ∃ x y, a = [x, y] ∧ (0 ≤ x ∧ x < 64) ∧ 0 ≤ y ∧ y < 64 := by
  simp only [aftB, Bool.and_eq_true, decide_eq_true_eq, ptB_iff]
  constructor
  · rintro ⟨⟨hl, h0⟩, h1⟩
    match a, hl with
    | [x, y], _ => exact ⟨x, y, rfl, by simpa [gt] using h0, by simpa [gt] using h1⟩
  · rintro ⟨x, y, rfl, hx, hy⟩; simp [gt]; omega
theorem ndB_iff (n : Nd) : ndB n = true ↔ (0 ≤ n.pos ∧ n.pos < 64) ∧ (n.bef = -1 ∨ 0 ≤ n.bef ∧ n.bef < 64) ∧ ∃ x y, n.aft = [x, y] ∧ (0 ≤ x ∧ x < 64) ∧ 0 ≤ y ∧ y < 64 := by
  simp only [ndB, Bool.and_eq_true, ptB_iff, befB_iff, aftB_iff, and_assoc]
theorem rv_iff (r : List Nd) : rvB r = true ↔ r.length ≤ 10 ∧ ∀ k, k < r.length → ndB (gn r k) = true ∧ (k = 0 ∨ (gn r (k - 1)).pos < (gn r k).pos) := by
  simp only [rvB, Bool.and_eq_true, decide_eq_true_eq, allTo_iff, rokAt, Bool.or_eq_true]
theorem rv_nd {r : List Nd} (h : rvB r = true) {k : Nat} (hk : k < r.length) : ndB (gn r k) = true := ((rv_iff r).1 h).2 k hk |>.1
theorem rv_len {r : List Nd} (h : rvB r = true) : r.length ≤ 10 := ((rv_iff r).1 h).1
theorem rv_lt {r : List Nd} (h : rvB r = true) : ∀ {i j : Nat}, i < j → j < r.length → (gn r i).pos < (gn r j).pos := by
  intro i j hij hj
  induction j with
  | zero => omega
  | succ j ih =>
    have h1 := (((rv_iff r).1 h).2 (j + 1) hj).2
    have h2 : (gn r j).pos < (gn r (j + 1)).pos := by rcases h1 with h1 | h1; omega; exact h1
    rcases Nat.lt_or_ge i j with h3 | h3
    · have := ih h3 (by omega); omega
    · have : i = j := by omega
      subst this; exact h2
theorem rv_inj {r : List Nd} (h : rvB r = true) {i j : Nat} (hi : i < r.length) (hj : j < r.length) (he : (gn r i).pos = (gn r j).pos) : i = j := by
  rcases Nat.lt_trichotomy i j with h1 | h1 | h1
  · have := rv_lt h h1 hj; omega
  · exact h1
  · have := rv_lt h h1 hi; omega

theorem ids_len (r : List Nd) : (idsOf r).length = r.length := by simp [idsOf]
theorem ids_gt {r : List Nd} {i : Nat} (h : i < r.length) : gt (idsOf r) i = (gn r i).pos := by
  rw [gt_get (by simpa [idsOf] using h), gn_get h]; simp [idsOf]
theorem live_iff (r : List Nd) (x : Int) : liveB r x = true ↔ ∃ i, i < r.length ∧ (gn r i).pos = x := by simp [liveB, anyTo_iff]
theorem live_no (r : List Nd) (x : Int) : liveB r x = false ↔ ∀ i, i < r.length → (gn r i).pos ≠ x := by simp [liveB, anyTo_no]
theorem live_at {r : List Nd} {i : Nat} (h : i < r.length) : liveB r (gn r i).pos = true := (live_iff _ _).2 ⟨i, h, rfl⟩
theorem skd_iff (r : List Nd) (x : Int) : skdB r x = true ↔ ∃ k, k < r.length ∧ skB (gn r k) x = true := by simp [skdB, anyTo_iff]
theorem skd_no (r : List Nd) (x : Int) : skdB r x = false ↔ ∀ k, k < r.length → skB (gn r k) x = false := by simp [skdB, anyTo_no]

theorem mem_prTo (r : List Nd) (k : Nat) (x : Int) : x ∈ prTo r k ↔ ∃ i, i < k ∧ (gn r i).pos = x ∧ skdB r x = false := by
  induction k with
  | zero => simp [prTo]
  | succ k ih =>
    rw [prTo]
    cases hs : skdB r (gn r k).pos
    · simp only [Bool.false_eq_true, if_false, List.mem_append, ih, List.mem_singleton]
      constructor
      · rintro (⟨i, hi, h1, h2⟩ | rfl)
        · exact ⟨i, by omega, h1, h2⟩
        · exact ⟨k, by omega, rfl, hs⟩
      · rintro ⟨i, hi, h1, h2⟩
        rcases Nat.lt_or_ge i k with h | h
        · exact .inl ⟨i, h, h1, h2⟩
        · have : i = k := by omega
          subst this; exact .inr h1.symm
    · simp only [if_true, ih]
      constructor
      · rintro ⟨i, hi, h1, h2⟩; exact ⟨i, by omega, h1, h2⟩
      · rintro ⟨i, hi, h1, h2⟩
        rcases Nat.lt_or_ge i k with h | h
        · exact ⟨i, h, h1, h2⟩
        · have : i = k := by omega
          subst this; rw [h1] at hs; rw [hs] at h2; cases h2
theorem mem_pr (r : List Nd) (x : Int) : x ∈ prL r ↔ liveB r x = true ∧ skdB r x = false := by
  rw [prL, mem_prTo, live_iff]
  constructor
  · rintro ⟨i, h1, h2, h3⟩; exact ⟨⟨i, h1, h2⟩, h3⟩
  · rintro ⟨⟨i, h1, h2⟩, h3⟩; exact ⟨i, h1, h2, h3⟩
theorem prTo_len (r : List Nd) (k : Nat) : (prTo r k).length ≤ k := by
  induction k with
  | zero => simp [prTo]
  | succ k ih =>
    rw [prTo]
    split
    · omega
    · rw [List.length_append, List.length_singleton]; omega
/-- principals are ascending -/
theorem prTo_asc {r : List Nd} (h : rvB r = true) {k : Nat} (hk : k ≤ r.length) : (prTo r k).Pairwise (· < ·) := by
  induction k with
  | zero => simp [prTo]
  | succ k ih =>
    rw [prTo]
    split
    · exact ih (by omega)
    · rw [List.pairwise_append]
      refine ⟨ih (by omega), by simp, fun a ha b hb => ?_⟩
      rw [List.mem_singleton] at hb
      subst hb
      obtain ⟨i, hi, rfl, _⟩ := (mem_prTo _ _ _).1 ha
      exact rv_lt h hi (by omega)
theorem pr_nodup {r : List Nd} (h : rvB r = true) : (prL r).Nodup := (prTo_asc h (Nat.le_refl _)).imp (fun h => by omega)

/-- distinct numbers that all lie in a list are at most as many as the list has -/
theorem sub_len : ∀ (l zs : List Int), l.Nodup → (∀ x ∈ l, x ∈ zs) → l.length ≤ zs.length := by
  intro l
  induction l with
  | nil => intro zs _ _; simp
  | cons x l ih =>
    intro zs hn hs
    rw [List.nodup_cons] at hn
    have hx := hs x (by simp)
    have h1 := ih (zs.erase x) hn.2 (fun y hy => by
      have hne : y ≠ x := fun e => hn.1 (e ▸ hy)
      exact (List.mem_erase_of_ne hne).2 (hs y (by simp [hy])))
    rw [List.length_erase_of_mem hx] at h1
    have h2 : 0 < zs.length := List.length_pos_of_mem hx
    simp; omega

theorem btwI_iff (a x b : Int) : btwI a x b = true ↔ (a < b ∧ a < x ∧ x < b) ∨ (b ≤ a ∧ (a < x ∨ x < b)) := by simp [btwI]
theorem sf_iff (r : List Nd) : sfB r = true ↔ (∀ k, k < r.length → lsB r (gn r k) = true) ∧ 3 ≤ (prL r).length := by
  simp [sfB, allTo_iff]
theorem safe_iff (r : List Nd) : safeB r = true ↔ rvB r = true ∧ (∀ k, k < r.length → lsB r (gn r k) = true) ∧ 3 ≤ (prL r).length := by
  simp [safeB, sf_iff]
/-- what is skipped lies before the first successor, or at it, or behind it -/
theorem btw_part {n a0 a1 p : Int} (hn : 0 ≤ n ∧ n < 64) (h0 : 0 ≤ a0 ∧ a0 < 64) (h1 : 0 ≤ a1 ∧ a1 < 64) (hp : 0 ≤ p ∧ p < 64) (h : btwI n p a1 = true) :
    btwI n p a0 = true ∨ p = a0 ∨ btwI a0 p a1 = true := by
  simp only [btwI_iff] at *; omega
/-- a node of a safe ring knows its place, two successors, in order -/
theorem safe_order {r : List Nd} (h : safeB r = true) {k : Nat} (hk : k < r.length) : btwI (gn r k).pos (gt (gn r k).aft 0) (gt (gn r k).aft 1) = true := by
  obtain ⟨hv, _, h3⟩ := (safe_iff r).1 h
  obtain ⟨hp, _, x, y, ha, hx, hy⟩ := (ndB_iff _).1 (rv_nd hv hk)
  rw [ha]
  cases hb : btwI (gn r k).pos (gt [x, y] 0) (gt [x, y] 1)
  · exfalso
    have hs : ∀ q ∈ prL r, q ∈ [x, (gn r k).pos] := by
      intro q hq
      obtain ⟨hl, hnsk⟩ := (mem_pr _ _).1 hq
      obtain ⟨i, hi, hqi⟩ := (live_iff _ _).1 hl
      have hqp := ((ndB_iff _).1 (rv_nd hv hi)).1
      rw [hqi] at hqp
      have := (skd_no _ _).1 hnsk k hk
      rw [skB, ha] at this
      simp only [Bool.or_eq_false_iff] at this
      have e0 : gt [x, y] 0 = x := rfl
      have e1 : gt [x, y] 1 = y := rfl
      rw [e0, e1] at this hb
      rw [← Bool.not_eq_true, ← Bool.not_eq_true, btwI_iff, btwI_iff] at this
      rw [← Bool.not_eq_true, btwI_iff] at hb
      simp only [List.mem_cons, List.not_mem_nil, or_false]
      omega
    have := sub_len _ _ (pr_nodup hv) hs
    simp at this; omega
  · rfl
theorem safe_self {r : List Nd} (h : safeB r = true) {k : Nat} (hk : k < r.length) : gt (gn r k).aft 0 ≠ (gn r k).pos ∧ gt (gn r k).aft 1 ≠ (gn r k).pos ∧ gt (gn r k).aft 0 ≠ gt (gn r k).aft 1 := by
  obtain ⟨hv, _, h3⟩ := (safe_iff r).1 h
  have ho := safe_order h hk
  rw [btwI_iff] at ho
  refine ⟨by omega, fun e => ?_, by omega⟩
  obtain ⟨hp, _, x, y, ha, hx, hy⟩ := (ndB_iff _).1 (rv_nd hv hk)
  have e0 : gt [x, y] 0 = x := rfl
  have e1 : gt [x, y] 1 = y := rfl
  rw [ha, e1] at e
  have hs : ∀ q ∈ prL r, q ∈ [x, (gn r k).pos] := by
    intro q hq
    obtain ⟨hl, hnsk⟩ := (mem_pr _ _).1 hq
    obtain ⟨i, hi, hqi⟩ := (live_iff _ _).1 hl
    have hqp := ((ndB_iff _).1 (rv_nd hv hi)).1
    rw [hqi] at hqp
    have := (skd_no _ _).1 hnsk k hk
    rw [skB, ha, e0, e1] at this
    simp only [Bool.or_eq_false_iff] at this
    rw [← Bool.not_eq_true, ← Bool.not_eq_true, btwI_iff, btwI_iff] at this
    simp only [List.mem_cons, List.not_mem_nil, or_false]
    omega
  have := sub_len _ _ (pr_nodup hv) hs
  simp at this; omega
theorem safe_btw {r : List Nd} (h : safeB r = true) {k : Nat} (hk : k < r.length) {q : Int} (hq : q ∈ prL r) (hb : btwI (gn r k).pos q (gt (gn r k).aft 1) = true) : q = gt (gn r k).aft 0 := by
  obtain ⟨hv, _, h3⟩ := (safe_iff r).1 h
  obtain ⟨hp, _, x, y, ha, hx, hy⟩ := (ndB_iff _).1 (rv_nd hv hk)
  have e0 : gt [x, y] 0 = x := rfl
  have e1 : gt [x, y] 1 = y := rfl
  obtain ⟨hl, hnsk⟩ := (mem_pr _ _).1 hq
  obtain ⟨i, hi, hqi⟩ := (live_iff _ _).1 hl
  have hqp := ((ndB_iff _).1 (rv_nd hv hi)).1
  rw [hqi] at hqp
  have hsk := (skd_no _ _).1 hnsk k hk
  rw [skB, ha, e0, e1] at hsk
  simp only [Bool.or_eq_false_iff] at hsk
  rw [ha, e1] at hb
  rw [ha, e0]
  rcases btw_part hp hx hy hqp hb with h | h | h
  · rw [h] at hsk; cases hsk.1
  · exact h
  · rw [h] at hsk; cases hsk.2
end Go.Proofs.Ytfhjmfcdogpbeaa
